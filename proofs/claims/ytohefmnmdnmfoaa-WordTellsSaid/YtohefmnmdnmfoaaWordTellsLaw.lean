/- Proved: word.Put, Get, Hex and Unhex answer what the document asks, for every number, every count and every text (P1.1, P1.3); the arguments read behind the call as they read before. No condition. -/
import Derived.Test.YtohefmnmdnmfoaaRows
import Derived.WalkKit
import Derived.ProofKit
import Derived.OpenShut
import Derived.Test.YtohefmnmdnmfoaaRowKit
import Derived.Test.YtohefmnmdnmfoaaAlive
import Derived.Test.YtohefmnmdnmfoaaRefPut
import Derived.Test.YtohefmnmdnmfoaaRefHex
namespace Go.Proofs.Ytohefmnmdnmfoaa.wordTells
open Go Go.ChangeShapes Go.WideShapes Go.ChangeAt Go.RowKit Go.Proofs.Ytohefmnmdnmfoaa.RowKit Go.Proofs.Ytohefmnmdnmfoaa.Wm Go.Proofs.Ytohefmnmdnmfoaa.Wc
open Go.ChangeMaps (open_string shut_string)
theorem put_any (v n : Int) (w : World) (hv : 0 ≤ v) : ∃ (A : ByteArray) (x : Int), Calls Try.prog 7 #[.int .u64 v, .int .i64 n] w (fun e w' => e = .returned (.tuple #[.string A, .int .i64 x]) ∧ Below w.heap.size w w') ∧
    (v < 18446744073709551616 → ∀ W : World, Calls Try.prog 8 #[.int .u64 v, .int .i64 n] W (fun e w' => e = .returned (.tuple #[.string A, .int .i64 x]) ∧ Below W.heap.size W w')) :=
  ⟨_, _, WPut.any v n w hv, fun hv' W => WRefPut.put_any v n W hv hv'⟩
theorem get_any (s : ByteArray) (w : World) (hs : s.size ≤ maxLen) : ∃ (y x : Int), Calls Try.prog 9 #[.string s] w (fun e w' => e = .returned (.tuple #[.int .u64 y, .int .i64 x]) ∧ w = w') ∧
    Calls Try.prog 10 #[.string s] w (fun e w' => e = .returned (.tuple #[.int .u64 y, .int .i64 x]) ∧ w = w') :=
  ⟨_, _, WGet.any s w hs, WRefPut.get_any s w hs⟩
theorem hex_any (v n : Int) (w : World) (hv : 0 ≤ v) (hv' : v < 18446744073709551616) : ∃ (A : ByteArray) (x : Int), Calls Try.prog 11 #[.int .u64 v, .int .i64 n] w (fun e w' => e = .returned (.tuple #[.string A, .int .i64 x]) ∧ Below w.heap.size w w') ∧
    ∀ W : World, Calls Try.prog 12 #[.int .u64 v, .int .i64 n] W (fun e w' => e = .returned (.tuple #[.string A, .int .i64 x]) ∧ W = w') :=
  ⟨_, _, WHex.any v n w hv, fun W => WRefHex.hex_any v n W hv hv'⟩
theorem unhex_any (s : ByteArray) (w : World) (hs : s.size ≤ maxLen) : ∃ (y x : Int), Calls Try.prog 13 #[.string s] w (fun e w' => e = .returned (.tuple #[.int .u64 y, .int .i64 x]) ∧ Below w.heap.size w w') ∧
    ∀ W : World, Calls Try.prog 14 #[.string s] W (fun e w' => e = .returned (.tuple #[.int .u64 y, .int .i64 x]) ∧ W = w') :=
  ⟨_, _, WUnhex.any s w hs, fun W => WRefHex.unhex_any s W hs⟩
set_option maxRecDepth 100000 in
set_option maxHeartbeats 1000000 in
theorem walk (v n m : Int) (s d : ByteArray) (hv : (Lit.int .u64 v).wf = true) (_hn : (Lit.int .i64 n).wf = true) (_hm : (Lit.int .i64 m).wf = true) (hs : s.size ≤ maxLen) (hd : d.size ≤ maxLen) (w : World) :
    Calls Try.prog 3 #[.int .u64 v, .int .i64 n, .int .i64 m, .string s, .string d] w fun e w' => e = .returned (.bool true) ∧ Below w.heap.size w w' := by
  obtain ⟨hv0, hv1⟩ := wf_u64 hv
  have HV := Lib.hid hv1
  have HV0 := Lib.hid hv0
  have HS := Lib.hid hs
  have HD := Lib.hid hd
  clear hv _hn _hm hs hd hv1 hv0
  go_enter Try.func3, Try.ntmps3
  go_wp2_with fail
  obtain ⟨A, x, c1, c2⟩ := put_any v n w HV0.out
  have C2 := Lib.hid c2
  clear c2
  refine c1.mono ?_
  clear c1
  rintro e w1 ⟨rfl, h1⟩
  go_wp2_with fail
  refine (C2.out HV.out _).mono ?_
  rintro e w2 ⟨rfl, h2⟩
  have hB2 := btrans h1 h2
  clear h1 h2
  go_wp2_with fail
  obtain ⟨y, z, c1, c2⟩ := get_any s w2 HS.out
  have C3 := Lib.hid c2
  clear c2
  refine c1.mono ?_
  clear c1
  rintro e w3 ⟨rfl, rfl⟩
  go_wp2_with fail
  refine C3.out.mono ?_
  rintro e w3 ⟨rfl, rfl⟩
  go_wp2_with fail
  obtain ⟨B, u, c1, c2⟩ := hex_any v m w2 HV0.out HV.out
  have C4 := Lib.hid c2
  clear c2
  refine c1.mono ?_
  clear c1
  rintro e w4 ⟨rfl, h4⟩
  have hB4 := btrans hB2 h4
  clear h4
  go_wp2_with fail
  refine (C4.out _).mono ?_
  rintro e w5 ⟨rfl, rfl⟩
  go_wp2_with fail
  obtain ⟨p, q, c1, c2⟩ := unhex_any d w4 HD.out
  have C5 := Lib.hid c2
  clear c2
  refine c1.mono ?_
  clear c1
  rintro e w6 ⟨rfl, h6⟩
  have hB6 := btrans hB4 h6
  clear h6
  go_wp2_with fail
  refine (C5.out _).mono ?_
  rintro e w7 ⟨rfl, rfl⟩
  go_wp2_with fail
  refine (WAlive.alive w6).mono ?_
  rintro e w8 ⟨rfl, h8⟩
  go_wp2
  go_ret
  exact ⟨rfl, btrans hB6 h8⟩
/- The row: from the walk to the given statement. -/
theorem own : ownKnob Try.prog.godebug = none := by kernel_rfl
set_option maxRecDepth 100000 in
theorem lifted (os : Os) (started : os.Started) (H : Type) (enc : TypeId × Value → H) :
    ReturnsInHanded {} Try.checked os 3 .any (Rows.wordTellsSpec.pre6 enc Try.prog Try.f3 Rows.wordTellsRow.domain false) (Rows.wordTellsSpec.post enc Try.prog Try.f3 false true false false) := by
  refine returnsInHanded_of_change (C := Try.checked) own started (by kernel_rfl) Try.func3
    (ChangeSpec.witness6 (enc := enc) (C := Try.checked) false ⟨#[], #[.int .u64 0, .int .i64 0, .int .i64 0, .string ⟨#[]⟩, .string ⟨#[]⟩], []⟩ 8 (by kernel_rfl) (by kernel_rfl) (by kernel_rfl) (by kernel_rfl)) ?_
  intro W base args ds gs before hval0 hW hcnd _
  have hval : ∀ (j : Nat) t v, Try.f3.params[j]? = some t → args[j]? = some v → Value.okWide Try.prog W .any base t v := hval0
  have hW' := hW
  obtain ⟨p, q, hA0, hV, rfl, hfz, hnd⟩ := hW
  have hA : DataW.TrodAll enc Try.prog W 0 (fun _ => true) true Try.f3.params.toList args.toList ds p := hA0
  rw [Try.params3] at hA hval
  obtain ⟨v0, vs0, d0, ds0, p0, q0, hargs, rfl, rfl, h0, r0⟩ := trodAll_cons hA
  obtain ⟨v1, vs1, d1, ds1, p1, q1, rfl, rfl, rfl, h1, r1⟩ := trodAll_cons r0
  obtain ⟨v2, vs2, d2, ds2, p2, q2, rfl, rfl, rfl, h2, r2⟩ := trodAll_cons r1
  obtain ⟨v3, vs3, d3, ds3, p3, q3, rfl, rfl, rfl, h3, r3⟩ := trodAll_cons r2
  obtain ⟨v4, vs4, d4, ds4, p4, q4, rfl, rfl, rfl, h4, r4⟩ := trodAll_cons r3
  obtain ⟨rfl, rfl, rfl⟩ := trodAll_nil r4
  obtain rfl : args = #[v0, v1, v2, v3, v4] := by cases args; simp_all
  obtain ⟨rfl, rfl⟩ := trodVars_none hV
  obtain ⟨a0, rfl, rfl, rfl, w0⟩ := open_int Try.underlying22 (hval 0 22 v0 rfl rfl) h0
  obtain ⟨a1, rfl, rfl, rfl, w1⟩ := open_int Try.underlying3 (hval 1 3 v1 rfl rfl) h1
  obtain ⟨a2, rfl, rfl, rfl, w2⟩ := open_int Try.underlying3 (hval 2 3 v2 rfl rfl) h2
  obtain ⟨a3, rfl, rfl, rfl, w3⟩ := open_string Try.underlying9 (hval 3 9 v3 rfl rfl) h3
  obtain ⟨a4, rfl, rfl, rfl, w4⟩ := open_string Try.underlying9 (hval 4 9 v4 rfl rfl) h4
  clear hA0 hval0
  simp only [List.append_nil] at hW'
  refine (walk a0 a1 a2 a3 a4 w0 w1 w2 w3 w4 W).mono fun e W' ⟨he, hg⟩ => ?_
  subst he
  exact ⟨_, rfl, _, _, _, [], _, [], hW', trodAll_mk1 (shut_bool Try.underlying4 _), (trodAll_cons_mk (shut_int Try.underlying22 w0) (trodAll_cons_mk (shut_int Try.underlying3 w1) (trodAll_cons_mk (shut_int Try.underlying3 w2) (trodAll_cons_mk (shut_string Try.underlying9 w3) (trodAll_cons_mk (shut_string Try.underlying9 w4) trodAll_mk0))))), rfl, hg.frame _, fun h => by cases h⟩
theorem over : Rows.wordTellsRow.holds Try.pinned (OpenSpec.ofChange Rows.wordTellsSpec) :=
  OpenClaim.holds_of_wide 3 Try.f3 rfl rfl rfl rfl rfl rfl rfl ⟨rfl, rfl, rfl, rfl, rfl⟩ rfl rfl rfl rfl rfl (by kernel_rfl) Try.func3 (by kernel_rfl)
    (of_decide_eq_true (by kernel_rfl)) (by unfold Func.isWrapper; first | (rw [if_pos (by decide +kernel)]; kernel_rfl) | (rw [if_neg (by decide +kernel)]; exact ⟨rfl, rfl⟩))
    (fun os started H enc _ => lifted os started H enc)
/-- The given statement. -/
theorem proved : Rows.WordTellsSaid := over
end Go.Proofs.Ytohefmnmdnmfoaa.wordTells
