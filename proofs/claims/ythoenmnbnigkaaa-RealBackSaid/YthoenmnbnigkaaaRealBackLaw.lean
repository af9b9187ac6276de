/- Proved: what is a key leads back, and what was told is read, for any bits and any key (P3.2 to P3.4); the arguments read behind the call as they read before. No condition. -/
import Derived.Test.YthoenmnbnigkaaaRows
import Derived.WalkKit
import Derived.ProofKit
import Derived.OpenShut
import Derived.Test.YthoenmnbnigkaaaRowKit
import Derived.Test.YthoenmnbnigkaaaRo
namespace Go.Proofs.Ythoenmnbnigkaaa.realBack
open Go Go.ChangeShapes Go.WideShapes Go.ChangeAt Go.RowKit Go.Proofs.Ythoenmnbnigkaaa.RowKit Go.Proofs.Ythoenmnbnigkaaa.Wm Go.Proofs.Ythoenmnbnigkaaa.Rm
open Go.ChangeMaps (open_string shut_string)
set_option maxRecDepth 100000 in
set_option maxHeartbeats 1000000 in
theorem walk_at (a key c k x : Nat) (g : Int) (t : ByteArray) (w : World) (ht : t.size = 16)
    (c1 : ∀ w, Calls Try.prog 10 #[.int .u64 (a : Int)] w fun e w' => e = .returned (.int .u64 (c : Int)) ∧ w = w')
    (k1 : ∀ w, Calls Try.prog 14 #[.int .u64 (a : Int)] w fun e w' => e = .returned (.int .u64 (k : Int)) ∧ w = w')
    (b1 : ∀ w, Calls Try.prog 6 #[.int .u64 (k : Int)] w fun e w' => e = .returned (.tuple #[.int .u64 (c : Int), .int .i64 0]) ∧ w = w')
    (t1 : ∀ w, Calls Try.prog 16 #[.int .u64 (a : Int)] w fun e w' => e = .returned (.string t) ∧ Below w.heap.size w w')
    (r1 : ∀ w, Calls Try.prog 8 #[.string t] w fun e w' => e = .returned (.tuple #[.int .u64 (c : Int), .int .i64 0]) ∧ Below w.heap.size w w')
    (c2 : ∀ w, Calls Try.prog 10 #[.int .u64 (c : Int)] w fun e w' => e = .returned (.int .u64 (c : Int)) ∧ w = w')
    (t2 : ∀ w, Calls Try.prog 16 #[.int .u64 (c : Int)] w fun e w' => e = .returned (.string t) ∧ Below w.heap.size w w')
    (b2 : ∀ w, Calls Try.prog 6 #[.int .u64 (key : Int)] w fun e w' => e = .returned (.tuple #[.int .u64 (x : Int), .int .i64 g]) ∧ w = w')
    (hg : (g = 0 ∧ (∀ w, Calls Try.prog 14 #[.int .u64 (x : Int)] w fun e w' => e = .returned (.int .u64 (key : Int)) ∧ w = w') ∧
        (∀ w, Calls Try.prog 10 #[.int .u64 (x : Int)] w fun e w' => e = .returned (.int .u64 (x : Int)) ∧ w = w')) ∨ (g = 2 ∧ x = 0))
    (al : ∀ w, Calls Try.prog 18 #[] w fun e w' => e = .returned (.bool true) ∧ Below w.heap.size w w') :
    Calls Try.prog 5 #[.int .u64 (a : Int), .int .u64 (key : Int)] w fun e w' => e = .returned (.bool true) ∧ Below w.heap.size w w' := by
  go_enter Try.func5, Try.ntmps5
  go_wp2_with fail
  refine (c1 _).mono ?_
  rintro e w1 ⟨rfl, rfl⟩
  go_wp2_with fail
  refine (k1 _).mono ?_
  rintro e w1 ⟨rfl, rfl⟩
  go_wp2_with fail
  refine (b1 _).mono ?_
  rintro e w1 ⟨rfl, rfl⟩
  go_wp2_with fail
  refine (t1 _).mono ?_
  rintro e w1 ⟨rfl, h1⟩
  go_wp2_with fail
  refine (r1 _).mono ?_
  rintro e w2 ⟨rfl, h2⟩
  have h2 := btrans h1 h2
  clear h1
  go_wp2_with fail
  refine (c2 _).mono ?_
  rintro e w3 ⟨rfl, rfl⟩
  go_wp2_with fail
  refine (t2 _).mono ?_
  rintro e w3 ⟨rfl, h3⟩
  have h3 := btrans h2 h3
  clear h2
  go_wp2_with fail
  refine (b2 _).mono ?_
  rintro e w4 ⟨rfl, rfl⟩
  rcases hg with ⟨rfl, k2, c3⟩ | ⟨rfl, rfl⟩
  · go_wp2_with fail
    refine (k2 _).mono ?_
    rintro e w4 ⟨rfl, rfl⟩
    go_wp2_with fail
    refine (c3 _).mono ?_
    rintro e w4 ⟨rfl, rfl⟩
    go_wp2_with fail
    refine (al _).mono ?_
    rintro e w4 ⟨rfl, h4⟩
    go_wp2
    go_ret
    exact ⟨rfl, btrans h3 h4⟩
  · go_wp2_with fail
    refine (al _).mono ?_
    rintro e w4 ⟨rfl, h4⟩
    go_wp2
    go_ret
    exact ⟨rfl, btrans h3 h4⟩
theorem walk_nat (a key : Nat) (ha : a < 18446744073709551616) (hk : key < 18446744073709551616) (w : World) :
    Calls Try.prog 5 #[.int .u64 (a : Int), .int .u64 (key : Int)] w fun e w' => e = .returned (.bool true) ∧ Below w.heap.size w w' := by
  have hc := canon_lt ha
  refine walk_at a key (Rm.canon a) (Rm.key a) (Rm.back key).1 (Rm.back key).2 ⟨(Rk.text a).toArray⟩ w (by simp [ByteArray.size, Ro.text_length])
    (fun w => Rk.canon_any a w) (fun w => Rk.key_any a w ha) (fun w => ?_) (fun w => Rk.text_any a w ha) (fun w => ?_) (fun w => ?_) (fun w => ?_) (fun w => Rk.back_any key w hk) ?_ Rg.alive
  · have h := Rk.back_any (Rm.key a) w key_lt
    rw [Ro.back_key ha] at h
    exact h
  · have h := Rk.read_any ⟨(Rk.text a).toArray⟩ w (by simp only [ByteArray.size, List.size_toArray, Ro.text_length]; decide)
    have e : (⟨(Rk.text a).toArray⟩ : ByteArray).data.toList = Rk.text a := rfl
    rw [e, Ro.read_text ha] at h
    exact h
  · have h := Rk.canon_any (Rm.canon a) w
    rw [canon_canon] at h
    exact h
  · have h := Rk.text_any (Rm.canon a) w hc
    rw [Ro.text_canon] at h
    exact h
  · rcases Ro.key_back hk with ⟨h1, h2, h3, h4⟩ | ⟨h1, h2⟩
    · refine Or.inl ⟨h1, fun w => ?_, fun w => ?_⟩
      · have h := Rk.key_any (Rm.back key).1 w h4
        rw [h2] at h
        exact h
      · have h := Rk.canon_any (Rm.back key).1 w
        rw [h3] at h
        exact h
    · exact Or.inr ⟨h1, h2⟩
theorem walk (a key : Int) (ha : (Lit.int .u64 a).wf = true) (hk : (Lit.int .u64 key).wf = true) (w : World) :
    Calls Try.prog 5 #[.int .u64 a, .int .u64 key] w fun e w' => e = .returned (.bool true) ∧ Below w.heap.size w w' := by
  obtain ⟨a0, a1⟩ := wf_u64 ha
  obtain ⟨k0, k1⟩ := wf_u64 hk
  obtain ⟨x, rfl⟩ := Int.eq_ofNat_of_zero_le a0
  obtain ⟨z, rfl⟩ := Int.eq_ofNat_of_zero_le k0
  exact walk_nat x z (by omega) (by omega) w
/- The row: from the walk to the given statement. -/
theorem own : ownKnob Try.prog.godebug = none := by kernel_rfl
set_option maxRecDepth 100000 in
theorem lifted (os : Os) (started : os.Started) (H : Type) (enc : TypeId × Value → H) :
    ReturnsInHanded {} Try.checked os 5 .any (Rows.realBackSpec.pre6 enc Try.prog Try.f5 Rows.realBackRow.domain false) (Rows.realBackSpec.post enc Try.prog Try.f5 false true false false) := by
  refine returnsInHanded_of_change (C := Try.checked) own started (by kernel_rfl) Try.func5
    (ChangeSpec.witness6 (enc := enc) (C := Try.checked) false ⟨#[], #[.int .u64 0, .int .u64 0], []⟩ 8 (by kernel_rfl) (by kernel_rfl) (by kernel_rfl) (by kernel_rfl)) ?_
  intro W base args ds gs before hval0 hW hcnd _
  have hval : ∀ (j : Nat) t v, Try.f5.params[j]? = some t → args[j]? = some v → Value.okWide Try.prog W .any base t v := hval0
  have hW' := hW
  obtain ⟨p, q, hA0, hV, rfl, hfz, hnd⟩ := hW
  have hA : DataW.TrodAll enc Try.prog W 0 (fun _ => true) true Try.f5.params.toList args.toList ds p := hA0
  rw [Try.params5] at hA hval
  obtain ⟨v0, vs0, d0, ds0, p0, q0, hargs, rfl, rfl, h0, r0⟩ := trodAll_cons hA
  obtain ⟨v1, vs1, d1, ds1, p1, q1, rfl, rfl, rfl, h1, r1⟩ := trodAll_cons r0
  obtain ⟨rfl, rfl, rfl⟩ := trodAll_nil r1
  obtain rfl : args = #[v0, v1] := by cases args; simp_all
  obtain ⟨rfl, rfl⟩ := trodVars_none hV
  obtain ⟨a0, rfl, rfl, rfl, w0⟩ := open_int Try.underlying22 (hval 0 22 v0 rfl rfl) h0
  obtain ⟨a1, rfl, rfl, rfl, w1⟩ := open_int Try.underlying22 (hval 1 22 v1 rfl rfl) h1
  clear hA0 hval0
  simp only [List.append_nil] at hW'
  refine (walk a0 a1 w0 w1 W).mono fun e W' ⟨he, hg⟩ => ?_
  subst he
  exact ⟨_, rfl, _, _, _, [], _, [], hW', trodAll_mk1 (shut_bool Try.underlying4 _), (trodAll_cons_mk (shut_int Try.underlying22 w0) (trodAll_cons_mk (shut_int Try.underlying22 w1) trodAll_mk0)), rfl, hg.frame _, fun h => by cases h⟩
theorem over : Rows.realBackRow.holds Try.pinned (OpenSpec.ofChange Rows.realBackSpec) :=
  OpenClaim.holds_of_wide 5 Try.f5 rfl rfl rfl rfl rfl rfl rfl ⟨rfl, rfl, rfl, rfl, rfl⟩ rfl rfl rfl rfl rfl (by kernel_rfl) Try.func5 (by kernel_rfl)
    (of_decide_eq_true (by kernel_rfl)) (by unfold Func.isWrapper; first | (rw [if_pos (by decide +kernel)]; kernel_rfl) | (rw [if_neg (by decide +kernel)]; exact ⟨rfl, rfl⟩))
    (fun os started H enc _ => lifted os started H enc)
/-- The given statement. -/
theorem proved : Rows.RealBackSaid := over
end Go.Proofs.Ythoenmnbnigkaaa.realBack
