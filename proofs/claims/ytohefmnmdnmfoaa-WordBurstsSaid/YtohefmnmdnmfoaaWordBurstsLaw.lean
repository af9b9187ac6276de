/- Proved: a text whose bits are turned within 32 in a row has another sum, for every text, place and bits (P1.4); the arguments read behind the call as they read before. No condition. -/
import Derived.Test.YtohefmnmdnmfoaaRows
import Derived.WalkKit
import Derived.ProofKit
import Derived.OpenShut
import Derived.Test.YtohefmnmdnmfoaaRowKit
import Derived.Test.YtohefmnmdnmfoaaAlive
import Derived.Test.YtohefmnmdnmfoaaWb
namespace Go.Proofs.Ytohefmnmdnmfoaa.wordBursts
open Go Go.ChangeShapes Go.WideShapes Go.ChangeAt Go.RowKit Go.Proofs.Ytohefmnmdnmfoaa.RowKit Go.Proofs.Ytohefmnmdnmfoaa.Wm Go.Proofs.Ytohefmnmdnmfoaa.Wc Go.Proofs.Ytohefmnmdnmfoaa.Wb
open Go.ChangeMaps (open_string shut_string)
/-- Block b begins with these bytes, none of them frozen. -/
def CellsAre (w : World) (b : Nat) (M : List UInt8) : Prop := ∀ k (h : k < M.length), w.cell? ⟨b, k, none⟩ = some (.int .u8 ((M[k]).toNat : Int)) ∧ w.frozen? ⟨b, k, none⟩ = false
theorem cells_start (w : World) (s : ByteArray) (cap : Nat) (t : TypeId) :
    CellsAre (w.drew.alloc (.cells (bytesRow s cap) t ((bytesRow s cap).size, (bytesRow s cap).size + 1))) w.heap.size s.data.toList := by
  intro k h
  have hk : k < s.data.size := by simpa using h
  have hsz : k < (bytesRow s cap).size := by
    unfold bytesRow
    simp
    have : s.data.size = s.size := rfl
    omega
  constructor
  · have e := World.cell?_alloc_mark w.drew (bytesRow s cap) t ((bytesRow s cap).size, (bytesRow s cap).size + 1) k
    refine Eq.trans e ?_
    rw [bytesRow_at s cap k hk]
    rfl
  · have e := World.frozen?_alloc_mark w.drew (bytesRow s cap) t (bytesRow s cap).size ((bytesRow s cap).size + 1) k
    refine Eq.trans e ?_
    have : decide ((bytesRow s cap).size ≤ k) = false := by simp; omega
    rw [this]; rfl
theorem cells_set {w : World} {b : Nat} {M : List UInt8} (h : CellsAre w b M) (q : Nat) (hq : q < M.length) (c : UInt8) :
    CellsAre (w.setCell ⟨b, q, none⟩ (.int .u8 (c.toNat : Int))) b (M.set q c) := by
  intro k hk
  have hk' : k < M.length := by simpa using hk
  refine ⟨?_, by rw [World.frozen?_setCell]; exact (h k hk').2⟩
  by_cases e : q = k
  · subst e
    rw [World.cell?_setCell_same _ _ _ (h q hq).1]
    simp
  · rw [World.cell?_setCell_other _ _ _ _ (by intro x; injection x with _ x2; exact e x2), (h k hk').1]
    simp [e]
theorem u8_turn (b : UInt8) (r : Nat) (hr : r < 8) : bits .xor .u8 (b.toNat : Int) ((2 : Int) ^ r % 256) = ((b ^^^ UInt8.ofNat (2 ^ r)).toNat : Int) ∧ (b ^^^ UInt8.ofNat (2 ^ r)).toNat = b.toNat ^^^ 2 ^ r := by
  have hp : 2 ^ r < 256 := by
    have := Nat.pow_lt_pow_right (a := 2) (by omega) hr
    simpa using this
  have hb := b.toNat_lt
  have e1 : (b ^^^ UInt8.ofNat (2 ^ r)).toNat = b.toNat ^^^ 2 ^ r := by
    rw [UInt8.toNat_xor, UInt8.toNat_ofNat', Nat.mod_eq_of_lt hp]
  refine ⟨?_, e1⟩
  have e : (2 : Int) ^ r % 256 = ((2 ^ r : Nat) : Int) := by
    have e2 : (2 : Int) ^ r = ((2 ^ r : Nat) : Int) := by rw [Int.natCast_pow]; rfl
    rw [e2]; exact Int.emod_eq_of_lt (Int.natCast_nonneg _) (Int.ofNat_lt.2 hp)
  rw [e1, e]
  exact u8_xor_nat _ _ (by omega) hp
theorem walk_idle (s : ByteArray) (a t : Int) (hs : s.size ≤ maxLen) (h : s.size < 4 ∨ 8192 < s.size ∨ t = 0) (w : World) :
    Calls Try.prog 6 #[.string s, .int .u16 a, .int .u32 t] w fun e w' => e = .returned (.bool true) ∧ Below w.heap.size w w' := by
  have hm : s.size ≤ 9223372036854775807 := hs
  by_cases h1 : s.size < 4
  · go_enter Try.func6, Try.ntmps6
    go_wp2_with fail
    refine (WAlive.alive w).mono ?_
    rintro e w1 ⟨rfl, h1⟩
    go_wp2
    go_ret
    exact ⟨rfl, h1⟩
  · by_cases h2 : 8192 < s.size
    · clear h
      go_enter Try.func6, Try.ntmps6
      go_wp2_with fail
      refine (WAlive.alive w).mono ?_
      rintro e w1 ⟨rfl, h1⟩
      go_wp2
      go_ret
      exact ⟨rfl, h1⟩
    · obtain rfl : t = 0 := by omega
      clear h
      go_enter Try.func6, Try.ntmps6
      go_wp2_with fail
      refine (WAlive.alive w).mono ?_
      rintro e w1 ⟨rfl, h1⟩
      go_wp2
      go_ret
      exact ⟨rfl, h1⟩
set_option maxRecDepth 100000 in
set_option maxHeartbeats 1000000 in
theorem walk_turn (s : ByteArray) (a t : Int) (T : Nat) (h4 : 4 ≤ s.size) (h8 : s.size ≤ 8192) (ha : 0 ≤ a) (ha' : a < 65536) (hT : Hid (t = (T : Int))) (hT1 : Hid (T < 4294967296)) (hT0 : Hid (T ≠ 0)) (ht0 : (t == 0) = false) (w : World) :
    Calls Try.prog 6 #[.string s, .int .u16 a, .int .u32 t] w fun e w' => e = .returned (.bool true) ∧ Below w.heap.size w w' := by
  have n4 : ¬ s.size < 4 := by omega
  have n8 : ¬ 8192 < s.size := by omega
  have hst := cells_start w s (grownCap w s.size 0 5) 5
  have hbel : Below w.heap.size w (w.drew.alloc (.cells (bytesRow s (grownCap w s.size 0 5)) 5 ((bytesRow s (grownCap w s.size 0 5)).size, (bytesRow s (grownCap w s.size 0 5)).size + 1))) := (Below.refl _ _).drew.alloc (Nat.le_refl _) _
  have hcv := run_bytes_of_string (P := Try.prog) w 9 36 5 s WPut.undS WPut.undL WPut.undE
  have Hst := Lib.hid hst
  have Hbel := Lib.hid hbel
  clear hst hbel
  go_enter Try.func6, Try.ntmps6
  go_wp2
  clear hcv
  obtain ⟨I, hI⟩ : ∃ I : Nat, a % (8 * (s.size : Int) - 31) = (I : Int) := ⟨(a % (8 * (s.size : Int) - 31)).toNat, by
    have := Int.emod_nonneg a (show 8 * (s.size : Int) - 31 ≠ 0 by omega); omega⟩
  have hI1 : I + 31 < 8 * s.size := by
    have := Int.emod_lt_of_pos a (show 0 < 8 * (s.size : Int) - 31 by omega); omega
  rw [hI]
  clear hI
  go_loopw [9] (fun j wr => ∃ (k : Nat) (M : List UInt8), k ≤ 32 ∧ j = .int .i64 k ∧ M.length = s.size ∧ CellsAre wr w.heap.size M ∧ Hid (getL M = getL s.data.toList ^^^ 2 ^ I * (T % 2 ^ k)) ∧ Below w.heap.size w wr) (fun j _ => 32 - (intOf j).toNat)
  case atStart => exact ⟨0, s.data.toList, by omega, rfl, by simp, Hst.out, by show getL _ = _; rw [Nat.pow_zero, Nat.mod_one, Nat.mul_zero, Nat.xor_zero], Hbel.out⟩
  case round =>
    obtain ⟨k, M, hk, rfl, hM, hc, HM, hb⟩ := hrel
    by_cases hlt : k < 32
    · have HMl := Lib.hid hM
      have hq : (I + k) / 8 < s.size := by omega
      have hq' : (I + k) / 8 < M.length := by rw [hM]; exact hq
      obtain ⟨Q, hQ⟩ : ∃ Q, Q = (I + k) / 8 := ⟨_, rfl⟩
      obtain ⟨R, hR⟩ : ∃ R, R = (I + k) % 8 := ⟨_, rfl⟩
      have hR8 : R < 8 := by omega
      have fq : ((I : Int) + (k : Int)) / 8 = (Q : Int) := by omega
      have fr : ((I : Int) + (k : Int)) % 8 = (R : Int) := by omega
      rw [← hQ] at hq hq'
      have HQ := Lib.hid hQ
      have HR := Lib.hid hR
      clear hQ hR hM
      obtain ⟨c1, c2⟩ := hc Q hq'
      have HC := Lib.hid hc
      clear hc
      have htq : (t / 2 ^ k).tmod 2 = ((T / 2 ^ k % 2 : Nat) : Int) := by
        rw [hT.out, cast_div, Int.tmod_eq_emod_of_nonneg (Int.natCast_nonneg _), Int.natCast_emod]; rfl
      by_cases ho : T / 2 ^ k % 2 = 1
      · have fo : ((t / 2 ^ k).tmod 2 == 1) = true := by rw [htq, ho]; rfl
        have HO := Lib.hid ho
        clear htq ho
        go_wp2
        go_roundw
        case rel =>
          obtain ⟨t1, t2⟩ := u8_turn M[Q] R hR8
          have hset := cells_set HC.out Q hq' (M[Q] ^^^ UInt8.ofNat (2 ^ R))
          refine ⟨k + 1, M.set Q (M[Q] ^^^ UInt8.ofNat (2 ^ R)), by omega, by go_num, by rw [List.length_set]; exact HMl.out, by rw [t1]; exact hset, ?_, hb.setCell (Nat.le_refl _) _⟩
          have e1 := HQ.out
          have e2 := HR.out
          subst e1
          subst e2
          exact turn_step s.data.toList M I k T _ hq' HM.out HO.out t2
        case measure => simp [intOf]; omega
      · have fo : ((t / 2 ^ k).tmod 2 == 1) = false := by rw [htq, beq_eq_false_iff_ne]; omega
        have HO := Lib.hid ho
        clear htq ho
        go_wp2
        go_roundw
        case rel => exact ⟨k + 1, M, by omega, by go_num, HMl.out, HC.out, by show getL M = _; rw [low_same T k HO.out]; exact HM.out, hb⟩
        case measure => simp [intOf]; omega
    · obtain rfl : k = 32 := by omega
      have hcv2 := run_convert_bytes_back (P := Try.prog) wr 36 9 5 ⟨w.heap.size, 0, none⟩ (grownCap w s.size 0 5) M WPut.undL WPut.undE WPut.undS (fun j hj => by
        rw [WPut.addr_add]; exact (hc j hj).1)
      rw [hM] at hcv2
      have hlen : (⟨M.toArray⟩ : ByteArray).size = M.length := by simp [ByteArray.size]
      have hMx : (⟨M.toArray⟩ : ByteArray).size ≤ maxLen := by rw [hlen, hM]; unfold maxLen; omega
      have hsx : s.size ≤ maxLen := by unfold maxLen; omega
      have hne : ((crc M : Int) != (crc s.data.toList : Int)) = true := by
        have h := crc_burst s.data.toList M T I (by simp; omega) hT1.out hT0.out (by simp; omega) (by have h := HM.out; rw [Nat.mod_eq_of_lt (show T < 2 ^ 32 from hT1.out)] at h; exact h)
        rw [bne_iff_ne]
        intro x
        exact h (by omega)
      have HX := Lib.hid hMx
      have HS := Lib.hid hsx
      have HMl := Lib.hid hM
      clear hMx hsx hM hlen hc hlt hk
      go_wp2_with fail
      refine (WSum.sum_any ⟨M.toArray⟩ wr HX.out).mono ?_
      rintro e w1 ⟨rfl, b1⟩
      go_wp2_with fail
      refine (WSum.sum_any s w1 HS.out).mono ?_
      rintro e w2 ⟨rfl, b2⟩
      go_wp2_with fail
      refine (WAlive.alive w2).mono ?_
      rintro e w3 ⟨rfl, b3⟩
      go_wp2
      go_ret
      exact ⟨rfl, btrans (btrans (btrans hb b1) b2) b3⟩
theorem walk (s : ByteArray) (a t : Int) (hs : s.size ≤ maxLen) (ha : (Lit.int .u16 a).wf = true) (ht : (Lit.int .u32 t).wf = true) (w : World) :
    Calls Try.prog 6 #[.string s, .int .u16 a, .int .u32 t] w fun e w' => e = .returned (.bool true) ∧ Below w.heap.size w w' := by
  obtain ⟨ha0, ha1⟩ := wf_u16 ha
  obtain ⟨ht0, ht1⟩ := wf_u32 ht
  by_cases h : s.size < 4 ∨ 8192 < s.size ∨ t = 0
  · exact walk_idle s a t hs h w
  · exact walk_turn s a t t.toNat (by omega) (by omega) ha0 ha1 (by show t = _; omega) (by show t.toNat < 4294967296; omega) (by show t.toNat ≠ 0; omega) (by rw [beq_eq_false_iff_ne]; omega) w
/- The row: from the walk to the given statement. -/
theorem own : ownKnob Try.prog.godebug = none := by kernel_rfl
set_option maxRecDepth 100000 in
theorem lifted (os : Os) (started : os.Started) (H : Type) (enc : TypeId × Value → H) :
    ReturnsInHanded {} Try.checked os 6 .any (Rows.wordBurstsSpec.pre6 enc Try.prog Try.f6 Rows.wordBurstsRow.domain false) (Rows.wordBurstsSpec.post enc Try.prog Try.f6 false true false false) := by
  refine returnsInHanded_of_change (C := Try.checked) own started (by kernel_rfl) Try.func6
    (ChangeSpec.witness6 (enc := enc) (C := Try.checked) false ⟨#[], #[.string ⟨#[]⟩, .int .u16 0, .int .u32 0], []⟩ 8 (by kernel_rfl) (by kernel_rfl) (by kernel_rfl) (by kernel_rfl)) ?_
  intro W base args ds gs before hval0 hW hcnd _
  have hval : ∀ (j : Nat) t v, Try.f6.params[j]? = some t → args[j]? = some v → Value.okWide Try.prog W .any base t v := hval0
  have hW' := hW
  obtain ⟨p, q, hA0, hV, rfl, hfz, hnd⟩ := hW
  have hA : DataW.TrodAll enc Try.prog W 0 (fun _ => true) true Try.f6.params.toList args.toList ds p := hA0
  rw [Try.params6] at hA hval
  obtain ⟨v0, vs0, d0, ds0, p0, q0, hargs, rfl, rfl, h0, r0⟩ := trodAll_cons hA
  obtain ⟨v1, vs1, d1, ds1, p1, q1, rfl, rfl, rfl, h1, r1⟩ := trodAll_cons r0
  obtain ⟨v2, vs2, d2, ds2, p2, q2, rfl, rfl, rfl, h2, r2⟩ := trodAll_cons r1
  obtain ⟨rfl, rfl, rfl⟩ := trodAll_nil r2
  obtain rfl : args = #[v0, v1, v2] := by cases args; simp_all
  obtain ⟨rfl, rfl⟩ := trodVars_none hV
  obtain ⟨a0, rfl, rfl, rfl, w0⟩ := open_string Try.underlying9 (hval 0 9 v0 rfl rfl) h0
  obtain ⟨a1, rfl, rfl, rfl, w1⟩ := open_int Try.underlying35 (hval 1 35 v1 rfl rfl) h1
  obtain ⟨a2, rfl, rfl, rfl, w2⟩ := open_int Try.underlying30 (hval 2 30 v2 rfl rfl) h2
  clear hA0 hval0
  simp only [List.append_nil] at hW'
  refine (walk a0 a1 a2 w0 w1 w2 W).mono fun e W' ⟨he, hg⟩ => ?_
  subst he
  exact ⟨_, rfl, _, _, _, [], _, [], hW', trodAll_mk1 (shut_bool Try.underlying4 _), (trodAll_cons_mk (shut_string Try.underlying9 w0) (trodAll_cons_mk (shut_int Try.underlying35 w1) (trodAll_cons_mk (shut_int Try.underlying30 w2) trodAll_mk0))), rfl, hg.frame _, fun h => by cases h⟩
theorem over : Rows.wordBurstsRow.holds Try.pinned (OpenSpec.ofChange Rows.wordBurstsSpec) :=
  OpenClaim.holds_of_wide 6 Try.f6 rfl rfl rfl rfl rfl rfl rfl ⟨rfl, rfl, rfl, rfl, rfl⟩ rfl rfl rfl rfl rfl (by kernel_rfl) Try.func6 (by kernel_rfl)
    (of_decide_eq_true (by kernel_rfl)) (by unfold Func.isWrapper; first | (rw [if_pos (by decide +kernel)]; kernel_rfl) | (rw [if_neg (by decide +kernel)]; exact ⟨rfl, rfl⟩))
    (fun os started H enc _ => lifted os started H enc)
/-- The given statement. -/
theorem proved : Rows.WordBurstsSaid := over
end Go.Proofs.Ytohefmnmdnmfoaa.wordBursts
