/- ValueFloats: which way a pair of floats goes. -/
import Derived.Test.YtjkfgchjdhgbgaaDoorVg
namespace Go.Proofs.YtjkfgchjdhgbgaaDoor.Vp
open Go Go.RowKit Go.Proofs.YtjkfgchjdhgbgaaDoor.Vm Go.Proofs.YtjkfgchjdhgbgaaDoor.Vl Go.Proofs.YtjkfgchjdhgbgaaDoor.Ve Go.Proofs.YtjkfgchjdhgbgaaDoor.Vr Go.Proofs.YtjkfgchjdhgbgaaDoor.Vs Go.Proofs.YtjkfgchjdhgbgaaDoor.Vc Go.Proofs.YtjkfgchjdhgbgaaDoor.Vk Go.Proofs.YtjkfgchjdhgbgaaDoor.Vg Go.Proofs.YtjkfgchjdhgbgaaDoor.Rm
theorem less_canon {x y : Nat} (hx : x < 18446744073709551616) (hy : y < 18446744073709551616) : Rm.less (canon x) (canon y) = Rm.less x y := by
  rw [less_key (canon_lt hx) (canon_lt hy), less_key hx hy]
  unfold Rm.key
  rw [canon_canon, canon_canon]
theorem nan_not {a b : Nat} (h : bad a = true) : Rm.less a b = false := by
  have hp := (place_nan a).2 h
  have hq := place_le b
  unfold Rm.less
  rw [hp]
  by_cases e : Rm.place b = 2
  · rw [e, if_neg (by simp), if_neg (by simp), canon_bad h, canon_bad ((place_nan b).1 e)]
    exact decide_eq_false (by omega)
  · rw [if_pos (by omega)]
    exact decide_eq_false (by omega)
theorem nan_last {a b : Nat} (h : bad a = false) (h' : bad b = true) : Rm.less a b = true := by
  have hp := (place_nan b).2 h'
  have hq := place_le a
  have hr : ¬ Rm.place a = 2 := fun c => by rw [(place_nan a).1 c] at h; cases h
  unfold Rm.less
  rw [hp, if_pos (by omega)]
  exact decide_eq_true (by omega)
/-- Two numbers: they are compared by their worths. -/
theorem eq_val {x y : Nat} (h : bad x = false) (h' : bad y = false) : (Ieee.double.order x y == some .eq) = decide (Fo.val x = Fo.val y) := by
  rw [Fo.order_num (bad_not.1 h) (bad_not.1 h')]
  unfold Fo.cmp
  by_cases c : Fo.val x < Fo.val y
  · rw [if_pos c, decide_eq_false (by omega)]; rfl
  · rw [if_neg c]
    by_cases e : Fo.val x = Fo.val y
    · rw [if_pos e, decide_eq_true e]; rfl
    · rw [if_neg e, decide_eq_false e]; rfl
/-- Behind each other as bits, unless both are noughts. -/
theorem less_val {x y : Nat} (hx : x < 18446744073709551616) (hy : y < 18446744073709551616) (h : bad x = false) (h' : bad y = false) (he : ¬ Fo.val x = Fo.val y) : Rm.less x y = decide (Fo.val x < Fo.val y) := by
  rw [← less_prog hx hy, val_lt_iff h h']
  by_cases c : Fo.val x < Fo.val y
  · rw [decide_eq_true c, Bool.or_true]
  · rw [decide_eq_false c, Bool.or_false]
    apply decide_eq_false
    intro hp
    have hv := Fo.val_lt hx hy
    have px : Rm.place x = if 9223372036854775808 ≤ x then 0 else 1 := by unfold Rm.place; rw [h]; rfl
    have py : Rm.place y = if 9223372036854775808 ≤ y then 0 else 1 := by unfold Rm.place; rw [h']; rfl
    by_cases a : 9223372036854775808 ≤ x
    · by_cases b : 9223372036854775808 ≤ y
      · rw [if_pos a] at px; rw [if_pos b] at py; omega
      · rw [if_pos a, if_neg b] at hv
        have hz : x = 9223372036854775808 ∧ y = 0 := Classical.not_not.1 fun hc => c (hv.2 hc)
        apply he
        rw [(Fo.val_zero hx).2 (.inr hz.1), (Fo.val_zero hy).2 (.inl hz.2)]
    · rw [if_neg a] at px
      split at py <;> omega
theorem eq_ways {x y : Nat} (hx : x < 18446744073709551616) (hy : y < 18446744073709551616) (he : Fo.val x = Fo.val y) : x = y ∨ (x = 9223372036854775808 ∧ y = 0) ∨ (x = 0 ∧ y = 9223372036854775808) := by
  have h1 : ¬ Fo.val x < Fo.val y := by omega
  have h2 : ¬ Fo.val y < Fo.val x := by omega
  rw [Fo.val_lt hx hy] at h1
  rw [Fo.val_lt hy hx] at h2
  by_cases a : 9223372036854775808 ≤ x
  · by_cases b : 9223372036854775808 ≤ y
    · rw [if_pos a, if_pos b] at h1; rw [if_pos b, if_pos a] at h2; exact .inl (by omega)
    · rw [if_pos a, if_neg b] at h1; exact .inr (.inl (Classical.not_not.1 h1))
  · by_cases b : 9223372036854775808 ≤ y
    · rw [if_pos b, if_neg a] at h2
      have := Classical.not_not.1 h2
      exact .inr (.inr ⟨this.2, this.1⟩)
    · rw [if_neg a, if_neg b] at h1; rw [if_neg b, if_neg a] at h2; exact .inl (by omega)
/-- What the values of two floats compare as. -/
theorem less_val3 {f g : Nat} (hf : f < 18446744073709551616) (hg : g < 18446744073709551616) (W : World) :
    Calls Tryd.prog 24 #[.agg #[.int .u8 3, .int .i64 0, .int .u64 (canon f : Int), .string ⟨#[]⟩], .agg #[.int .u8 3, .int .i64 0, .int .u64 (canon g : Int), .string ⟨#[]⟩]] W fun e w' => e = .returned (.bool (Rm.less f g)) ∧ Below W.heap.size W w' := by
  have h := Vn.less_at 3 3 0 0 (canon f) (canon g) ⟨#[]⟩ ⟨#[]⟩ W (canon_lt hf) (canon_lt hg)
  have e : Vm.less ⟨3, 0, canon f, ⟨#[]⟩⟩ ⟨3, 0, canon g, ⟨#[]⟩⟩ = Rm.less f g := by
    unfold Vm.less
    simp only [ne_eq, not_true_eq_false, if_false]
    rw [less_canon hf hg, less_canon hg hf]
    cases h1 : Rm.less f g
    · simp [bl_irrefl]
    · simp
  rw [e] at h
  exact h
theorem eq_val3 (c d : Nat) : eqI 3 0 c ⟨#[]⟩ 3 0 d ⟨#[]⟩ = decide (c = d) := by
  unfold eqI
  by_cases h : c = d
  · subst h; simp
  · have : ¬ ((c : Int) = (d : Int)) := by omega
    simp [h, this]
theorem walk_nat (f g : Nat) (hf : f < 18446744073709551616) (hg : g < 18446744073709551616) (w : World) (hT : Tabs w) :
    Calls Tryd.prog 6 #[.float .f64 f, .float .f64 g] w fun e w' => e = .returned (.bool true) ∧ Below w.heap.size w w' := by
  have R1 := Lib.hid fun W => real_any f W
  have R2 := Lib.hid fun W => real_any g W
  have AL := Lib.hid fun W (h : Tabs W) => Va.alive W h
  have HL := Lib.hid fun W => less_val3 hf hg W
  have HE := eq_val3 (canon f) (canon g)
  have n1 := self_neq f
  have n2 := self_eql f
  have n3 := self_neq g
  have n4 := self_eql g
  unfold ag at R1 R2
  cases h : bad f <;> cases h' : bad g
  · have o1 := eq_val h h'
    have o2 := val_lt_iff h h'
    rw [h] at n1 n2
    rw [h'] at n3 n4
    rw [bad_canon h, bad_canon h'] at HL HE
    rw [bad_canon h] at R1
    rw [bad_canon h'] at R2
    by_cases he : Fo.val f = Fo.val g
    · rw [decide_eq_true he] at o1
      rcases eq_ways hf hg he with rfl | ⟨rfl, rfl⟩ | ⟨rfl, rfl⟩
      · rw [decide_eq_true rfl] at HE
        rw [rl_irrefl hf] at HL
        by_cases s : 9223372036854775808 ≤ f
        · exact w_11 f f _ _ w hT R1 R2 HL AL HE n1 n2 n3 n4 o1 (Lib.hid fun W => signbit f W true hf (decide_eq_true s).symm) (Lib.hid fun W => signbit f W true hf (decide_eq_true s).symm)
        · exact w_00 f f _ _ w hT R1 R2 HL AL HE n1 n2 n3 n4 o1 (Lib.hid fun W => signbit f W false hf (decide_eq_false s).symm) (Lib.hid fun W => signbit f W false hf (decide_eq_false s).symm)
      · rw [decide_eq_false (by decide)] at HE
        rw [show Rm.less 9223372036854775808 0 = true by decide] at HL
        exact w_10 _ _ _ _ w hT R1 R2 HL AL HE n1 n2 n3 n4 o1 (Lib.hid fun W => signbit _ W true hf (decide_eq_true (by decide)).symm) (Lib.hid fun W => signbit _ W false hg (decide_eq_false (by decide)).symm)
      · rw [decide_eq_false (by decide)] at HE
        rw [show Rm.less 0 9223372036854775808 = false by decide] at HL
        exact w_01 _ _ _ _ w hT R1 R2 HL AL HE n1 n2 n3 n4 o1 (Lib.hid fun W => signbit _ W false hf (decide_eq_false (by decide)).symm) (Lib.hid fun W => signbit _ W true hg (decide_eq_true (by decide)).symm)
    · rw [decide_eq_false he] at o1
      rw [less_val hf hg h h' he] at HL
      have hne : ¬ f = g := fun e => he (by rw [e])
      rw [decide_eq_false hne] at HE
      by_cases c : Fo.val f < Fo.val g
      · rw [decide_eq_true c] at HL o2
        exact w_lt f g _ _ w hT R1 R2 HL AL HE n1 n2 n3 n4 o1 o2
      · rw [decide_eq_false c] at HL o2
        exact w_gt f g _ _ w hT R1 R2 HL AL HE n1 n2 n3 n4 o1 o2
  · rw [h] at n1 n2
    rw [h'] at n3 n4
    rw [nan_last h h'] at HL
    rw [bad_canon h, canon_bad h', decide_eq_false (fun e => by rw [e] at h; exact absurd h (by decide))] at HE
    rw [bad_canon h, canon_bad h'] at HL
    rw [bad_canon h] at R1
    rw [canon_bad h'] at R2
    exact w_fn f g _ _ w hT R1 R2 HL AL HE n1 n2 n3 n4
  · rw [h] at n1 n2
    rw [h'] at n3 n4
    rw [nan_not h] at HL
    rw [bad_canon h', canon_bad h, decide_eq_false (fun e => by rw [← e] at h'; exact absurd h' (by decide))] at HE
    rw [bad_canon h', canon_bad h] at HL
    rw [canon_bad h] at R1
    rw [bad_canon h'] at R2
    exact w_nf f g _ _ w hT R1 R2 HL AL HE n1 n2 n3 n4
  · rw [h] at n1 n2
    rw [h'] at n3 n4
    rw [nan_not h] at HL
    rw [canon_bad h', canon_bad h, decide_eq_true rfl] at HE
    rw [canon_bad h', canon_bad h] at HL
    rw [canon_bad h] at R1
    rw [canon_bad h'] at R2
    exact w_nn f g _ _ w hT R1 R2 HL AL HE n1 n2 n3 n4
end Go.Proofs.YtjkfgchjdhgbgaaDoor.Vp
