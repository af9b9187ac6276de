/- The contracts of package real's Canon and Less (and the reference's Canon), and the order of bits on plain numbers: what the layers above real call of it. -/
import Derived.Test.YtbkaphcipbhmhaaDoorProg
import Derived.Test.YtbkaphcipbhmhaaDoorRm
import Derived.WalkKit
import Derived.WalkLawsBesides
import Derived.Laws.Externs
import Derived.Test.YtbkaphcipbhmhaaDoorRowKit
import Derived.Lib.Hide
namespace Go.Proofs.YtbkaphcipbhmhaaDoor.Vl
open Go Go.RowKit Go.Proofs.YtbkaphcipbhmhaaDoor.Wm Go.Proofs.YtbkaphcipbhmhaaDoor.Rm
theorem from_bits (v : Int) (w : World) : (callFunc 56 #[.int .u64 v]).run Tryd.prog w = .ok (.value (.float .f64 v.toNat)) w :=
  run_callFunc_extern Tryd.func56 (by kernel_rfl) (by kernel_rfl) (by kernel_rfl) (e := Extern.MathFloatBits.float64frombits) (by kernel_rfl) _ w
theorem to_bits (x : Nat) (w : World) : (callFunc 62 #[.float .f64 x]).run Tryd.prog w = .ok (.value (.int .u64 (x : Int))) w :=
  run_callFunc_extern Tryd.func62 (by kernel_rfl) (by kernel_rfl) (by kernel_rfl) (e := Extern.MathFloatBits.float64bits) (by kernel_rfl) _ w
theorem is_nan (x : Nat) (w : World) :
    Calls Tryd.prog 58 #[.float .f64 x] w fun e w' => e = .returned (.bool (bad x)) ∧ w = w' := by
  have hs : (FloatKind.f64.format.order x x != some .eq) = bad x := self_neq x
  go_enter Tryd.func58, Tryd.ntmps58
  go_wp2
  go_ret
  exact ⟨rfl, rfl⟩
theorem canon_any (V : Nat) (w : World) :
    Calls Tryd.prog 52 #[.int .u64 (V : Int)] w fun e w' => e = .returned (.int .u64 (Rm.canon V : Int)) ∧ w = w' := by
  have hf := fun W => from_bits (V : Int) W
  have ht : ((V : Int)).toNat = V := by omega
  rw [ht] at hf
  cases hb : bad V
  · have HB := Lib.hid hb; clear hb
    go_enter Tryd.func52, Tryd.ntmps52
    go_wp2_with fail
    refine (is_nan V _).mono ?_
    rw [HB.out]
    rintro e w1 ⟨rfl, rfl⟩
    go_wp2
    go_ret
    exact ⟨ret_i (by rw [bad_canon HB.out]), rfl⟩
  · have HB := Lib.hid hb; clear hb
    go_enter Tryd.func52, Tryd.ntmps52
    go_wp2_with fail
    refine (is_nan V _).mono ?_
    rw [HB.out]
    rintro e w1 ⟨rfl, rfl⟩
    go_wp2
    go_ret
    exact ⟨ret_i (by rw [canon_bad HB.out]; rfl), rfl⟩
theorem signbit (x : Nat) (w : World) (r : Bool) (hx : x < 18446744073709551616) (hr : r = decide (9223372036854775808 ≤ x)) :
    Calls Tryd.prog 59 #[.float .f64 x] w fun e w' => e = .returned (.bool r) ∧ w = w' := by
  have hf := fun W => to_bits x W
  by_cases h : 9223372036854775808 ≤ x
  · have hw : IntKind.i64.wrap (x : Int) = (x : Int) - 18446744073709551616 := by
      simp only [IntKind.wrap, IntKind.bits, IntKind.signed]
      simp
      omega
    have e : r = true := by rw [hr]; exact decide_eq_true h
    subst e
    have hl : ((x : Int) - 18446744073709551616 < 0) := by omega
    clear hr
    go_enter Tryd.func59, Tryd.ntmps59
    go_wp2
    go_ret
    exact ⟨rfl, rfl⟩
  · have hw : IntKind.i64.wrap (x : Int) = (x : Int) := by
      simp only [IntKind.wrap, IntKind.bits, IntKind.signed]
      simp
      omega
    have e : r = false := by rw [hr]; exact decide_eq_false h
    subst e
    have hl : ¬ ((x : Int) < 0) := by omega
    clear hr
    go_enter Tryd.func59, Tryd.ntmps59
    go_wp2
    go_ret
    exact ⟨rfl, rfl⟩
theorem place_any (x : Nat) (w : World) (hx : x < 18446744073709551616) :
    Calls Tryd.prog 57 #[.float .f64 x] w fun e w' => e = .returned (.int .i64 (Rm.place x : Int)) ∧ w = w' := by
  unfold Rm.place
  cases hb : bad x
  · by_cases h : 9223372036854775808 ≤ x
    · rw [if_neg (by decide), if_pos h]
      have HB := Lib.hid hb; clear hb
      go_enter Tryd.func57, Tryd.ntmps57
      go_wp2_with fail
      refine (is_nan x _).mono ?_
      rw [HB.out]
      rintro e w1 ⟨rfl, rfl⟩
      go_wp2_with fail
      refine (signbit x _ true hx (decide_eq_true h).symm).mono ?_
      rintro e w1 ⟨rfl, rfl⟩
      go_wp2
      go_ret
      exact ⟨rfl, rfl⟩
    · rw [if_neg (by decide), if_neg h]
      have HB := Lib.hid hb; clear hb
      go_enter Tryd.func57, Tryd.ntmps57
      go_wp2_with fail
      refine (is_nan x _).mono ?_
      rw [HB.out]
      rintro e w1 ⟨rfl, rfl⟩
      go_wp2_with fail
      refine (signbit x _ false hx (decide_eq_false h).symm).mono ?_
      rintro e w1 ⟨rfl, rfl⟩
      go_wp2
      go_ret
      exact ⟨rfl, rfl⟩
  · rw [if_pos rfl]
    have HB := Lib.hid hb; clear hb
    go_enter Tryd.func57, Tryd.ntmps57
    go_wp2_with fail
    refine (is_nan x _).mono ?_
    rw [HB.out]
    rintro e w1 ⟨rfl, rfl⟩
    go_wp2
    go_ret
    exact ⟨rfl, rfl⟩
theorem less_any (V U : Nat) (w : World) (hV : V < 18446744073709551616) (hU : U < 18446744073709551616) :
    Calls Tryd.prog 51 #[.int .u64 (V : Int), .int .u64 (U : Int)] w fun e w' => e = .returned (.bool (Rm.less V U)) ∧ w = w' := by
  have hf := fun W => from_bits (V : Int) W
  have hg := fun W => from_bits (U : Int) W
  have ht : ((V : Int)).toNat = V := by omega
  have hu : ((U : Int)).toNat = U := by omega
  rw [ht] at hf
  rw [hu] at hg
  clear ht hu
  go_enter Tryd.func51, Tryd.ntmps51
  go_wp2_with fail
  refine (place_any V _ hV).mono ?_
  rintro e w1 ⟨rfl, rfl⟩
  go_wp2_with fail
  refine (place_any U _ hU).mono ?_
  rintro e w1 ⟨rfl, rfl⟩
  have hl : (decide ((Rm.place V : Int) < (Rm.place U : Int)) || (FloatKind.f64.format.order V U == some .lt)) = Rm.less V U := less_prog hV hU
  obtain ⟨p, hp⟩ : ∃ p, p = Rm.place V := ⟨_, rfl⟩
  obtain ⟨q, hq⟩ : ∃ q, q = Rm.place U := ⟨_, rfl⟩
  rw [← hp, ← hq] at hl ⊢
  by_cases h : (p : Int) < (q : Int)
  · rw [decide_eq_true h, Bool.true_or] at hl
    have HL := Lib.hid hl; clear hl hp hq
    go_wp2
    go_ret
    exact ⟨by rw [← HL.out]; rfl, rfl⟩
  · have e : decide ((p : Int) < (q : Int)) = decide (p < q) := decide_eq_decide.2 (by omega)
    rw [e] at hl
    have HL := Lib.hid hl; clear hl hp hq e
    go_wp2
    go_ret
    exact ⟨by rw [← HL.out]; rfl, rfl⟩
theorem none_at (v : Int) (w : World) (h0 : 0 ≤ v) (h1 : v < 18446744073709551616) :
    Calls Tryd.prog 61 #[.int .u64 v] w fun e w' => e = .returned (.bool (decide (v / 4503599627370496 % 2048 = 2047) && !decide (v % 4503599627370496 = 0))) ∧ w = w' := by
  by_cases h : v / 4503599627370496 % 2048 = 2047
  · go_enter Tryd.func61, Tryd.ntmps61
    go_wp2
    go_ret
    refine ⟨?_, rfl⟩
    rw [decide_eq_true h]
    rfl
  · go_enter Tryd.func61, Tryd.ntmps61
    go_wp2
    go_ret
    refine ⟨?_, rfl⟩
    rw [decide_eq_false h]
    rfl
theorem none_any (V : Nat) (w : World) (hV : V < 18446744073709551616) :
    Calls Tryd.prog 61 #[.int .u64 (V : Int)] w fun e w' => e = .returned (.bool (bad V)) ∧ w = w' := by
  refine (none_at (V : Int) w (by omega) (by omega)).mono fun e w' h => ⟨h.1.trans ?_, h.2⟩
  unfold bad
  have e1 : decide ((V : Int) / 4503599627370496 % 2048 = 2047) = decide (V / 4503599627370496 % 2048 = 2047) := decide_eq_decide.2 (by omega)
  have e2 : decide ((V : Int) % 4503599627370496 = 0) = decide (V % 4503599627370496 = 0) := decide_eq_decide.2 (by omega)
  rw [e1, e2]
theorem ref_canon (V : Nat) (w : World) (hV : V < 18446744073709551616) :
    Calls Tryd.prog 54 #[.int .u64 (V : Int)] w fun e w' => e = .returned (.int .u64 (Rm.canon V : Int)) ∧ w = w' := by
  have h1 := none_any V w hV
  unfold Rm.canon
  cases hb : bad V
  · rw [hb] at h1
    clear hb
    go_enter Tryd.func54, Tryd.ntmps54
    go_wp2_with fail
    refine h1.mono ?_
    rintro e w1 ⟨rfl, rfl⟩
    go_wp2
    go_ret
    exact ⟨rfl, rfl⟩
  · rw [hb] at h1
    clear hb
    go_enter Tryd.func54, Tryd.ntmps54
    go_wp2_with fail
    refine h1.mono ?_
    rintro e w1 ⟨rfl, rfl⟩
    go_wp2
    go_ret
    exact ⟨rfl, rfl⟩
theorem place_lt (x : Nat) : Rm.place x = 0 ↔ 9223372036854775808 ≤ Rm.canon x := by
  unfold Rm.place
  cases h : bad x
  · rw [bad_canon h]
    by_cases a : 9223372036854775808 ≤ x
    · simp [a]
    · simp [a]
  · rw [canon_bad h]; simp
theorem place_nan (x : Nat) : Rm.place x = 2 ↔ bad x = true := by
  unfold Rm.place
  cases h : bad x
  · simp; split <;> omega
  · simp
theorem place_le (x : Nat) : Rm.place x ≤ 2 := by
  unfold Rm.place; split
  · omega
  · split <;> omega
theorem canon_top (x : Nat) (h : bad x = false) (h2 : x < 9223372036854775808) : x < 9221120237041090561 := by
  unfold bad at h
  simp at h
  omega
theorem less_key {x y : Nat} (hx : x < 18446744073709551616) (hy : y < 18446744073709551616) : Rm.less x y = decide (Rm.key x < Rm.key y) := by
  unfold Rm.less Rm.key Rm.place
  cases h : bad x
  · have tx := canon_top x h
    rw [bad_canon h]
    cases h' : bad y
    · have ty := canon_top y h'
      rw [bad_canon h']
      simp only [Bool.false_eq_true, if_false]
      by_cases a : 9223372036854775808 ≤ x
      · have a' : ¬ x < 9223372036854775808 := by omega
        by_cases b : 9223372036854775808 ≤ y
        · have b' : ¬ y < 9223372036854775808 := by omega
          rw [if_pos a, if_pos b, if_neg a', if_neg b', if_neg (by simp), if_pos rfl]
          exact decide_eq_decide.2 (by omega)
        · have b' : y < 9223372036854775808 := by omega
          rw [if_pos a, if_neg b, if_neg a', if_pos b', if_pos (by simp)]
          exact decide_eq_decide.2 (by omega)
      · have a' : x < 9223372036854775808 := by omega
        by_cases b : 9223372036854775808 ≤ y
        · have b' : ¬ y < 9223372036854775808 := by omega
          rw [if_neg a, if_pos b, if_pos a', if_neg b', if_pos (by simp)]
          exact decide_eq_decide.2 (by omega)
        · have b' : y < 9223372036854775808 := by omega
          rw [if_neg a, if_neg b, if_pos a', if_pos b', if_neg (by simp), if_neg (by simp)]
          exact decide_eq_decide.2 (by omega)
    · rw [canon_bad h']
      simp only [Bool.false_eq_true, if_false, if_true]
      by_cases a : 9223372036854775808 ≤ x
      · have a' : ¬ x < 9223372036854775808 := by omega
        rw [if_pos a, if_neg a', if_pos (by simp), if_pos (by omega)]
        exact decide_eq_decide.2 (by omega)
      · have a' : x < 9223372036854775808 := by omega
        have := tx a'
        rw [if_neg a, if_pos a', if_pos (by simp), if_pos (by omega)]
        exact decide_eq_decide.2 (by omega)
  · rw [canon_bad h]
    cases h' : bad y
    · have ty := canon_top y h'
      rw [bad_canon h']
      simp only [Bool.false_eq_true, if_false, if_true]
      by_cases b : 9223372036854775808 ≤ y
      · have b' : ¬ y < 9223372036854775808 := by omega
        rw [if_pos b, if_neg b', if_pos (by simp), if_pos (by omega)]
        exact decide_eq_decide.2 (by omega)
      · have b' : y < 9223372036854775808 := by omega
        have := ty b'
        rw [if_neg b, if_pos b', if_pos (by simp), if_pos (by omega)]
        exact decide_eq_decide.2 (by omega)
    · rw [canon_bad h']; simp
theorem key_inj {x y : Nat} (hx : x < 18446744073709551616) (hy : y < 18446744073709551616) : Rm.key x = Rm.key y ↔ Rm.canon x = Rm.canon y := by
  have h1 := canon_lt hx
  have h2 := canon_lt hy
  unfold Rm.key
  constructor
  · intro h
    split at h <;> split at h <;> omega
  · intro h; rw [h]
end Go.Proofs.YtbkaphcipbhmhaaDoor.Vl
