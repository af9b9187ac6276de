/- The contracts of package real's Canon and Less (and the reference's Canon), and the order of bits on plain numbers: what the layers above real call of it. -/
import Derived.Test.YthoiolihkomgmaaDoorProg
import Derived.Test.YthoiolihkomgmaaDoorRm
import Derived.WalkKit
import Derived.WalkLawsBesides
import Derived.Laws.Externs
import Derived.Test.YthoiolihkomgmaaDoorRowKit
import Derived.Lib.Hide
namespace Go.Proofs.YthoiolihkomgmaaDoor.Vl
open Go Go.RowKit Go.Proofs.YthoiolihkomgmaaDoor.Wm Go.Proofs.YthoiolihkomgmaaDoor.Rm
theorem from_bits (v : Int) (w : World) : (callFunc 58 #[.int .u64 v]).run Tryd.prog w = .ok (.value (.float .f64 v.toNat)) w :=
  run_callFunc_extern Tryd.func58 (by kernel_rfl) (by kernel_rfl) (by kernel_rfl) (e := Extern.MathFloatBits.float64frombits) (by kernel_rfl) _ w
theorem is_nan (x : Nat) (w : World) :
    Calls Tryd.prog 57 #[.float .f64 x] w fun e w' => e = .returned (.bool (bad x)) ∧ w = w' := by
  have hs : (FloatKind.f64.format.order x x != some .eq) = bad x := self_neq x
  go_enter Tryd.func57, Tryd.ntmps57
  go_wp2
  go_ret
  exact ⟨rfl, rfl⟩
theorem canon_any (V : Nat) (w : World) :
    Calls Tryd.prog 49 #[.int .u64 (V : Int)] w fun e w' => e = .returned (.int .u64 (Rm.canon V : Int)) ∧ w = w' := by
  have hf := fun W => from_bits (V : Int) W
  have ht : ((V : Int)).toNat = V := by omega
  rw [ht] at hf
  cases hb : bad V
  · have HB := Lib.hid hb; clear hb
    go_enter Tryd.func49, Tryd.ntmps49
    go_wp2_with fail
    refine (is_nan V _).mono ?_
    rw [HB.out]
    rintro e w1 ⟨rfl, rfl⟩
    go_wp2
    go_ret
    exact ⟨ret_i (by rw [bad_canon HB.out]), rfl⟩
  · have HB := Lib.hid hb; clear hb
    go_enter Tryd.func49, Tryd.ntmps49
    go_wp2_with fail
    refine (is_nan V _).mono ?_
    rw [HB.out]
    rintro e w1 ⟨rfl, rfl⟩
    go_wp2
    go_ret
    exact ⟨ret_i (by rw [canon_bad HB.out]; rfl), rfl⟩
theorem none_at (v : Int) (w : World) (h0 : 0 ≤ v) (h1 : v < 18446744073709551616) :
    Calls Tryd.prog 37 #[.int .u64 v] w fun e w' => e = .returned (.bool (decide (v / 4503599627370496 % 2048 = 2047) && !decide (v % 4503599627370496 = 0))) ∧ w = w' := by
  by_cases h : v / 4503599627370496 % 2048 = 2047
  · go_enter Tryd.func37, Tryd.ntmps37
    go_wp2
    go_ret
    refine ⟨?_, rfl⟩
    rw [decide_eq_true h]
    rfl
  · go_enter Tryd.func37, Tryd.ntmps37
    go_wp2
    go_ret
    refine ⟨?_, rfl⟩
    rw [decide_eq_false h]
    rfl
theorem none_any (V : Nat) (w : World) (hV : V < 18446744073709551616) :
    Calls Tryd.prog 37 #[.int .u64 (V : Int)] w fun e w' => e = .returned (.bool (bad V)) ∧ w = w' := by
  refine (none_at (V : Int) w (by omega) (by omega)).mono fun e w' h => ⟨h.1.trans ?_, h.2⟩
  unfold bad
  have e1 : decide ((V : Int) / 4503599627370496 % 2048 = 2047) = decide (V / 4503599627370496 % 2048 = 2047) := decide_eq_decide.2 (by omega)
  have e2 : decide ((V : Int) % 4503599627370496 = 0) = decide (V % 4503599627370496 = 0) := decide_eq_decide.2 (by omega)
  rw [e1, e2]
theorem ref_canon (V : Nat) (w : World) (hV : V < 18446744073709551616) :
    Calls Tryd.prog 25 #[.int .u64 (V : Int)] w fun e w' => e = .returned (.int .u64 (Rm.canon V : Int)) ∧ w = w' := by
  have h1 := none_any V w hV
  unfold Rm.canon
  cases hb : bad V
  · rw [hb] at h1
    clear hb
    go_enter Tryd.func25, Tryd.ntmps25
    go_wp2_with fail
    refine h1.mono ?_
    rintro e w1 ⟨rfl, rfl⟩
    go_wp2
    go_ret
    exact ⟨rfl, rfl⟩
  · rw [hb] at h1
    clear hb
    go_enter Tryd.func25, Tryd.ntmps25
    go_wp2_with fail
    refine h1.mono ?_
    rintro e w1 ⟨rfl, rfl⟩
    go_wp2
    go_ret
    exact ⟨rfl, rfl⟩
theorem place_lt (x : Nat) : Rm.place x = 0 ↔ 9223372036854775808 ≤ Rm.canon x := by
  unfold Rm.place
  cases h : bad x
  · rw [bad_canon h]
    by_cases a : 9223372036854775808 ≤ x
    · simp [a]
    · simp [a]
  · rw [canon_bad h]; simp
theorem place_nan (x : Nat) : Rm.place x = 2 ↔ bad x = true := by
  unfold Rm.place
  cases h : bad x
  · simp; split <;> omega
  · simp
theorem place_le (x : Nat) : Rm.place x ≤ 2 := by
  unfold Rm.place; split
  · omega
  · split <;> omega
theorem canon_top (x : Nat) (h : bad x = false) (h2 : x < 9223372036854775808) : x < 9221120237041090561 := by
  unfold bad at h
  simp at h
  omega
theorem less_key {x y : Nat} (hx : x < 18446744073709551616) (hy : y < 18446744073709551616) : Rm.less x y = decide (Rm.key x < Rm.key y) := by
  unfold Rm.less Rm.key Rm.place
  cases h : bad x
  · have tx := canon_top x h
    rw [bad_canon h]
    cases h' : bad y
    · have ty := canon_top y h'
      rw [bad_canon h']
      simp only [Bool.false_eq_true, if_false]
      by_cases a : 9223372036854775808 ≤ x
      · have a' : ¬ x < 9223372036854775808 := by omega
        by_cases b : 9223372036854775808 ≤ y
        · have b' : ¬ y < 9223372036854775808 := by omega
          rw [if_pos a, if_pos b, if_neg a', if_neg b', if_neg (by simp), if_pos rfl]
          exact decide_eq_decide.2 (by omega)
        · have b' : y < 9223372036854775808 := by omega
          rw [if_pos a, if_neg b, if_neg a', if_pos b', if_pos (by simp)]
          exact decide_eq_decide.2 (by omega)
      · have a' : x < 9223372036854775808 := by omega
        by_cases b : 9223372036854775808 ≤ y
        · have b' : ¬ y < 9223372036854775808 := by omega
          rw [if_neg a, if_pos b, if_pos a', if_neg b', if_pos (by simp)]
          exact decide_eq_decide.2 (by omega)
        · have b' : y < 9223372036854775808 := by omega
          rw [if_neg a, if_neg b, if_pos a', if_pos b', if_neg (by simp), if_neg (by simp)]
          exact decide_eq_decide.2 (by omega)
    · rw [canon_bad h']
      simp only [Bool.false_eq_true, if_false, if_true]
      by_cases a : 9223372036854775808 ≤ x
      · have a' : ¬ x < 9223372036854775808 := by omega
        rw [if_pos a, if_neg a', if_pos (by simp), if_pos (by omega)]
        exact decide_eq_decide.2 (by omega)
      · have a' : x < 9223372036854775808 := by omega
        have := tx a'
        rw [if_neg a, if_pos a', if_pos (by simp), if_pos (by omega)]
        exact decide_eq_decide.2 (by omega)
  · rw [canon_bad h]
    cases h' : bad y
    · have ty := canon_top y h'
      rw [bad_canon h']
      simp only [Bool.false_eq_true, if_false, if_true]
      by_cases b : 9223372036854775808 ≤ y
      · have b' : ¬ y < 9223372036854775808 := by omega
        rw [if_pos b, if_neg b', if_pos (by simp), if_pos (by omega)]
        exact decide_eq_decide.2 (by omega)
      · have b' : y < 9223372036854775808 := by omega
        have := ty b'
        rw [if_neg b, if_pos b', if_pos (by simp), if_pos (by omega)]
        exact decide_eq_decide.2 (by omega)
    · rw [canon_bad h']; simp
theorem key_inj {x y : Nat} (hx : x < 18446744073709551616) (hy : y < 18446744073709551616) : Rm.key x = Rm.key y ↔ Rm.canon x = Rm.canon y := by
  have h1 := canon_lt hx
  have h2 := canon_lt hy
  unfold Rm.key
  constructor
  · intro h
    split at h <;> split at h <;> omega
  · intro h; rw [h]
end Go.Proofs.YthoiolihkomgmaaDoor.Vl
