/- What follows of real's answers, on plain numbers: keys rise as bits stand; what is a key, or was told, leads back; numbers stand as they are compared. -/
import Derived.Test.YthoenmnbnigkaaaRg
namespace Go.Proofs.Ythoenmnbnigkaaa.Ro
open Go Go.Proofs.Ythoenmnbnigkaaa.Wm Go.Proofs.Ythoenmnbnigkaaa.Rm
theorem place_lt (x : Nat) : Rm.place x = 0 ↔ 9223372036854775808 ≤ Rm.canon x := by
  unfold Rm.place
  cases h : bad x
  · rw [bad_canon h]
    by_cases a : 9223372036854775808 ≤ x
    · simp [a]
    · simp [a]
  · rw [canon_bad h]; simp
theorem place_nan (x : Nat) : Rm.place x = 2 ↔ bad x = true := by
  unfold Rm.place
  cases h : bad x
  · simp; split <;> omega
  · simp
theorem place_le (x : Nat) : Rm.place x ≤ 2 := by
  unfold Rm.place; split
  · omega
  · split <;> omega
theorem canon_top (x : Nat) (h : bad x = false) (h2 : x < 9223372036854775808) : x < 9221120237041090561 := by
  unfold bad at h
  simp at h
  omega
theorem less_key {x y : Nat} (hx : x < 18446744073709551616) (hy : y < 18446744073709551616) : Rm.less x y = decide (Rm.key x < Rm.key y) := by
  unfold Rm.less Rm.key Rm.place
  cases h : bad x
  · have tx := canon_top x h
    rw [bad_canon h]
    cases h' : bad y
    · have ty := canon_top y h'
      rw [bad_canon h']
      simp only [Bool.false_eq_true, if_false]
      by_cases a : 9223372036854775808 ≤ x
      · have a' : ¬ x < 9223372036854775808 := by omega
        by_cases b : 9223372036854775808 ≤ y
        · have b' : ¬ y < 9223372036854775808 := by omega
          rw [if_pos a, if_pos b, if_neg a', if_neg b', if_neg (by simp), if_pos rfl]
          exact decide_eq_decide.2 (by omega)
        · have b' : y < 9223372036854775808 := by omega
          rw [if_pos a, if_neg b, if_neg a', if_pos b', if_pos (by simp)]
          exact decide_eq_decide.2 (by omega)
      · have a' : x < 9223372036854775808 := by omega
        by_cases b : 9223372036854775808 ≤ y
        · have b' : ¬ y < 9223372036854775808 := by omega
          rw [if_neg a, if_pos b, if_pos a', if_neg b', if_pos (by simp)]
          exact decide_eq_decide.2 (by omega)
        · have b' : y < 9223372036854775808 := by omega
          rw [if_neg a, if_neg b, if_pos a', if_pos b', if_neg (by simp), if_neg (by simp)]
          exact decide_eq_decide.2 (by omega)
    · rw [canon_bad h']
      simp only [Bool.false_eq_true, if_false, if_true]
      by_cases a : 9223372036854775808 ≤ x
      · have a' : ¬ x < 9223372036854775808 := by omega
        rw [if_pos a, if_neg a', if_pos (by simp), if_pos (by omega)]
        exact decide_eq_decide.2 (by omega)
      · have a' : x < 9223372036854775808 := by omega
        have := tx a'
        rw [if_neg a, if_pos a', if_pos (by simp), if_pos (by omega)]
        exact decide_eq_decide.2 (by omega)
  · rw [canon_bad h]
    cases h' : bad y
    · have ty := canon_top y h'
      rw [bad_canon h']
      simp only [Bool.false_eq_true, if_false, if_true]
      by_cases b : 9223372036854775808 ≤ y
      · have b' : ¬ y < 9223372036854775808 := by omega
        rw [if_pos b, if_neg b', if_pos (by simp), if_pos (by omega)]
        exact decide_eq_decide.2 (by omega)
      · have b' : y < 9223372036854775808 := by omega
        have := ty b'
        rw [if_neg b, if_pos b', if_pos (by simp), if_pos (by omega)]
        exact decide_eq_decide.2 (by omega)
    · rw [canon_bad h']; simp
theorem key_inj {x y : Nat} (hx : x < 18446744073709551616) (hy : y < 18446744073709551616) : Rm.key x = Rm.key y ↔ Rm.canon x = Rm.canon y := by
  have h1 := canon_lt hx
  have h2 := canon_lt hy
  unfold Rm.key
  constructor
  · intro h
    split at h <;> split at h <;> omega
  · intro h; rw [h]
theorem back_key {x : Nat} (hx : x < 18446744073709551616) : Rm.back (Rm.key x) = (Rm.canon x, 0) := by
  have h1 := canon_lt hx
  have e : Rm.unkey (Rm.key x) = Rm.canon x := by
    unfold Rm.unkey Rm.key
    by_cases a : Rm.canon x < 9223372036854775808
    · rw [if_pos a, if_pos (by omega)]; omega
    · rw [if_neg a, if_neg (by omega)]; omega
  unfold Rm.back
  rw [e]
  cases h : bad x
  · rw [bad_canon h, h]; rfl
  · rw [canon_bad h]; simp
theorem key_back {K : Nat} (hK : K < 18446744073709551616) :
    ((Rm.back K).2 = 0 ∧ Rm.key (Rm.back K).1 = K ∧ Rm.canon (Rm.back K).1 = (Rm.back K).1 ∧ (Rm.back K).1 < 18446744073709551616) ∨ ((Rm.back K).2 = 2 ∧ (Rm.back K).1 = 0) := by
  have h := Rg.key_unkey hK
  have hc := Rk.canon_eq (Rm.unkey K)
  have hl := unkey_lt hK
  unfold Rm.back
  cases hb : (bad (Rm.unkey K) && !decide (Rm.unkey K = 9221120237041090561))
  · left
    rw [hb] at h hc
    have h' := of_decide_eq_true h
    have hc' := of_decide_eq_true hc
    refine ⟨rfl, ?_, ?_, hl⟩
    · show Rm.key (Rm.unkey K) = K; omega
    · show Rm.canon (Rm.unkey K) = Rm.unkey K; omega
  · right; exact ⟨rfl, rfl⟩
theorem read_text {x : Nat} (hx : x < 18446744073709551616) : Rk.read (Rk.text x) = (Rm.canon x, 0) := by
  have h1 := canon_lt hx
  have e : (16 : Nat) ^ 16 = 18446744073709551616 := by decide
  unfold Rk.read Rk.text
  rw [hexN_length, if_pos rfl, unhexL_hexN, e, Nat.mod_eq_of_lt h1]
  simp only
  cases h : bad x
  · rw [bad_canon h, h]; rfl
  · rw [canon_bad h]; simp
theorem text_canon (x : Nat) : Rk.text (Rm.canon x) = Rk.text x := by
  unfold Rk.text; rw [canon_canon]
theorem text_length (x : Nat) : (Rk.text x).length = 16 := by
  unfold Rk.text; rw [hexN_length]
end Go.Proofs.Ythoenmnbnigkaaa.Ro
