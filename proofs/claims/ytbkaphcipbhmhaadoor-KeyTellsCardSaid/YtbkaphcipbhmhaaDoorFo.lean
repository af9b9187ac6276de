/- How two numbers of 64 bits with a point stand to each other, by their bits. -/
import GoSem.Op.FloatCmp
namespace Go.Proofs.YtbkaphcipbhmhaaDoor.Fo
open Ieee
def neg (x : Nat) : Bool := x / 9223372036854775808 % 2 == 1
def rung (x : Nat) : Nat := x % 9223372036854775808
def isNan (x : Nat) : Prop := 9218868437227405312 < rung x
instance (x : Nat) : Decidable (isNan x) := by unfold isNan; exact inferInstance
/-- The size, in units of the least one. -/
def mag (r : Nat) : Nat := if r < 4503599627370496 then r else (4503599627370496 + r % 4503599627370496) * 2 ^ (r / 4503599627370496 - 1)
def val (x : Nat) : Int := if neg x then -(mag (rung x) : Int) else mag (rung x)
def cmp (a b : Int) : Ordering := if a < b then .lt else if a = b then .eq else .gt
theorem mag_lt {r s : Nat} (h : r < s) : mag r < mag s := by
  unfold mag
  by_cases hs : s < 4503599627370496
  · rw [if_pos (by omega), if_pos hs]; exact h
  · rw [if_neg hs]
    have hp : 0 < 2 ^ (s / 4503599627370496 - 1) := Nat.two_pow_pos _
    by_cases hr : r < 4503599627370496
    · rw [if_pos hr]
      calc r < (4503599627370496 + s % 4503599627370496) * 1 := by omega
        _ ≤ _ := Nat.mul_le_mul_left _ hp
    · rw [if_neg hr]
      by_cases hq : r / 4503599627370496 = s / 4503599627370496
      · rw [hq]
        exact Nat.mul_lt_mul_of_pos_right (by omega) hp
      · have hlt : r / 4503599627370496 + 1 ≤ s / 4503599627370496 := by omega
        have hpow : 2 ^ (r / 4503599627370496 - 1) * 2 ≤ 2 ^ (s / 4503599627370496 - 1) := by
          rw [← Nat.pow_succ]
          exact Nat.pow_le_pow_right (by omega) (by omega)
        have hp2 : 0 < 2 ^ (r / 4503599627370496 - 1) := Nat.two_pow_pos _
        calc (4503599627370496 + r % 4503599627370496) * 2 ^ (r / 4503599627370496 - 1)
            < (4503599627370496 * 2) * 2 ^ (r / 4503599627370496 - 1) := Nat.mul_lt_mul_of_pos_right (by omega) hp2
          _ = 4503599627370496 * (2 ^ (r / 4503599627370496 - 1) * 2) := by rw [Nat.mul_assoc, Nat.mul_comm 2]
          _ ≤ 4503599627370496 * 2 ^ (s / 4503599627370496 - 1) := Nat.mul_le_mul_left _ hpow
          _ ≤ _ := Nat.mul_le_mul_right _ (by omega)
theorem mag_iff {r s : Nat} : mag r < mag s ↔ r < s := by
  refine ⟨fun h => ?_, mag_lt⟩
  rcases Nat.lt_trichotomy r s with h1 | h1 | h1
  · exact h1
  · rw [h1] at h; omega
  · have := mag_lt h1; omega
theorem mag_zero : mag 0 = 0 := by decide
theorem mag_pos {r : Nat} (h : 0 < r) : 0 < mag r := by have := mag_lt h; rw [mag_zero] at this; exact this
theorem sw : double.signWeight = 9223372036854775808 := by decide
theorem bi : double.binade = 4503599627370496 := by decide
theorem inf : double.infRung = 9218868437227405312 := by decide
theorem lp : double.leastPlace = -1074 := by decide
/-- What a word is read as. -/
theorem read_nan {x : Nat} (h : isNan x) : ∃ t, double.read x = .nan (neg x) t := by
  have h' : 9218868437227405312 < x % 9223372036854775808 := h
  unfold Format.read
  rw [sw, bi, inf]
  dsimp only
  rw [if_neg (by omega), if_neg (by omega), if_neg (by omega)]
  exact ⟨_, rfl⟩
theorem read_inf {x : Nat} (h : rung x = 9218868437227405312) : double.read x = .infinity (neg x) := by
  have h' : x % 9223372036854775808 = 9218868437227405312 := h
  unfold Format.read
  rw [sw, bi, inf]
  dsimp only
  rw [if_neg (by omega), if_neg (by omega), if_pos h']
  rfl
theorem read_num {x : Nat} (h : rung x < 9218868437227405312) : ∃ (m k : Nat), double.read x = .number (neg x) m (-1074 + (k : Int)) ∧ m * 2 ^ k = mag (rung x) := by
  have h' : x % 9223372036854775808 < 9218868437227405312 := h
  unfold Format.read
  rw [sw, bi, inf, lp]
  dsimp only
  by_cases hb : x % 9223372036854775808 < 4503599627370496
  · rw [if_pos hb]
    refine ⟨x % 9223372036854775808, 0, rfl, ?_⟩
    unfold mag rung
    rw [if_pos hb]; omega
  · rw [if_neg hb, if_pos h']
    refine ⟨_, _, rfl, ?_⟩
    unfold mag rung
    rw [if_neg hb]
theorem cmp_scale (a b : Int) (c : Nat) (hc : 0 < c) : cmp (a * c) (b * c) = cmp a b := by
  have hc' : (0 : Int) < c := by omega
  unfold cmp
  by_cases h : a < b
  · rw [if_pos h, if_pos (Int.mul_lt_mul_of_pos_right h hc')]
  · rw [if_neg h, if_neg (fun h2 => h (Int.lt_of_mul_lt_mul_right h2 (Int.le_of_lt hc')))]
    by_cases h2 : a = b
    · rw [if_pos h2, h2, if_pos rfl]
    · rw [if_neg h2, if_neg (fun h3 => h2 (Int.eq_of_mul_eq_mul_right (by omega) h3))]
theorem cmp_is (a b : Int) : compare a b = cmp a b := by
  unfold cmp
  show compareOfLessAndEq a b = _
  unfold compareOfLessAndEq
  rfl
theorem cmp_num (s t : Bool) (m n k j : Nat) : (Datum.number s m (-1074 + (k : Int))).order (.number t n (-1074 + (j : Int))) = some (cmp (if s then -((m * 2 ^ k : Nat) : Int) else ((m * 2 ^ k : Nat) : Int)) (if t then -((n * 2 ^ j : Nat) : Int) else ((n * 2 ^ j : Nat) : Int))) := by
  unfold Datum.order
  dsimp only
  rw [cmp_is]
  congr 1
  have e1 : (-1074 + (k : Int) - min (-1074 + (k : Int)) (-1074 + (j : Int))).toNat = k - min k j := by omega
  have e2 : (-1074 + (j : Int) - min (-1074 + (k : Int)) (-1074 + (j : Int))).toNat = j - min k j := by omega
  rw [e1, e2]
  rw [← cmp_scale (signed s m (k - min k j)) (signed t n (j - min k j)) (2 ^ min k j) (Nat.two_pow_pos _)]
  have g : ∀ (s : Bool) (m k l : Nat), l ≤ k → signed s m (k - l) * ((2 ^ l : Nat) : Int) = if s then -((m * 2 ^ k : Nat) : Int) else ((m * 2 ^ k : Nat) : Int) := by
    intro s m k l hl
    have hk : m <<< (k - l) * 2 ^ l = m * 2 ^ k := by
      rw [Nat.shiftLeft_eq, Nat.mul_assoc, ← Nat.pow_add, Nat.sub_add_cancel hl]
    unfold signed
    cases s
    · simp only [Bool.false_eq_true, if_false]
      rw [← hk]; push_cast; rfl
    · simp only [if_true]
      rw [← hk]; push_cast; rw [Int.neg_mul]
  rw [g s m k _ (Nat.min_le_left ..), g t n j _ (Nat.min_le_right ..)]
/-- Neither is NaN: as their values are. -/
theorem order_num {x y : Nat} (hx : ¬ isNan x) (hy : ¬ isNan y) : double.order x y = some (cmp (val x) (val y)) := by
  have hx' : ¬ 9218868437227405312 < rung x := hx
  have hy' : ¬ 9218868437227405312 < rung y := hy
  unfold Format.order
  by_cases h1 : rung x = 9218868437227405312
  · rw [read_inf h1]
    by_cases h2 : rung y = 9218868437227405312
    · rw [read_inf h2]
      unfold val
      rw [h1, h2]
      have hM : 0 < mag 9218868437227405312 := mag_pos (by omega)
      obtain ⟨M, hMe⟩ : ∃ M, M = mag 9218868437227405312 := ⟨_, rfl⟩
      rw [← hMe] at hM ⊢
      cases neg x <;> cases neg y
      · simp only [Bool.false_eq_true, if_false]
        unfold cmp
        rw [if_neg (by omega), if_pos rfl]; rfl
      · simp only [Bool.false_eq_true, if_false, if_true]
        unfold cmp
        rw [if_neg (by omega), if_neg (by omega)]; rfl
      · simp only [Bool.false_eq_true, if_false, if_true]
        unfold cmp
        rw [if_pos (by omega)]; rfl
      · simp only [if_true]
        unfold cmp
        rw [if_neg (by omega), if_pos rfl]; rfl
    · obtain ⟨n, j, e2, e3⟩ := read_num (x := y) (by omega)
      rw [e2]
      have hm : mag (rung y) < mag 9218868437227405312 := mag_lt (by omega)
      show some (if neg x = true then Ordering.lt else Ordering.gt) = _
      unfold val cmp
      rw [h1]
      cases neg x
      · simp only [Bool.false_eq_true, if_false]
        rw [if_neg (by split <;> omega), if_neg (by split <;> omega)]
      · simp only [if_true]
        rw [if_pos (by split <;> omega)]
  · obtain ⟨m, k, e1, e1'⟩ := read_num (x := x) (by omega)
    rw [e1]
    by_cases h2 : rung y = 9218868437227405312
    · rw [read_inf h2]
      have hm : mag (rung x) < mag 9218868437227405312 := mag_lt (by omega)
      show some (if neg y = true then Ordering.gt else Ordering.lt) = _
      unfold val cmp
      rw [h2]
      cases neg y
      · simp only [Bool.false_eq_true, if_false]
        rw [if_pos (by split <;> omega)]
      · simp only [if_true]
        rw [if_neg (by split <;> omega), if_neg (by split <;> omega)]
    · obtain ⟨n, j, e2, e2'⟩ := read_num (x := y) (by omega)
      rw [e2, cmp_num, e1', e2']
      rfl
theorem order_nan {x y : Nat} (h : isNan x ∨ isNan y) : double.order x y = none := by
  unfold Format.order
  rcases h with h | h
  · obtain ⟨t, e⟩ := read_nan h
    rw [e]; rfl
  · obtain ⟨t, e⟩ := read_nan h
    rw [e]
    cases double.read x <;> rfl
/-- The same by bits. -/
theorem nan_bits {x : Nat} : isNan x ↔ (x / 4503599627370496 % 2048 = 2047 ∧ x % 4503599627370496 ≠ 0) := by
  unfold isNan rung
  omega
theorem val_lt {x y : Nat} (hx : x < 18446744073709551616) (hy : y < 18446744073709551616) :
    val x < val y ↔ (if 9223372036854775808 ≤ x then (if 9223372036854775808 ≤ y then y < x else ¬ (x = 9223372036854775808 ∧ y = 0)) else (if 9223372036854775808 ≤ y then False else x < y)) := by
  have nx : neg x = decide (9223372036854775808 ≤ x) := by
    unfold neg
    by_cases h : 9223372036854775808 ≤ x
    · rw [decide_eq_true h]; simp; omega
    · rw [decide_eq_false h]; simp; omega
  have ny : neg y = decide (9223372036854775808 ≤ y) := by
    unfold neg
    by_cases h : 9223372036854775808 ≤ y
    · rw [decide_eq_true h]; simp; omega
    · rw [decide_eq_false h]; simp; omega
  unfold val
  rw [nx, ny]
  by_cases h1 : 9223372036854775808 ≤ x
  · by_cases h2 : 9223372036854775808 ≤ y
    · simp only [h1, h2, decide_true, if_true]
      rw [Int.neg_lt_neg_iff, Int.ofNat_lt, mag_iff]
      unfold rung; omega
    · simp only [h1, h2, decide_true, decide_false, if_true, if_false, Bool.false_eq_true]
      constructor
      · rintro h ⟨rfl, rfl⟩
        have e1 : rung 9223372036854775808 = 0 := by decide
        have e2 : rung 0 = 0 := by decide
        rw [e1, e2, mag_zero] at h
        simp at h
      · intro h
        by_cases hx0 : rung x = 0
        · have hy0 : 0 < rung y := by
            have : ¬ (x = 9223372036854775808 ∧ y = 0) := h
            unfold rung at hx0 ⊢; omega
          have := mag_pos hy0
          omega
        · have := mag_pos (r := rung x) (by omega)
          omega
  · by_cases h2 : 9223372036854775808 ≤ y
    · simp only [h1, h2, decide_true, decide_false, if_true, if_false, Bool.false_eq_true]
      refine ⟨fun h => ?_, False.elim⟩
      omega
    · simp only [h1, h2, decide_false, if_false, Bool.false_eq_true]
      rw [Int.ofNat_lt, mag_iff]
      unfold rung; omega
theorem val_zero {x : Nat} (hx : x < 18446744073709551616) : val x = 0 ↔ x = 0 ∨ x = 9223372036854775808 := by
  constructor
  · intro h
    by_cases h0 : 0 < rung x
    · have := mag_pos h0
      unfold val at h
      split at h <;> omega
    · unfold rung at h0; omega
  · rintro (rfl | rfl) <;> decide
end Go.Proofs.YtbkaphcipbhmhaaDoor.Fo
