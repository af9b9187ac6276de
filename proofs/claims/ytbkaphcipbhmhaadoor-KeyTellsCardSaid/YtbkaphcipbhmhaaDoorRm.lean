/- What the bits of numbers with a point come to, on plain numbers: nothing of the program. -/
import Derived.Test.YtbkaphcipbhmhaaDoorFo
import Derived.Test.YtbkaphcipbhmhaaDoorWm
import Derived.WalkLawsBesides
namespace Go.Proofs.YtbkaphcipbhmhaaDoor.Rm
open Go Go.Proofs.YtbkaphcipbhmhaaDoor.Wm
def bad (x : Nat) : Bool := decide (x / 4503599627370496 % 2048 = 2047) && !decide (x % 4503599627370496 = 0)
theorem bad_iff {x : Nat} : bad x = true ↔ Fo.isNan x := by
  rw [Fo.nan_bits]; unfold bad; simp
theorem bad_not {x : Nat} : bad x = false ↔ ¬ Fo.isNan x := by
  rw [← bad_iff]; simp
def canon (x : Nat) : Nat := if bad x then 9221120237041090561 else x
def place (x : Nat) : Nat := if bad x then 2 else if 9223372036854775808 ≤ x then 0 else 1
def less (x y : Nat) : Bool :=
  if place x ≠ place y then decide (place x < place y) else if place x = 0 then decide (canon y < canon x) else decide (canon x < canon y)
def key (x : Nat) : Nat := if canon x < 9223372036854775808 then canon x + 9223372036854775808 else 18446744073709551615 - canon x
def unkey (k : Nat) : Nat := if 9223372036854775808 ≤ k then k - 9223372036854775808 else 18446744073709551615 - k
def back (k : Nat) : Nat × Int := if bad (unkey k) && !decide (unkey k = 9221120237041090561) then (0, 2) else (unkey k, 0)
theorem canon_lt {x : Nat} (h : x < 18446744073709551616) : canon x < 18446744073709551616 := by
  unfold canon; split <;> omega
theorem unkey_lt {x : Nat} (h : x < 18446744073709551616) : unkey x < 18446744073709551616 := by
  unfold unkey; split <;> omega
theorem key_lt {x : Nat} : key x < 18446744073709551616 := by
  unfold key; split <;> omega
theorem bad_canon {x : Nat} (h : bad x = false) : canon x = x := by unfold canon; rw [h]; rfl
theorem canon_bad {x : Nat} (h : bad x = true) : canon x = 9221120237041090561 := by unfold canon; rw [h]; rfl
theorem bad_nan : bad 9221120237041090561 = true := by decide
theorem canon_canon (x : Nat) : canon (canon x) = canon x := by
  cases h : bad x
  · rw [bad_canon h, bad_canon h]
  · rw [canon_bad h]; exact canon_bad bad_nan
/-- What a float's comparison with itself gives. -/
theorem self_neq (x : Nat) : (Ieee.double.order x x != some .eq) = bad x := by
  cases h : bad x
  · rw [Fo.order_num (bad_not.1 h) (bad_not.1 h)]
    unfold Fo.cmp
    rw [if_neg (by omega), if_pos rfl]; rfl
  · rw [Fo.order_nan (Or.inl (bad_iff.1 h))]; rfl
theorem self_eql (x : Nat) : (Ieee.double.order x x == some .eq) = !bad x := by
  have := self_neq x
  rw [bne] at this
  rw [← this, Bool.not_not]
theorem val_lt_iff {x y : Nat} (h : bad x = false) (h' : bad y = false) :
    (Ieee.double.order x y == some .lt) = decide (Fo.val x < Fo.val y) := by
  rw [Fo.order_num (bad_not.1 h) (bad_not.1 h')]
  unfold Fo.cmp
  by_cases c : Fo.val x < Fo.val y
  · rw [if_pos c, decide_eq_true c]; rfl
  · rw [if_neg c, decide_eq_false c]; split <;> rfl
/-- The program's Less is that by places. -/
theorem less_prog {x y : Nat} (hx : x < 18446744073709551616) (hy : y < 18446744073709551616) :
    (decide ((place x : Int) < (place y : Int)) || (Ieee.double.order x y == some .lt)) = less x y := by
  cases h : bad x
  · cases h' : bad y
    · rw [val_lt_iff h h']
      unfold less place
      rw [h, h', bad_canon h, bad_canon h']
      simp only [Fo.val_lt hx hy, Bool.false_eq_true, if_false]
      by_cases a : 9223372036854775808 ≤ x
      · by_cases b : 9223372036854775808 ≤ y
        · simp [a, b]
        · simp [a, b]
      · by_cases b : 9223372036854775808 ≤ y
        · simp [a, b]
        · simp [a, b]
    · rw [Fo.order_nan (Or.inr (bad_iff.1 h'))]
      unfold less place
      rw [h, h']
      by_cases a : 9223372036854775808 ≤ x <;> simp [a]
  · rw [Fo.order_nan (Or.inl (bad_iff.1 h))]
    unfold less place
    rw [h, canon_bad h]
    cases h' : bad y
    · by_cases a : 9223372036854775808 ≤ y <;> simp [a]
    · rw [canon_bad h']; simp
theorem two63 : (9223372036854775808 : Nat) = 2 ^ 63 := by decide
theorem and63 (c : Nat) : c &&& 2 ^ 63 = if c.testBit 63 then 2 ^ 63 else 0 := by
  apply Nat.eq_of_testBit_eq
  intro i
  rw [Nat.testBit_and, Nat.testBit_two_pow]
  by_cases hi : 63 = i
  · subst hi
    cases c.testBit 63
    · simp only [Bool.false_eq_true, if_false, Nat.zero_testBit, Bool.false_and]
    · rw [if_pos rfl, Nat.testBit_two_pow_self]; rfl
  · rw [decide_eq_false hi, Bool.and_false]
    cases c.testBit 63
    · simp only [Bool.false_eq_true, if_false, Nat.zero_testBit]
    · rw [if_pos rfl, Nat.testBit_two_pow, decide_eq_false hi]
theorem sign_and_lo {c : Nat} (h : c < 9223372036854775808) : bits .and .u64 (c : Int) 9223372036854775808 = 0 := by
  refine (u64_and_nat c 9223372036854775808 (by omega) (by omega)).trans ?_
  rw [two63, and63, Nat.testBit_lt_two_pow (by rw [← two63]; exact h)]; rfl
theorem sign_and_hi {c : Nat} (h : ¬ c < 9223372036854775808) (h' : c < 18446744073709551616) : bits .and .u64 (c : Int) 9223372036854775808 = 9223372036854775808 := by
  refine (u64_and_nat c 9223372036854775808 (by omega) (by omega)).trans ?_
  have t : c.testBit 63 = true := by
    rw [Nat.testBit_eq_decide_div_mod_eq]
    exact decide_eq_true (by omega)
  rw [two63, and63, t]; rfl
theorem sign_or {c : Nat} (h : c < 9223372036854775808) : bits .or .u64 (c : Int) 9223372036854775808 = ((c + 9223372036854775808 : Nat) : Int) := by
  refine (u64_or_nat c 9223372036854775808 (by omega) (by omega)).trans ?_
  have := Nat.two_pow_add_eq_or_of_lt (i := 63) (b := c) (by rw [← two63]; exact h) 1
  rw [Nat.mul_one, ← two63] at this
  rw [Nat.or_comm, ← this, Nat.add_comm]
theorem turn {c : Nat} (h : c < 18446744073709551616) : bits .xor .u64 IntKind.u64.max (c : Int) = ((18446744073709551615 - c : Nat) : Int) := by
  have e : IntKind.u64.max = ((18446744073709551615 : Nat) : Int) := by decide
  rw [e, u64_xor_nat _ c (by omega) h]
  congr 1
  apply Nat.eq_of_testBit_eq
  intro i
  have e1 : 18446744073709551615 - c = 2 ^ 64 - (c + 1) := by omega
  have e2 : 18446744073709551615 = 2 ^ 64 - 1 := by omega
  rw [e1, Nat.testBit_two_pow_sub_succ (by omega), e2, Nat.testBit_xor, Nat.testBit_two_pow_sub_one]
  by_cases hi : i < 64
  · simp [hi]
  · have : c.testBit i = false := Nat.testBit_lt_two_pow (Nat.lt_of_lt_of_le h (by
      have := Nat.pow_le_pow_right (n := 2) (by omega) (show 64 ≤ i by omega); omega))
    simp [hi, this]
theorem xor63 {c : Nat} (h : ¬ c < 9223372036854775808) (h' : c < 18446744073709551616) : c ^^^ 9223372036854775808 = c - 9223372036854775808 := by
  have e := @Nat.two_pow_add_eq_or_of_lt 63 (c - 9223372036854775808) (by rw [← two63]; omega) 1
  rw [Nat.mul_one, ← two63] at e
  have hc : 9223372036854775808 + (c - 9223372036854775808) = c := by omega
  rw [hc] at e
  have hlt : c - 9223372036854775808 < 2 ^ 63 := by rw [← two63]; omega
  generalize c - 9223372036854775808 = d at e hlt ⊢
  rw [e, two63]
  apply Nat.eq_of_testBit_eq
  intro i
  rw [Nat.testBit_xor, Nat.testBit_or, Nat.testBit_two_pow]
  by_cases hi : 63 = i
  · have h0 : d.testBit i = false := Nat.testBit_lt_two_pow (by rw [← hi]; exact hlt)
    rw [h0, decide_eq_true hi]; rfl
  · rw [decide_eq_false hi]
    cases d.testBit i <;> rfl
theorem sign_xor {c : Nat} (h : ¬ c < 9223372036854775808) (h' : c < 18446744073709551616) : bits .xor .u64 (c : Int) 9223372036854775808 = ((c - 9223372036854775808 : Nat) : Int) :=
  (u64_xor_nat c 9223372036854775808 h' (by omega)).trans (by rw [xor63 h h'])
end Go.Proofs.YtbkaphcipbhmhaaDoor.Rm
