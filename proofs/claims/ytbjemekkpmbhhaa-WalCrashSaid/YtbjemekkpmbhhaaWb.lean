/- Plain arithmetic on turned bits: nothing of the program. -/
import Derived.Test.YtbjemekkpmbhhaaWc
namespace Go.Proofs.Ytbjemekkpmbhhaa.Wb
open Go Go.Proofs.Ytbjemekkpmbhhaa.Wm Go.Proofs.Ytbjemekkpmbhhaa.Wc
theorem mul_xor (k x y : Nat) : 2 ^ k * (x ^^^ y) = 2 ^ k * x ^^^ 2 ^ k * y := by
  apply Nat.eq_of_testBit_eq
  intro i
  rw [Nat.testBit_xor, Nat.testBit_two_pow_mul, Nat.testBit_two_pow_mul, Nat.testBit_two_pow_mul, Nat.testBit_xor]
  by_cases h : k ≤ i <;> simp [h]
theorem getL_cons (b : UInt8) (l : List UInt8) : getL (b :: l) = b.toNat ^^^ 2 ^ 8 * getL l := by rw [getL]; exact cons_xor b (getL l)
/-- One bit of one byte is turned. -/
theorem getL_set : ∀ (l : List UInt8) (q r : Nat) (c : UInt8) (h : q < l.length), c.toNat = (l[q]).toNat ^^^ 2 ^ r → getL (l.set q c) = getL l ^^^ 2 ^ (8 * q + r)
  | [], _, _, _, h, _ => by simp at h
  | a :: l, 0, r, c, _, hc => by
    simp only [List.getElem_cons_zero] at hc
    rw [List.set_cons_zero, getL_cons, getL_cons, hc, Nat.mul_zero, Nat.zero_add, Nat.xor_assoc, Nat.xor_assoc, Nat.xor_comm (2 ^ r)]
  | a :: l, q + 1, r, c, h, hc => by
    simp only [List.getElem_cons_succ] at hc
    have h' : q < l.length := by simpa using h
    have ih := getL_set l q r c h' hc
    have e : 2 ^ (8 * (q + 1) + r) = 2 ^ 8 * 2 ^ (8 * q + r) := by
      rw [← Nat.pow_add]; congr 1; omega
    rw [List.set_cons_succ, getL_cons, getL_cons, ih, mul_xor, e, Nat.xor_assoc]
theorem low_xor (t j : Nat) (h : t / 2 ^ j % 2 = 1) : t % 2 ^ (j + 1) = t % 2 ^ j ^^^ 2 ^ j := by
  have e : t % 2 ^ (j + 1) = t % 2 ^ j + 2 ^ j := by
    rw [Nat.pow_succ, Nat.mod_mul, h]; omega
  have h2 := Nat.two_pow_add_eq_or_of_lt (i := j) (b := t % 2 ^ j) (Nat.mod_lt _ (Nat.pow_pos (by omega))) 1
  have hx : 2 ^ j * 1 ||| t % 2 ^ j = t % 2 ^ j ^^^ 2 ^ j := by
    apply Nat.eq_of_testBit_eq
    intro i
    rw [Nat.testBit_or, Nat.testBit_xor, Nat.mul_one, Nat.testBit_two_pow, Nat.testBit_mod_two_pow]
    by_cases hi : i < j
    · have : j ≠ i := by omega
      simp [hi, this]
    · by_cases he : j = i
      · simp [he]
      · simp [hi, he]
  rw [Nat.mul_one] at h2 hx
  rw [e, ← hx, ← h2, Nat.add_comm]
theorem low_same (t j : Nat) (h : t / 2 ^ j % 2 ≠ 1) : t % 2 ^ (j + 1) = t % 2 ^ j := by
  have h0 : t / 2 ^ j % 2 = 0 := by omega
  rw [Nat.pow_succ, Nat.mod_mul, h0]; omega
/-- A round that turns. -/
theorem turn_step (l m : List UInt8) (i j t : Nat) (c : UInt8) (h : (i + j) / 8 < m.length) (hm : getL m = getL l ^^^ 2 ^ i * (t % 2 ^ j)) (ho : t / 2 ^ j % 2 = 1)
    (hc : c.toNat = (m[(i + j) / 8]).toNat ^^^ 2 ^ ((i + j) % 8)) : getL (m.set ((i + j) / 8) c) = getL l ^^^ 2 ^ i * (t % 2 ^ (j + 1)) := by
  have e : 8 * ((i + j) / 8) + (i + j) % 8 = i + j := Nat.div_add_mod _ _
  rw [getL_set m _ _ c h hc, e, hm, low_xor t j ho, mul_xor, Nat.xor_assoc, ← Nat.pow_add]
end Go.Proofs.Ytbjemekkpmbhhaa.Wb
