/- Plain arithmetic on the remainder of a text's bits: nothing of the program. -/
import Derived.Test.YtbjemekkpmbhhaaWm
namespace Go.Proofs.Ytbjemekkpmbhhaa.Wc
open Go Go.Proofs.Ytbjemekkpmbhhaa.Wm
def poly : Nat := 3988292384
/-- One bit's division, over numbers of any length. -/
def step (c : Nat) : Nat := if c % 2 = 1 then c / 2 ^^^ poly else c / 2
def steps : Nat → Nat → Nat
  | 0, c => c
  | k + 1, c => steps k (step c)
theorem step_xor (a b : Nat) : step (a ^^^ b) = step a ^^^ step b := by
  have h1 : (a ^^^ b) / 2 = a / 2 ^^^ b / 2 := Nat.xor_div_two
  have h2 : (a ^^^ b) % 2 = (a + b) % 2 := by
    have h := Nat.xor_mod_two_pow (a := a) (b := b) (n := 1)
    rw [Nat.pow_one] at h
    rw [h]
    have ha : a % 2 = 0 ∨ a % 2 = 1 := by omega
    have hb : b % 2 = 0 ∨ b % 2 = 1 := by omega
    rcases ha with ha | ha <;> rcases hb with hb | hb <;> rw [ha, hb] <;> simp <;> omega
  have hp : ∀ x y p : Nat, x ^^^ p ^^^ (y ^^^ p) = x ^^^ y := by
    intro x y p
    rw [Nat.xor_assoc, Nat.xor_comm y p, ← Nat.xor_assoc p p y, Nat.xor_self, Nat.zero_xor]
  unfold step
  rw [h1, h2]
  by_cases ha : a % 2 = 1 <;> by_cases hb : b % 2 = 1
  · rw [if_pos ha, if_pos hb, if_neg (by omega), hp]
  · rw [if_pos ha, if_neg hb, if_pos (by omega), Nat.xor_assoc, Nat.xor_assoc, Nat.xor_comm poly]
  · rw [if_neg ha, if_pos hb, if_pos (by omega), Nat.xor_assoc]
  · rw [if_neg ha, if_neg hb, if_neg (by omega)]
theorem steps_xor : ∀ (k a b : Nat), steps k (a ^^^ b) = steps k a ^^^ steps k b
  | 0, _, _ => rfl
  | k + 1, a, b => by simp only [steps, step_xor, steps_xor k]
theorem steps_add : ∀ (j k c : Nat), steps (j + k) c = steps k (steps j c)
  | 0, k, c => by simp [steps]
  | j + 1, k, c => by
    have e : j + 1 + k = (j + k) + 1 := by omega
    rw [e]; simp only [steps, steps_add j k]
theorem step_even (q : Nat) : step (2 * q) = q := by
  unfold step; rw [if_neg (by omega)]; omega
theorem steps_shift : ∀ (k q : Nat), steps k (2 ^ k * q) = q
  | 0, q => by simp [steps]
  | k + 1, q => by
    have e : 2 ^ (k + 1) * q = 2 * (2 ^ k * q) := by rw [Nat.pow_succ, Nat.mul_comm (2 ^ k) 2, Nat.mul_assoc]
    rw [e, steps, step_even, steps_shift k]
theorem steps_zero : ∀ k : Nat, steps k 0 = 0
  | 0 => rfl
  | k + 1 => by simp only [steps]; exact steps_zero k
theorem step_lt (c : Nat) (h : c < 4294967296) : step c < 4294967296 := by
  unfold step
  split
  · exact Nat.xor_lt_two_pow (n := 32) (by omega) (by decide)
  · omega
theorem steps_lt : ∀ (k c : Nat), c < 4294967296 → steps k c < 4294967296
  | 0, _, h => h
  | k + 1, c, h => steps_lt k _ (step_lt c h)
theorem step_ne (c : Nat) (h : c < 4294967296) (h0 : c ≠ 0) : step c ≠ 0 := by
  unfold step
  split
  · intro e
    have : c / 2 = poly := by
      have e2 : c / 2 ^^^ poly ^^^ poly = 0 ^^^ poly := by rw [e]
      rw [Nat.xor_assoc, Nat.xor_self, Nat.xor_zero, Nat.zero_xor] at e2
      exact e2
    unfold poly at this
    omega
  · omega
theorem steps_ne : ∀ (k c : Nat), c < 4294967296 → c ≠ 0 → steps k c ≠ 0
  | 0, _, _, h => h
  | k + 1, c, hc, h => steps_ne k _ (step_lt c hc) (step_ne c hc h)
/-- What half a byte leaves behind. -/
def tabN (r : Nat) : Nat := steps 4 r
theorem split16 (c : Nat) : c = 2 ^ 4 * (c / 16) ^^^ c % 16 := by
  have h := Nat.two_pow_add_eq_or_of_lt (i := 4) (b := c % 16) (by omega) (c / 16)
  have hx : 2 ^ 4 * (c / 16) ||| c % 16 = 2 ^ 4 * (c / 16) ^^^ c % 16 := by
    apply Nat.eq_of_testBit_eq
    intro i
    rw [Nat.testBit_or, Nat.testBit_xor]
    by_cases hi : i < 4
    · have : (2 ^ 4 * (c / 16)).testBit i = false := by
        rw [Nat.mul_comm, Nat.testBit_mul_two_pow]; simp; omega
      rw [this]; simp
    · have : (c % 16).testBit i = false := Nat.testBit_lt_two_pow (Nat.lt_of_lt_of_le (Nat.mod_lt _ (by omega)) (Nat.pow_le_pow_right (n := 2) (by omega) (by omega : 4 ≤ i)))
      rw [this]; simp
  omega
/-- Half a byte's round, by the table. -/
theorem half_step (c : Nat) : tabN (c % 16) ^^^ c / 16 = steps 4 c := by
  conv => rhs; rw [split16 c, steps_xor, steps_shift]
  rw [Nat.xor_comm]; rfl
/-- One byte's round. -/
def bstep (c : Nat) (b : UInt8) : Nat := steps 8 (c ^^^ b.toNat)
/-- The remainder behind these bytes. -/
def remd (c : Nat) (l : List UInt8) : Nat := l.foldl bstep c
theorem remd_nil (c : Nat) : remd c [] = c := by unfold remd; exact List.foldl_nil
theorem remd_cons (c : Nat) (b : UInt8) (l : List UInt8) : remd c (b :: l) = remd (bstep c b) l := by unfold remd; exact List.foldl_cons ..
theorem remd_snoc (l : List UInt8) (c : Nat) (b : UInt8) : remd c (l ++ [b]) = bstep (remd c l) b := by unfold remd; rw [List.foldl_append, List.foldl_cons, List.foldl_nil]
theorem bstep_lt (c : Nat) (b : UInt8) (h : c < 4294967296) : bstep c b < 4294967296 := by
  have hb := b.toNat_lt
  unfold bstep
  exact steps_lt 8 _ (Nat.xor_lt_two_pow (n := 32) h (by omega))
theorem remd_lt (l : List UInt8) : ∀ (c : Nat), c < 4294967296 → remd c l < 4294967296 := by
  induction l with
  | nil => intro c h; rw [remd_nil]; exact h
  | cons b l ih => intro c h; rw [remd_cons]; exact ih _ (bstep_lt c b h)
def crc (l : List UInt8) : Nat := 4294967295 ^^^ remd 4294967295 l
theorem cons_xor (b : UInt8) (q : Nat) : b.toNat + 256 * q = b.toNat ^^^ 2 ^ 8 * q := by
  have hb := b.toNat_lt
  have h := Nat.two_pow_add_eq_or_of_lt (i := 8) (b := b.toNat) (by omega) q
  have hx : 2 ^ 8 * q ||| b.toNat = b.toNat ^^^ 2 ^ 8 * q := by
    apply Nat.eq_of_testBit_eq
    intro i
    rw [Nat.testBit_or, Nat.testBit_xor]
    by_cases hi : i < 8
    · have : (2 ^ 8 * q).testBit i = false := by
        rw [Nat.mul_comm, Nat.testBit_mul_two_pow]; simp; omega
      rw [this]; simp
    · have : b.toNat.testBit i = false := Nat.testBit_lt_two_pow (Nat.lt_of_lt_of_le hb (Nat.pow_le_pow_right (n := 2) (by omega) (by omega : 8 ≤ i)))
      rw [this]; simp
  omega
/-- The remainder of a text is that of one great number. -/
theorem remd_eq (l : List UInt8) : ∀ (c : Nat), remd c l = steps (8 * l.length) (c ^^^ getL l) := by
  induction l with
  | nil => intro c; rw [remd_nil]; simp [getL, steps]
  | cons b l ih =>
    intro c
    have e : 8 * (b :: l).length = 8 + 8 * l.length := by rw [List.length_cons]; omega
    have e2 : getL (b :: l) = b.toNat ^^^ 2 ^ 8 * getL l := by rw [getL]; exact cons_xor b (getL l)
    rw [e, steps_add, e2, ← Nat.xor_assoc, steps_xor 8, steps_shift, remd_cons, ih]
    unfold bstep
    rfl
/-- Two texts of one length that part by bits within 32 in a row have unlike remainders. -/
theorem remd_burst (l m : List UInt8) (c t i : Nat) (hlen : l.length = m.length) (ht : t < 4294967296) (h0 : t ≠ 0) (hi : i ≤ 8 * l.length) (hx : getL m = getL l ^^^ 2 ^ i * t) :
    remd c m ≠ remd c l := by
  rw [remd_eq, remd_eq, ← hlen, hx, ← Nat.xor_assoc, steps_xor]
  intro e
  have e2 : steps (8 * l.length) (2 ^ i * t) = 0 := by
    have h := congrArg (fun x => steps (8 * l.length) (c ^^^ getL l) ^^^ x) e
    simp only [← Nat.xor_assoc, Nat.xor_self, Nat.zero_xor] at h
    exact h
  have e3 : 8 * l.length = i + (8 * l.length - i) := by omega
  rw [e3, steps_add, steps_shift] at e2
  exact steps_ne _ _ ht h0 e2
theorem crc_burst (l m : List UInt8) (t i : Nat) (hlen : l.length = m.length) (ht : t < 4294967296) (h0 : t ≠ 0) (hi : i ≤ 8 * l.length) (hx : getL m = getL l ^^^ 2 ^ i * t) :
    crc m ≠ crc l := by
  have h := remd_burst l m 4294967295 t i hlen ht h0 hi hx
  unfold crc
  intro e
  have e2 := congrArg (fun x => 4294967295 ^^^ x) e
  simp only [← Nat.xor_assoc, Nat.xor_self, Nat.zero_xor] at e2
  exact h e2
theorem crc_lt (l : List UInt8) : crc l < 4294967296 := by
  unfold crc
  exact Nat.xor_lt_two_pow (n := 32) (by omega) (remd_lt l _ (by omega))
end Go.Proofs.Ytbjemekkpmbhhaa.Wc
