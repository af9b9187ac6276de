/- Numbers and texts as keys, and what reads them, on plain lists: nothing of the program. -/
import Derived.Test.YtbkaphcipbhmhaaDoorCm0
namespace Go.Proofs.YtbkaphcipbhmhaaDoor.Kl6
open Go Go.Proofs.YtbkaphcipbhmhaaDoor.Wm Go.Proofs.YtbkaphcipbhmhaaDoor.Vm Go.Proofs.YtbkaphcipbhmhaaDoor.Cm
/-- The eight bytes of a number, the highest one first. -/
def hi (N : Nat) : List UInt8 := (putN N 8).reverse
theorem hi_length (N : Nat) : (hi N).length = 8 := by simp [hi, putN_length]
theorem hi_byte (N k : Nat) (h : k < 8) : ((hi N)[k]'(by rw [hi_length]; exact h)).toNat = N / 256 ^ (7 - k) % 256 := by
  have h1 : 8 - 1 - k < (putN N 8).length := by rw [putN_length]; omega
  have e : (hi N)[k]'(by rw [hi_length]; exact h) = (putN N 8)[8 - 1 - k]'h1 := by
    simp only [hi]
    rw [List.getElem_reverse]
    congr 1
    first | done | rw [putN_length]
  rw [e, putN_get]
/-- A text with a byte 255 behind each byte 0. -/
def esc : List UInt8 → List UInt8
  | [] => []
  | c :: r => (if c = 0 then [0, 255] else [c]) ++ esc r
theorem esc_append : ∀ s t : List UInt8, esc (s ++ t) = esc s ++ esc t
  | [], t => rfl
  | c :: r, t => by simp [esc, esc_append r t]
theorem esc_snoc (s : List UInt8) (k : Nat) (h : k < s.length) : esc (s.take (k + 1)) = esc (s.take k) ++ (if s[k] = 0 then [0, 255] else [s[k]]) := by
  rw [List.take_succ_eq_append_getElem h, esc_append]
  simp [esc]
theorem esc_len : ∀ s : List UInt8, (esc s).length ≤ 2 * s.length
  | [] => by simp [esc]
  | c :: r => by
    have := esc_len r
    simp only [esc, List.length_append, List.length_cons]
    split <;> simp <;> omega
/-- What a key begins with: a number, a text, a value. -/
def cutN (s : List UInt8) : Option (Nat × List UInt8) := if s.length < 8 then none else some (getL (s.take 8).reverse, s.drop 8)
def cutT (acc : List UInt8) : List UInt8 → Option (List UInt8 × List UInt8)
  | [] => none
  | [_] => none
  | c :: d :: r => if 100 < acc.length then none else if c = 0 then (if d = 1 then some (acc, r) else if d = 255 then cutT (acc ++ [0]) r else none) else cutT (acc ++ [c]) (d :: r)
/-- The same, however long the text. -/
def cutR (acc : List UInt8) : List UInt8 → Option (List UInt8 × List UInt8)
  | [] => none
  | [_] => none
  | c :: d :: r => if c = 0 then (if d = 1 then some (acc, r) else if d = 255 then cutR (acc ++ [0]) r else none) else cutR (acc ++ [c]) (d :: r)
/-- What is cut off was put. -/
theorem hi_getL (l : List UInt8) (h : l.length = 8) : hi (getL l.reverse) = l := by
  have := putN_getL l.reverse
  rw [List.length_reverse, h] at this
  unfold hi
  rw [this, List.reverse_reverse]
theorem getL_hi {N : Nat} (h : N < 18446744073709551616) : getL (hi N).reverse = N := by
  unfold hi
  rw [List.reverse_reverse, getL_putN]
  exact Nat.mod_eq_of_lt h
theorem getL_lt8 (l : List UInt8) (h : l.length ≤ 8) : getL l < 18446744073709551616 := by
  have h1 := getL_lt l
  have h2 : 256 ^ l.length ≤ 256 ^ 8 := Nat.pow_le_pow_right (by omega) h
  have h3 : (256 : Nat) ^ 8 = 18446744073709551616 := by decide
  omega
theorem cutN_hi {N : Nat} (h : N < 18446744073709551616) (x : List UInt8) : cutN (hi N ++ x) = some (N, x) := by
  unfold cutN
  rw [if_neg (by rw [List.length_append, hi_length]; omega)]
  have e1 : (hi N ++ x).take 8 = hi N := by rw [List.take_append_of_le_length (by rw [hi_length]; omega), List.take_of_length_le (by rw [hi_length]; omega)]
  have e2 : (hi N ++ x).drop 8 = x := by rw [← hi_length N, List.drop_left]
  rw [e1, e2, getL_hi h]
theorem cutN_sound {s r : List UInt8} {N : Nat} (h : cutN s = some (N, r)) : s = hi N ++ r ∧ N < 18446744073709551616 := by
  unfold cutN at h
  split at h
  · cases h
  · cases h
    have hl : (s.take 8).length = 8 := by rw [List.length_take]; omega
    refine ⟨?_, getL_lt8 _ (by rw [List.length_reverse, hl]; omega)⟩
    rw [hi_getL _ hl, List.take_append_drop]
theorem cutT_esc : ∀ (t acc x : List UInt8), acc.length + t.length ≤ 100 → cutT acc (esc t ++ 0 :: 1 :: x) = some (acc ++ t, x)
  | [], acc, x, h => by simp [esc, cutT]; simp at h; omega
  | c :: t, acc, x, h => by
    have ih := cutT_esc t (acc ++ [c]) x (by simp at h ⊢; omega)
    simp only [List.length_cons] at h
    by_cases hc : c = 0
    · subst hc
      simp only [esc, if_true, List.cons_append, List.nil_append, cutT]
      rw [if_neg (by omega), if_neg (by decide), ih]; simp
    · simp only [esc, if_neg hc, List.cons_append, List.nil_append]
      have hne : ∃ d r, esc t ++ 0 :: 1 :: x = d :: r := by
        cases he : esc t ++ 0 :: 1 :: x with
        | nil => simp at he
        | cons d r => exact ⟨d, r, rfl⟩
      obtain ⟨d, r, hd⟩ := hne
      rw [hd] at ih ⊢
      simp only [cutT]
      rw [if_neg (by omega), if_neg hc, ih]; simp
theorem cutR_esc : ∀ (t acc x : List UInt8), cutR acc (esc t ++ 0 :: 1 :: x) = some (acc ++ t, x)
  | [], acc, x => by simp [esc, cutR]
  | c :: t, acc, x => by
    have ih := cutR_esc t (acc ++ [c]) x
    by_cases hc : c = 0
    · subst hc
      simp only [esc, if_true, List.cons_append, List.nil_append, cutR]
      rw [if_neg (by decide), ih]; simp
    · simp only [esc, if_neg hc, List.cons_append, List.nil_append]
      have hne : ∃ d r, esc t ++ 0 :: 1 :: x = d :: r := by
        cases he : esc t ++ 0 :: 1 :: x with
        | nil => simp at he
        | cons d r => exact ⟨d, r, rfl⟩
      obtain ⟨d, r, hd⟩ := hne
      rw [hd] at ih ⊢
      simp only [cutR]
      rw [if_neg hc, ih]; simp
theorem cutT_sound : ∀ (n : Nat) (s acc t x : List UInt8), s.length ≤ n → cutT acc s = some (t, x) → ∃ t', t = acc ++ t' ∧ s = esc t' ++ 0 :: 1 :: x
  | 0, s, acc, t, x, hn, h => by
    have : s = [] := List.eq_nil_of_length_eq_zero (by omega)
    subst this; simp [cutT] at h
  | n + 1, s, acc, t, x, hn, h => by
    match s, hn, h with
    | [], _, h => simp [cutT] at h
    | [c], _, h => simp [cutT] at h
    | c :: d :: r, hn, h =>
      simp only [List.length_cons] at hn
      simp only [cutT] at h
      split at h
      · cases h
      · split at h
        · rename_i hc
          subst hc
          split at h
          · rename_i hd
            subst hd
            cases h
            exact ⟨[], by simp, by simp [esc]⟩
          · split at h
            · rename_i hd
              subst hd
              obtain ⟨t', e1, e2⟩ := cutT_sound n r (acc ++ [0]) t x (by omega) h
              exact ⟨0 :: t', by rw [e1]; simp, by rw [e2]; simp [esc]⟩
            · cases h
        · rename_i hc
          obtain ⟨t', e1, e2⟩ := cutT_sound n (d :: r) (acc ++ [c]) t x (by simp; omega) h
          exact ⟨c :: t', by rw [e1]; simp, by rw [e2]; simp [esc, hc]⟩
theorem cutT_len : ∀ (n : Nat) (s acc t x : List UInt8), s.length ≤ n → cutT acc s = some (t, x) → t.length ≤ 100
  | 0, s, acc, t, x, hn, h => by
    have : s = [] := List.eq_nil_of_length_eq_zero (by omega)
    subst this; simp [cutT] at h
  | n + 1, s, acc, t, x, hn, h => by
    match s, hn, h with
    | [], _, h => simp [cutT] at h
    | [c], _, h => simp [cutT] at h
    | c :: d :: r, hn, h =>
      simp only [List.length_cons] at hn
      simp only [cutT] at h
      split at h
      · cases h
      · rename_i hl
        split at h
        · split at h
          · cases h; omega
          · split at h
            · exact cutT_len n r _ t x (by omega) h
            · cases h
        · exact cutT_len n (d :: r) _ t x (by simp; omega) h
theorem cutR_len : ∀ (n : Nat) (s acc t x : List UInt8), s.length ≤ n → cutR acc s = some (t, x) → t.length + x.length ≤ acc.length + s.length
  | 0, s, acc, t, x, hn, h => by
    have : s = [] := List.eq_nil_of_length_eq_zero (by omega)
    subst this; simp [cutR] at h
  | n + 1, s, acc, t, x, hn, h => by
    match s, hn, h with
    | [], _, h => simp [cutR] at h
    | [c], _, h => simp [cutR] at h
    | c :: d :: r, hn, h =>
      simp only [List.length_cons] at hn
      simp only [cutR] at h
      split at h
      · split at h
        · cases h; simp; omega
        · split at h
          · have := cutR_len n r _ t x (by omega) h
            simp at this ⊢; omega
          · cases h
      · have := cutR_len n (d :: r) _ t x (by simp; omega) h
        simp at this ⊢; omega
end Go.Proofs.YtbkaphcipbhmhaaDoor.Kl6
