/- What After tells, on plain lists: it is above all that begin so, and no lesser one is. -/
import Derived.Test.YtbkaphcipbhmhaaDoorKa6
namespace Go.Proofs.YtbkaphcipbhmhaaDoor.Pa6
open Go Go.Proofs.YtbkaphcipbhmhaaDoor.Vm Go.Proofs.YtbkaphcipbhmhaaDoor.Cm Go.Proofs.YtbkaphcipbhmhaaDoor.Ka6
theorem bl_app : ∀ (p x y : List UInt8), Op.bytesLess (p ++ x) (p ++ y) = Op.bytesLess x y
  | [], x, y => rfl
  | a :: p, x, y => by
    simp [Op.bytesLess, bl_app p x y]
theorem cut_zero : ∀ (s : List UInt8) (n : Nat), n ≤ s.length → cut s n = 0 → ∀ i, i < n → s.getD i 0 = 255
  | s, 0, _, _, i, hi => by omega
  | s, n + 1, hn, h, i, hi => by
    simp only [cut] at h
    split at h
    · rename_i h255
      by_cases hin : i = n
      · subst hin; exact h255
      · exact cut_zero s n (by omega) h i (by omega)
    · omega
theorem cut_some : ∀ (s : List UInt8) (n m : Nat), n ≤ s.length → (∃ j, s.drop n = List.replicate j 255) → cut s n = m + 1 → m < s.length ∧ s.getD m 0 ≠ 255 ∧ ∃ j, s.drop (m + 1) = List.replicate j 255
  | s, 0, m, _, _, h => by simp [cut] at h
  | s, n + 1, m, hn, ⟨j, hj⟩, h => by
    simp only [cut] at h
    split at h
    · rename_i h255
      refine cut_some s n m (by omega) ⟨j + 1, ?_⟩ h
      rw [List.drop_eq_getElem_cons (by omega), hj, List.replicate_succ]
      congr 1
      rw [List.getD_eq_getElem?_getD, List.getElem?_eq_getElem (by omega), Option.getD_some] at h255
      exact h255
    · rename_i h255
      obtain rfl : n = m := by omega
      exact ⟨by omega, h255, j, hj⟩
theorem form {s : List UInt8} {m : Nat} (h : cut s s.length = m + 1) : ∃ p c j, s = p ++ c :: List.replicate j 255 ∧ c ≠ 255 ∧ after s = (p ++ [c + 1], true) := by
  obtain ⟨h1, h2, j, h3⟩ := cut_some s s.length m (Nat.le_refl _) ⟨0, by simp⟩ h
  refine ⟨s.take m, s.getD m 0, j, ?_, h2, after_at h⟩
  rw [← h3]
  have e : s.getD m 0 = s[m] := by rw [List.getD_eq_getElem?_getD, List.getElem?_eq_getElem h1, Option.getD_some]
  rw [e, ← List.drop_eq_getElem_cons h1, List.take_append_drop]
theorem next_lt {c : UInt8} (h : c ≠ 255) : c < c + 1 := by
  rw [UInt8.lt_iff_toNat_lt, UInt8.toNat_add]
  have h1 : (1 : UInt8).toNat = 1 := rfl
  have h2 := c.toNat_lt
  have h3 : c.toNat ≠ 255 := fun e => h (UInt8.toNat_inj.1 (by simpa using e))
  rw [h1]; omega
/-- All that begin so are below. -/
theorem below_after {p : List UInt8} {c : UInt8} (h : c ≠ 255) (x : List UInt8) : Op.bytesLess (p ++ c :: x) (p ++ [c + 1]) = true := by
  rw [bl_app]
  simp [Op.bytesLess, next_lt h]
theorem above_rep : ∀ (j : Nat) (y : List UInt8), Op.bytesLess (List.replicate j 255) y = true → ∃ z, y = List.replicate j 255 ++ z
  | 0, y, _ => ⟨y, rfl⟩
  | j + 1, [], h => by simp [List.replicate_succ, Op.bytesLess] at h
  | j + 1, d :: y, h => by
    rw [List.replicate_succ] at h
    simp only [Op.bytesLess, Bool.or_eq_true, decide_eq_true_eq, Bool.and_eq_true, beq_iff_eq] at h
    rcases h with h | ⟨h1, h2⟩
    · rw [UInt8.lt_iff_toNat_lt] at h
      have := d.toNat_lt
      have h255 : (255 : UInt8).toNat = 255 := rfl
      omega
    · obtain ⟨z, hz⟩ := above_rep j y h2
      exact ⟨z, by rw [hz, ← h1, List.replicate_succ]; rfl⟩
/-- What stands between begins so. -/
theorem between {c : UInt8} {j : Nat} (hc : c ≠ 255) : ∀ (p t : List UInt8), Op.bytesLess (p ++ c :: List.replicate j 255) t = true → Op.bytesLess t (p ++ [c + 1]) = true → ∃ z, t = (p ++ c :: List.replicate j 255) ++ z
  | [], [], h, _ => by simp [Op.bytesLess] at h
  | q :: p, [], h, _ => by simp [Op.bytesLess] at h
  | [], d :: y, h, k => by
    simp only [List.nil_append, Op.bytesLess, Bool.or_eq_true, decide_eq_true_eq, Bool.and_eq_true, beq_iff_eq] at h k
    have hk : d < c + 1 := by
      rcases k with k | ⟨_, k⟩
      · exact k
      · cases y <;> cases k
    have hn := next_lt hc
    rw [UInt8.lt_iff_toNat_lt] at hk hn
    rw [UInt8.toNat_add] at hk hn
    have h1 : (1 : UInt8).toNat = 1 := rfl
    rw [h1] at hk hn
    have h2 := c.toNat_lt
    rcases h with h | ⟨rfl, h⟩
    · rw [UInt8.lt_iff_toNat_lt] at h; omega
    · obtain ⟨z, hz⟩ := above_rep j y h
      exact ⟨z, by rw [hz]; rfl⟩
  | q :: p, d :: y, h, k => by
    simp only [List.cons_append, Op.bytesLess, Bool.or_eq_true, decide_eq_true_eq, Bool.and_eq_true, beq_iff_eq] at h k
    simp only [UInt8.lt_iff_toNat_lt] at h k
    rcases h with h | ⟨rfl, h⟩
    · rcases k with k | ⟨rfl, k⟩ <;> omega
    · rcases k with k | ⟨_, k⟩
      · omega
      · obtain ⟨z, hz⟩ := between hc p y h k
        exact ⟨z, by rw [hz]; rfl⟩
/-- Texts' order, as the statement asks it. -/
structure Tells (s t more a : List UInt8) (b : Bool) : Prop where
  above : Op.bytesLess (s ++ more) a = true
  under : b = true → Op.bytesLess t a = true
  least : b = false → Op.bytesLess s t = true → Op.bytesLess t a = false
theorem tells {s : List UInt8} (h : (after s).2 = true) (t more : List UInt8) (b : Bool) (hb : b = true ↔ ∃ z, t = s ++ z) : Tells s t more (after s).1 b := by
  have hc : ∃ m, cut s s.length = m + 1 := by
    unfold after at h
    cases hq : cut s s.length with
    | zero => rw [hq, if_pos rfl] at h; cases h
    | succ m => exact ⟨m, rfl⟩
  obtain ⟨m, hm⟩ := hc
  obtain ⟨p, c, j, e1, e2, e3⟩ := form hm
  rw [e3]
  refine ⟨?_, fun h => ?_, fun h h2 => ?_⟩
  · rw [e1, List.append_assoc]; exact below_after e2 _
  · obtain ⟨z, hz⟩ := hb.1 h
    rw [hz, e1, List.append_assoc]; exact below_after e2 _
  · cases hq : Op.bytesLess t (p ++ [c + 1]) with
    | false => rfl
    | true =>
      rw [e1] at h2
      obtain ⟨z, hz⟩ := between e2 p t h2 hq
      rw [hb.2 ⟨z, by rw [hz, e1]⟩] at h
      cases h
theorem none_255 {s : List UInt8} (h : (after s).2 = false) : (after s).1 = [] ∧ ∀ i (hi : i < s.length), s[i] = 255 := by
  unfold after at h ⊢
  split at h
  · rename_i h0
    rw [if_pos h0]
    refine ⟨rfl, fun i hi => ?_⟩
    have := cut_zero s s.length (Nat.le_refl _) h0 i hi
    rw [List.getD_eq_getElem?_getD, List.getElem?_eq_getElem hi, Option.getD_some] at this
    exact this
  · cases h
end Go.Proofs.YtbkaphcipbhmhaaDoor.Pa6
