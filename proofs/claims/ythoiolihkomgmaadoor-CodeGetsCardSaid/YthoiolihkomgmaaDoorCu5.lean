/- Letters: which bytes are a whole one, and which begin one; on plain lists. -/
import Derived.Test.YthoiolihkomgmaaDoorCp5
import Derived.Lib.TrimUEq
import Derived.Lib.DecodeNEq
namespace Go.Proofs.YthoiolihkomgmaaDoor.Cu5
open Go Go.Lib Go.Proofs.YthoiolihkomgmaaDoor.Cm
def b (l : List UInt8) (i : Nat) : Nat := (l.getD i 0).toNat
theorem b_lt (l : List UInt8) (i : Nat) : b l i < 256 := (l.getD i 0).toNat_lt
/-- The first bytes are a whole letter. -/
def okN (n b0 b1 b2 b3 : Nat) : Prop :=
  firstT b0 = 240 ∨ (firstT b0 < 240 ∧ firstT b0 % 8 ≤ n ∧ accLo (firstT b0 / 16) ≤ b1 ∧ b1 ≤ accHi (firstT b0 / 16) ∧ (2 < firstT b0 % 8 → 128 ≤ b2 ∧ b2 ≤ 191) ∧ (3 < firstT b0 % 8 → 128 ≤ b3 ∧ b3 ≤ 191))
def ok (l : List UInt8) : Prop := okN l.length (b l 0) (b l 1) (b l 2) (b l 3)
def wid (l : List UInt8) : Nat := if firstT (b l 0) = 240 then 1 else firstT (b l 0) % 8
theorem cases_of (x : Nat) : firstT x = 240 ∨ firstT x = 241 ∨ (firstT x < 240 ∧ (firstT x % 8 = 2 ∨ firstT x % 8 = 3 ∨ firstT x % 8 = 4)) := by
  rcases firstT_cases x with h | h | h | h | h | h | h | h | h <;> simp [h]
theorem bad {l : List UInt8} (h0 : l ≠ []) (h : ¬ ok l) : (decodeL l).1 = 65533 ∧ (decodeL l).2 = 1 := by
  have hp : 1 ≤ l.length := List.length_pos_iff.2 h0
  have l0 := b_lt l 0; have l1 := b_lt l 1; have l2 := b_lt l 2; have l3 := b_lt l 3
  rw [decodeL_N]
  show (decodeN l.length (b l 0) (b l 1) (b l 2) (b l 3)).1 = 65533 ∧ (decodeN l.length (b l 0) (b l 1) (b l 2) (b l 3)).2 = 1
  unfold ok okN at h
  rcases cases_of (b l 0) with hc | hc | ⟨hc, hz⟩
  · exact absurd (.inl hc) h
  · rw [bad_eq _ _ _ _ _ l0 hc]; exact ⟨rfl, rfl⟩
  · rw [← slow_eq _ _ _ _ _ hp l1 l2 l3 hc]
    unfold slowN
    by_cases g1 : l.length < firstT (b l 0) % 8
    · rw [if_pos g1]; exact ⟨rfl, rfl⟩
    rw [if_neg g1]
    by_cases g2 : b l 1 < accLo (firstT (b l 0) / 16) ∨ accHi (firstT (b l 0) / 16) < b l 1
    · rw [if_pos g2]; exact ⟨rfl, rfl⟩
    rw [if_neg g2]
    by_cases g3 : firstT (b l 0) % 8 ≤ 2
    · exact absurd (.inr ⟨hc, by omega, by omega, by omega, fun _ => by omega, fun _ => by omega⟩) h
    rw [if_neg g3]
    by_cases g4 : b l 2 < 128 ∨ 191 < b l 2
    · rw [if_pos g4]; exact ⟨rfl, rfl⟩
    rw [if_neg g4]
    by_cases g5 : firstT (b l 0) % 8 ≤ 3
    · exact absurd (.inr ⟨hc, by omega, by omega, by omega, fun _ => by omega, fun _ => by omega⟩) h
    rw [if_neg g5]
    by_cases g6 : b l 3 < 128 ∨ 191 < b l 3
    · rw [if_pos g6]; exact ⟨rfl, rfl⟩
    · exact absurd (.inr ⟨hc, by omega, by omega, by omega, fun _ => by omega, fun _ => by omega⟩) h
theorem good {l : List UInt8} (h0 : l ≠ []) (h : ok l) : ¬ ((decodeL l).1 = 65533 ∧ (decodeL l).2 = 1) ∧ (decodeL l).2 = wid l ∧ wid l ≤ l.length ∧ 1 ≤ wid l := by
  have hp : 1 ≤ l.length := List.length_pos_iff.2 h0
  have l0 := b_lt l 0; have l1 := b_lt l 1; have l2 := b_lt l 2; have l3 := b_lt l 3
  rw [decodeL_N]
  show ¬ ((decodeN l.length (b l 0) (b l 1) (b l 2) (b l 3)).1 = _ ∧ (decodeN l.length (b l 0) (b l 1) (b l 2) (b l 3)).2 = 1) ∧ (decodeN l.length (b l 0) (b l 1) (b l 2) (b l 3)).2 = _ ∧ _
  unfold ok okN at h
  unfold wid
  rcases cases_of (b l 0) with hc | hc | ⟨hc, hz⟩
  · rw [ascii_eq _ _ _ _ _ hc, if_pos hc]
    exact ⟨fun e => by have : b l 0 = 65533 := e.1; omega, rfl, hp, Nat.le_refl _⟩
  · rcases h with h | h <;> omega
  · have hne : ¬ firstT (b l 0) = 240 := by omega
    rcases h with h | ⟨_, g1, g2, g2', g3, g4⟩
    · omega
    rw [← slow_eq _ _ _ _ _ hp l1 l2 l3 hc, if_neg hne]
    have key : (slowN l.length (b l 0) (b l 1) (b l 2) (b l 3) (firstT (b l 0) % 8) (accLo (firstT (b l 0) / 16)) (accHi (firstT (b l 0) / 16))).2 = firstT (b l 0) % 8 := by
      unfold slowN
      rw [if_neg (by omega), if_neg (by omega)]
      by_cases q3 : firstT (b l 0) % 8 ≤ 2
      · rw [if_pos q3]; show 2 = _; omega
      rw [if_neg q3, if_neg (by omega)]
      by_cases q5 : firstT (b l 0) % 8 ≤ 3
      · rw [if_pos q5]; show 3 = _; omega
      rw [if_neg q5, if_neg (by omega)]
      show 4 = _; omega
    exact ⟨fun e => by rw [key] at e; omega, key, g1, by omega⟩
theorem b_take (l : List UInt8) (i j : Nat) (h : j < i) : b (l.take i) j = b l j := by
  unfold b
  rw [List.getD_eq_getElem?_getD, List.getD_eq_getElem?_getD, List.getElem?_take_of_lt h]
theorem len_take (l : List UInt8) (i : Nat) (h : i ≤ l.length) : (l.take i).length = i := by rw [List.length_take]; omega
/-- What is left of a text that is cut behind its first letter begins with that letter. -/
theorem ok_take {l : List UInt8} (h0 : l ≠ []) (h : ok l) {i : Nat} (hi : wid l ≤ i) (hl : i ≤ l.length) : ok (l.take i) ∧ wid (l.take i) = wid l := by
  have hw := (good h0 h).2.2.2
  have e0 := b_take l i 0 (by omega)
  have ew : wid (l.take i) = wid l := by unfold wid; rw [e0]
  refine ⟨?_, ew⟩
  unfold wid at hi
  unfold ok okN at h ⊢
  rw [e0, len_take l i hl]
  rcases h with h | ⟨hc, g1, g2, g2', g3, g4⟩
  · exact .inl h
  · rw [if_neg (by omega)] at hi
    have hz := cases_of (b l 0)
    have e1 : b (l.take i) 1 = b l 1 := b_take l i 1 (by omega)
    refine .inr ⟨hc, hi, by omega, by omega, fun q => ?_, fun q => ?_⟩
    · rw [b_take l i 2 (by omega)]; exact g3 q
    · rw [b_take l i 3 (by omega)]; exact g4 q
/-- What is cut within its first letter is no whole one, and no other text begins so. -/
theorem ok_back {l : List UInt8} {i : Nat} (hi : 0 < i) (hl : i ≤ l.length) (h : ok (l.take i)) : ok l ∧ wid (l.take i) = wid l := by
  have e0 := b_take l i 0 hi
  have ew : wid (l.take i) = wid l := by unfold wid; rw [e0]
  refine ⟨?_, ew⟩
  unfold ok okN at h ⊢
  rw [e0, len_take l i hl] at h
  rcases h with h | ⟨hc, g1, g2, g2', g3, g4⟩
  · exact .inl h
  · have hz := cases_of (b l 0)
    rw [b_take l i 1 (by omega)] at g2 g2'
    refine .inr ⟨hc, by omega, g2, g2', fun q => ?_, fun q => ?_⟩
    · rw [b_take l i 2 (by omega)] at g3; exact g3 q
    · rw [b_take l i 3 (by omega)] at g4; exact g4 q
theorem full_ok {l : List UInt8} (h : ok l) : full l = true := by
  unfold ok okN at h
  unfold full
  have : firstT (l.getD 0 0).toNat % 8 ≤ l.length := by
    show firstT (b l 0) % 8 ≤ l.length
    rcases h with h | ⟨_, h, _⟩
    · rw [h]; omega
    · exact h
  rw [decide_eq_true this]
  rfl
set_option maxRecDepth 20000 in
theorem lead_at : ∀ c : Fin 256, firstT c.val < 240 → 8 - Lib.bitLen (255 - c.val) = firstT c.val % 8 := by decide +kernel
theorem lead_of (c : UInt8) (h : firstT c.toNat < 240) : lead c = firstT c.toNat % 8 := lead_at ⟨c.toNat, c.toNat_lt⟩ h
theorem full_cut {l : List UInt8} (h0 : l ≠ []) (h : ok l) {i : Nat} (hi : 0 < i) (hw : i < wid l) : full (l.take i) = false ∧ lead ((l.take i).getD 0 0) = wid l := by
  have hlen := (good h0 h).2.2.1
  have e0 := b_take l i 0 hi
  unfold wid at hw
  have hc : ¬ firstT (b l 0) = 240 := fun e => by rw [if_pos e] at hw; omega
  rw [if_neg hc] at hw
  unfold ok okN at h
  rcases h with h | ⟨hc2, g1, g2, g2', g3, g4⟩
  · exact absurd h hc
  have hz := cases_of (b l 0)
  refine ⟨?_, ?_⟩
  · unfold full
    show (decide (firstT (b (l.take i) 0) % 8 ≤ (l.take i).length) || ((decide (1 < (l.take i).length) && (decide (b (l.take i) 1 < accLo (firstT (b (l.take i) 0) / 16)) || decide (accHi (firstT (b (l.take i) 0) / 16) < b (l.take i) 1))) || (decide (2 < (l.take i).length) && (decide (b (l.take i) 2 < 128) || decide (191 < b (l.take i) 2))))) = false
    rw [e0, len_take l i (by omega)]
    simp only [Bool.or_eq_false_iff, Bool.and_eq_false_iff, decide_eq_false_iff_not]
    refine ⟨by omega, ?_, ?_⟩
    · by_cases q : 1 < i
      · right; rw [b_take l i 1 q]; exact ⟨by omega, by omega⟩
      · left; exact q
    · by_cases q : 2 < i
      · right; rw [b_take l i 2 q]; have := g3 (by omega); exact ⟨by omega, by omega⟩
      · left; exact q
  · have e : ((l.take i).getD 0 0).toNat = (l.getD 0 0).toNat := e0
    rw [lead_of _ (by rw [e]; exact hc2), e]
    unfold wid
    rw [if_neg hc]; rfl
theorem valid_ok {l : List UInt8} (h0 : l ≠ []) (h : validD l = true) : ok l ∧ validD (l.drop (wid l)) = true := by
  rw [validD_step l h0] at h
  by_cases ho : ok l
  · obtain ⟨g1, g2, _⟩ := good h0 ho
    rw [if_neg g1, g2] at h
    exact ⟨ho, h⟩
  · rw [if_pos (bad h0 ho)] at h
    cases h
theorem ok_valid {l : List UInt8} (h0 : l ≠ []) (ho : ok l) : validD l = validD (l.drop (wid l)) := by
  rw [validD_step l h0]
  obtain ⟨g1, g2, _⟩ := good h0 ho
  rw [if_neg g1, g2]
theorem begins_ok (f : Nat) {l : List UInt8} (n : Nat) (h0 : l ≠ []) (ho : ok l) : beginsGo (f + 1) l n = beginsGo f (l.drop (wid l)) (n - wid l) := by
  show (if l = [] then true else _) = _
  obtain ⟨g1, g2, _⟩ := good h0 ho
  rw [if_neg h0, if_pos (full_ok ho), if_neg g1, g2]
/-- A text that is cut, wherever, is told to begin one of its length. -/
theorem begins_take : ∀ (f : Nat) (t : List UInt8) (i n : Nat), i < f → i ≤ t.length → t.length ≤ n → validD t = true → beginsGo f (t.take i) n = true := by
  intro f
  induction f with
  | zero => intros; rfl
  | succ f ih =>
    intro t i n hf hi hn hv
    by_cases hi0 : i = 0
    · subst hi0; rfl
    have h0 : t ≠ [] := fun e => by rw [e] at hi; simp at hi; omega
    have h0' : t.take i ≠ [] := fun e => by have := len_take t i hi; rw [e] at this; simp at this; omega
    obtain ⟨ho, hv'⟩ := valid_ok h0 hv
    obtain ⟨_, _, g3, g4⟩ := good h0 ho
    by_cases hw : wid t ≤ i
    · obtain ⟨k1, k2⟩ := ok_take h0 ho hw hi
      rw [begins_ok f n h0' k1, k2, List.drop_take]
      exact ih (t.drop (wid t)) (i - wid t) (n - wid t) (by omega) (by rw [List.length_drop]; omega) (by rw [List.length_drop]; omega) hv'
    · obtain ⟨k1, k2⟩ := full_cut h0 ho (by omega) (by omega : i < wid t)
      show (if t.take i = [] then true else _) = true
      rw [if_neg h0', if_neg (by rw [k1]; simp), k2]
      exact decide_eq_true (by omega)
end Go.Proofs.YthoiolihkomgmaaDoor.Cu5
