/- Frames on plain lists of bytes: what a text's frame is, what a going through bytes tells; what was framed is told, cut anywhere, and with any byte as another one. Nothing of the program. Slices of strings that came in, or that the call made, and what they read as; the contract of the document's SameTexts. The contracts of frame.number, frame.sum and of the document's four: a number's four bytes, a text's sum. The library's own contracts, laid over this program: strings.Builder's Grow, WriteString, String; strings.Clone's. The contracts of frame.All and frame.Put: the frames of any texts, or that one of them is too long. The contract of frame.first: the text of the frame that these bytes begin with, or why there is none (written by genff7.py). frame.texts: what it hands back goes through the bytes, frame by frame, and at last says why none follows. The contract of frame.Scan: what going through any bytes tells. -/
import Derived.Test.YtaoneiicoaiehaaGreatFb1
import Derived.Test.YtaoneiicoaiehaaGreatProg
import Derived.WalkKit
import Derived.Below
import Derived.Lib.Hide
import Derived.Deep.QuietTactic
import Derived.BigQuiet
import Derived.Deep.RegionHeld3
import Derived.Deep.DrawnRows
import Derived.Ground.NamesProg
import Derived.Shelf.Strings.Builder1
import Derived.Shelf.Strings.Builder2
import Derived.Shelf.Strconv.Clone
import Derived.RangeFuncNested
import Derived.RangeFuncBound
import Derived.RangeFuncCalls
import Derived.RangeFuncLeaves
import Derived.RangeFuncBox
import Derived.OwnWalkIn
import Derived.TacticsInMore
import Derived.LoopNIn
import Derived.LoopIn
import Derived.Maps.AppendAt
import Derived.RangeFuncWrites
namespace Go.Proofs.YtaoneiicoaiehaaGreat.Fl7
set_option maxRecDepth 100000
open Go Go.Proofs.YtaoneiicoaiehaaGreat.Wm Go.Proofs.YtaoneiicoaiehaaGreat.Wc Go.Proofs.YtaoneiicoaiehaaGreat.Wb
/-- A text of these bytes. -/
def bs (l : List UInt8) : ByteArray := ⟨l.toArray⟩
theorem bs_list (l : List UInt8) : (bs l).data.toList = l := rfl
theorem bs_size (l : List UInt8) : (bs l).size = l.length := rfl
theorem bs_of (s : ByteArray) : bs s.data.toList = s := rfl
theorem bs_inj {l m : List UInt8} (h : bs l = bs m) : l = m := by
  have := congrArg (fun b => b.data.toList) h
  simpa [bs] using this
/-- A sum's four bytes. -/
def sum4 (l : List UInt8) : List UInt8 := putN (crc l) 4
/-- A count's four bytes. -/
def cnt (l : List UInt8) : List UInt8 := putN l.length 4
def fr (s : List UInt8) : List UInt8 := cnt s ++ (sum4 (cnt s) ++ (sum4 s ++ s))
def frs : List (List UInt8) → List UInt8
  | [] => []
  | s :: r => fr s ++ frs r
theorem sum4_len (l : List UInt8) : (sum4 l).length = 4 := putN_length _ _
theorem cnt_len (l : List UInt8) : (cnt l).length = 4 := putN_length _ _
theorem fr_len (s : List UInt8) : (fr s).length = 12 + s.length := by
  simp only [fr, List.length_append, sum4_len, cnt_len]; omega
theorem frs_append (l m : List (List UInt8)) : frs (l ++ m) = frs l ++ frs m := by
  induction l with
  | nil => rfl
  | cons s r ih => rw [List.cons_append, frs, frs, ih, List.append_assoc]
/-- How many bytes the frames have. -/
def size : List (List UInt8) → Nat
  | [] => 0
  | s :: r => 12 + s.length + size r
theorem frs_len (l : List (List UInt8)) : (frs l).length = size l := by
  induction l with
  | nil => rfl
  | cons s r ih => rw [frs, List.length_append, fr_len, ih, size]
theorem size_append (l m : List (List UInt8)) : size (l ++ m) = size l + size m := by
  rw [← frs_len, frs_append, List.length_append, frs_len, frs_len]
/-- The number of the first four bytes. -/
def num (b : List UInt8) : Nat := getL (b.take 4)
/-- The text that these bytes may begin with, and 0; or nothing, and why. -/
def first (b : List UInt8) : List UInt8 × Nat :=
  if b.length < 8 then ([], 70)
  else if sum4 (b.take 4) ≠ (b.take 8).drop 4 then ([], 71)
  else if 4194304 < num b then ([], 71)
  else if b.length < 12 + num b then ([], 70)
  else if sum4 ((b.take (12 + num b)).drop 12) ≠ (b.take 12).drop 8 then ([], 71)
  else ((b.take (12 + num b)).drop 12, 0)
theorem first_len (b t : List UInt8) (h : first b = (t, 0)) : 12 + t.length ≤ b.length := by
  unfold first at h
  split at h
  · cases h
  split at h
  · cases h
  split at h
  · cases h
  split at h
  · cases h
  split at h
  · cases h
  · rename_i hl _
    injection h with h1 _
    subst h1
    simp only [List.length_drop, List.length_take]
    omega
theorem first_small (b t : List UInt8) (h : first b = (t, 0)) : t.length ≤ 4194304 := by
  unfold first at h
  split at h
  · cases h
  split at h
  · cases h
  split at h
  · cases h
  split at h
  · cases h
  split at h
  · cases h
  · injection h with h1 _
    subst h1
    simp only [List.length_drop, List.length_take]
    omega
theorem first_little (b : List UInt8) : (first b).1.length ≤ 4194304 := by
  by_cases h : (first b).2 = 0
  · exact first_small b (first b).1 (by rw [← h])
  · unfold first at h ⊢
    split
    · exact Nat.zero_le _
    split
    · exact Nat.zero_le _
    split
    · exact Nat.zero_le _
    split
    · exact Nat.zero_le _
    split
    · exact Nat.zero_le _
    · rename_i h1 h2 h3 h4 h5
      rw [if_neg h1, if_neg h2, if_neg h3, if_neg h4, if_neg h5] at h
      exact absurd rfl h
theorem first_why (b : List UInt8) : (first b).2 = 0 ∨ first b = ([], 70) ∨ first b = ([], 71) := by
  unfold first
  split
  · exact .inr (.inl rfl)
  split
  · exact .inr (.inr rfl)
  split
  · exact .inr (.inr rfl)
  split
  · exact .inr (.inl rfl)
  split
  · exact .inr (.inr rfl)
  · exact .inl rfl
/-- What going through these bytes hands over. -/
def seq (b : List UInt8) : List (List UInt8 × Nat) :=
  if hb : b = [] then []
  else if h : (first b).2 = 0 then ((first b).1, 0) :: seq (b.drop (12 + (first b).1.length))
  else [((first b).1, (first b).2)]
termination_by b.length
decreasing_by
  have h2 := first_len b (first b).1 (by rw [← h])
  rw [List.length_drop]
  omega
theorem seq_nil : seq [] = [] := by rw [seq]; exact dif_pos rfl
theorem seq_ok {b t : List UInt8} (hb : b ≠ []) (h : first b = (t, 0)) : seq b = (t, 0) :: seq (b.drop (12 + t.length)) := by
  rw [seq, dif_neg hb, dif_pos (by rw [h])]
  rw [h]
theorem seq_why {b t : List UInt8} {e : Nat} (hb : b ≠ []) (h : first b = (t, e)) (he : e ≠ 0) : seq b = [(t, e)] := by
  rw [seq, dif_neg hb, dif_neg (by rw [h]; exact he), h]
theorem seq_len : ∀ (n : Nat) (b : List UInt8), b.length ≤ n → (seq b).length ≤ n := by
  intro n
  induction n with
  | zero =>
    intro b h
    have e : b = [] := List.length_eq_zero_iff.1 (by omega)
    rw [e, seq_nil]; exact Nat.le_refl _
  | succ n ih =>
    intro b h
    by_cases hb : b = []
    · rw [hb, seq_nil]; exact Nat.zero_le _
    · obtain ⟨t, e, ht⟩ : ∃ t e, first b = (t, e) := ⟨_, _, rfl⟩
      by_cases he : e = 0
      · subst he
        rw [seq_ok hb ht, List.length_cons]
        have := ih (b.drop (12 + t.length)) (by rw [List.length_drop]; omega)
        omega
      · rw [seq_why hb ht he]; simp
/-- What is told of what was handed over. -/
def tell : List (List UInt8 × Nat) → List (List UInt8) × Nat × Nat
  | [] => ([], 0, 0)
  | (t, 0) :: r => (t :: (tell r).1, 12 + t.length + (tell r).2.1, (tell r).2.2)
  | (_, e + 1) :: _ => ([], 0, e + 1)
def scan (b : List UInt8) : List (List UInt8) × Nat × Nat := tell (seq b)
/-- Texts, as they are handed over. -/
def oks (l : List (List UInt8)) : List (List UInt8 × Nat) := l.map (·, 0)
theorem oks_snoc (l : List (List UInt8)) (t : List UInt8) : oks (l ++ [t]) = oks l ++ [(t, 0)] := by simp [oks]
theorem tell_oks (l : List (List UInt8)) (r : List (List UInt8 × Nat)) : tell (oks l ++ r) = (l ++ (tell r).1, size l + (tell r).2.1, (tell r).2.2) := by
  induction l with
  | nil => simp [oks, size]
  | cons t l ih =>
    show tell ((t, 0) :: (oks l ++ r)) = _
    rw [tell, ih, size]
    simp only [List.cons_append, Nat.add_assoc]
theorem tell_done (l : List (List UInt8)) : tell (oks l) = (l, size l, 0) := by
  have h := tell_oks l []
  rw [List.append_nil] at h
  rw [h]; simp [tell]
theorem tell_why (l : List (List UInt8)) (t : List UInt8) (e : Nat) (he : e ≠ 0) (r : List (List UInt8 × Nat)) : tell (oks l ++ (t, e) :: r) = (l, size l, e) := by
  rw [tell_oks]
  cases e with
  | zero => exact absurd rfl he
  | succ e => simp [tell]
theorem scan_nil : scan [] = ([], 0, 0) := by rw [scan, seq_nil]; rfl
theorem scan_ok {b t : List UInt8} (hb : b ≠ []) (h : first b = (t, 0)) :
    scan b = (t :: (scan (b.drop (12 + t.length))).1, 12 + t.length + (scan (b.drop (12 + t.length))).2.1, (scan (b.drop (12 + t.length))).2.2) := by
  unfold scan
  rw [seq_ok hb h, tell]
theorem scan_why {b t : List UInt8} {e : Nat} (hb : b ≠ []) (h : first b = (t, e)) (he : e ≠ 0) : scan b = ([], 0, e) := by
  unfold scan
  rw [seq_why hb h he]
  cases e with
  | zero => exact absurd rfl he
  | succ e => rfl
/-- A frame's parts, whatever stands behind it. -/
theorem fr_take4 (s r : List UInt8) : (fr s ++ r).take 4 = cnt s := by
  unfold fr
  rw [List.append_assoc, List.take_append_of_le_length (by rw [cnt_len]; omega), List.take_of_length_le (by rw [cnt_len]; omega)]
theorem fr_drop4 (s r : List UInt8) : (fr s ++ r).drop 4 = sum4 (cnt s) ++ (sum4 s ++ (s ++ r)) := by
  unfold fr
  simp only [List.append_assoc]
  rw [List.drop_append_of_le_length (by rw [cnt_len]; omega), List.drop_eq_nil_of_le (by rw [cnt_len]; omega)]; rfl
theorem fr_drop8 (s r : List UInt8) : (fr s ++ r).drop 8 = sum4 s ++ (s ++ r) := by
  have h : (8 : Nat) = 4 + 4 := rfl
  rw [h, ← List.drop_drop, fr_drop4, List.drop_append_of_le_length (by rw [sum4_len]; omega), List.drop_eq_nil_of_le (by rw [sum4_len]; omega)]; rfl
theorem fr_drop12 (s r : List UInt8) : (fr s ++ r).drop 12 = s ++ r := by
  have h : (12 : Nat) = 8 + 4 := rfl
  rw [h, ← List.drop_drop, fr_drop8, List.drop_append_of_le_length (by rw [sum4_len]; omega), List.drop_eq_nil_of_le (by rw [sum4_len]; omega)]; rfl
theorem fr_mid4 (s r : List UInt8) : ((fr s ++ r).take 8).drop 4 = sum4 (cnt s) := by
  rw [List.drop_take, fr_drop4, List.take_append_of_le_length (by rw [sum4_len]; omega), List.take_of_length_le (by rw [sum4_len]; omega)]
theorem fr_mid8 (s r : List UInt8) : ((fr s ++ r).take 12).drop 8 = sum4 s := by
  rw [List.drop_take, fr_drop8, List.take_append_of_le_length (by rw [sum4_len]; omega), List.take_of_length_le (by rw [sum4_len]; omega)]
theorem cnt_num (s : List UInt8) (h : s.length ≤ 4194304) : getL (cnt s) = s.length := by
  unfold cnt
  rw [getL_putN]; omega
theorem first_fr (s r : List UInt8) (h : s.length ≤ 4194304) : first (fr s ++ r) = (s, 0) := by
  have hl : (fr s ++ r).length = 12 + s.length + r.length := by rw [List.length_append, fr_len]
  have hn : num (fr s ++ r) = s.length := by unfold num; rw [fr_take4, cnt_num s h]
  have ht : ((fr s ++ r).take (12 + s.length)).drop 12 = s := by
    rw [List.drop_take, fr_drop12, Nat.add_sub_cancel_left, List.take_append_of_le_length (Nat.le_refl _), List.take_length]
  unfold first
  rw [if_neg (by omega), fr_take4, fr_mid4, if_neg (fun x => x rfl), hn, if_neg (by omega), if_neg (by omega), ht, fr_mid8, if_neg (fun x => x rfl)]
theorem ne_nil_of_len {b : List UInt8} (h : 0 < b.length) : b ≠ [] := fun e => by rw [e] at h; exact absurd h (by simp)
/-- How many frames are whole within so many bytes, and how many bytes these have. -/
def whole : List (List UInt8) → Nat → Nat × Nat
  | [], _ => (0, 0)
  | s :: r, n => if 12 + s.length ≤ n then ((whole r (n - (12 + s.length))).1 + 1, 12 + s.length + (whole r (n - (12 + s.length))).2) else (0, 0)
theorem whole_le (l : List (List UInt8)) : ∀ n, (whole l n).1 ≤ l.length ∧ (whole l n).2 ≤ n := by
  induction l with
  | nil => intro n; exact ⟨Nat.zero_le _, Nat.zero_le _⟩
  | cons s r ih =>
    intro n
    unfold whole
    split
    · have h := ih (n - (12 + s.length))
      exact ⟨Nat.succ_le_succ h.1, by omega⟩
    · exact ⟨Nat.zero_le _, Nat.zero_le _⟩
/-- A beginning of a frame is torn. -/
theorem first_torn (s r : List UInt8) (n : Nat) (h : s.length ≤ 4194304) (hn : n < 12 + s.length) : first ((fr s ++ r).take n) = ([], 70) := by
  have hl : ((fr s ++ r).take n).length = n := by rw [List.length_take, List.length_append, fr_len]; omega
  unfold first
  rw [hl]
  by_cases h8 : n < 8
  · rw [if_pos h8]
  · have e4 : ((fr s ++ r).take n).take 4 = cnt s := by rw [List.take_take, Nat.min_eq_left (by omega), fr_take4]
    have e8 : (((fr s ++ r).take n).take 8).drop 4 = sum4 (cnt s) := by rw [List.take_take, Nat.min_eq_left (by omega), fr_mid4]
    have hm : num ((fr s ++ r).take n) = s.length := by unfold num; rw [e4, cnt_num s h]
    rw [if_neg h8, e4, e8, if_neg (fun x => x rfl), hm, if_neg (by omega), if_pos hn]
/-- Any beginning of frames. -/
theorem scan_torn (l : List (List UInt8)) : ∀ n, (∀ s ∈ l, s.length ≤ 4194304) → n ≤ (frs l).length →
    scan ((frs l).take n) = (l.take (whole l n).1, (whole l n).2, if (whole l n).2 = n then 0 else 70) := by
  induction l with
  | nil =>
    intro n _ hn
    have h0 : n = 0 := by simpa [frs] using hn
    subst h0
    exact scan_nil
  | cons s r ih =>
    intro n hs hn
    have h1 : s.length ≤ 4194304 := hs s (by simp)
    rw [frs, List.length_append, fr_len] at hn
    rw [frs]
    unfold whole
    by_cases hw : 12 + s.length ≤ n
    · have he : (fr s ++ frs r).take n = fr s ++ (frs r).take (n - (12 + s.length)) := by
        rw [List.take_append, fr_len, List.take_of_length_le (by rw [fr_len]; exact hw)]
      have hf := first_fr s ((frs r).take (n - (12 + s.length))) h1
      have hd : (fr s ++ (frs r).take (n - (12 + s.length))).drop (12 + s.length) = (frs r).take (n - (12 + s.length)) := by
        rw [List.drop_append_of_le_length (by rw [fr_len]; omega), List.drop_eq_nil_of_le (by rw [fr_len]; omega)]; rfl
      have hi := ih (n - (12 + s.length)) (fun x hx => hs x (by simp [hx])) (by omega)
      rw [he, scan_ok (ne_nil_of_len (by rw [List.length_append, fr_len]; omega)) hf, hd, hi, if_pos hw]
      simp only [List.take_succ_cons]
      by_cases e : (whole r (n - (12 + s.length))).2 = n - (12 + s.length)
      · rw [if_pos e, if_pos (by omega)]
      · rw [if_neg e, if_neg (by omega)]
    · rw [if_neg hw]
      by_cases h0 : n = 0
      · subst h0
        exact scan_nil
      · have hne : (fr s ++ frs r).take n ≠ [] := ne_nil_of_len (by rw [List.length_take, List.length_append, fr_len]; omega)
        rw [scan_why hne (first_torn s (frs r) n h1 (by omega)) (by omega), if_neg (by omega)]
        rfl
theorem scan_all (l : List (List UInt8)) (hs : ∀ s ∈ l, s.length ≤ 4194304) : scan (frs l) = (l, size l, 0) := by
  induction l with
  | nil => exact scan_nil
  | cons s r ih =>
    have hf := first_fr s (frs r) (hs s (by simp))
    have hd : (fr s ++ frs r).drop (12 + s.length) = frs r := by
      rw [List.drop_append_of_le_length (by rw [fr_len]; omega), List.drop_eq_nil_of_le (by rw [fr_len]; omega)]; rfl
    rw [frs, scan_ok (ne_nil_of_len (by rw [List.length_append, fr_len]; omega)) hf, hd, ih (fun x hx => hs x (by simp [hx])), size]
/-- One byte as another one: another number. -/
theorem getL_other : ∀ (l : List UInt8) (q : Nat) (c : UInt8) (h : q < l.length), getL (l.set q c) = getL l ^^^ 2 ^ (8 * q) * (c.toNat ^^^ (l[q]).toNat)
  | [], _, _, h => by simp at h
  | a :: l, 0, c, _ => by
    simp only [List.getElem_cons_zero]
    rw [List.set_cons_zero, getL_cons, getL_cons, Nat.mul_zero, Nat.pow_zero, Nat.one_mul]
    generalize 2 ^ 8 * getL l = x
    rw [Nat.xor_comm c.toNat a.toNat, Nat.xor_comm a.toNat x, Nat.xor_assoc, ← Nat.xor_assoc a.toNat, Nat.xor_self, Nat.zero_xor, Nat.xor_comm]
  | a :: l, q + 1, c, h => by
    simp only [List.getElem_cons_succ]
    have h' : q < l.length := by simpa using h
    have ih := getL_other l q c h'
    have e : 2 ^ (8 * (q + 1)) = 2 ^ 8 * 2 ^ (8 * q) := by
      rw [← Nat.pow_add]; congr 1; omega
    rw [List.set_cons_succ, getL_cons, getL_cons, ih, mul_xor, e, Nat.xor_assoc, Nat.mul_assoc]
theorem crc_other (l : List UInt8) (q : Nat) (c : UInt8) (h : q < l.length) (hc : c ≠ l[q]) : crc (l.set q c) ≠ crc l := by
  have hb := c.toNat_lt
  have ha := (l[q]).toNat_lt
  refine crc_burst l (l.set q c) (c.toNat ^^^ (l[q]).toNat) (8 * q) (by rw [List.length_set]) ?_ ?_ (by omega) (getL_other l q c h)
  · have := Nat.xor_lt_two_pow (n := 8) (x := c.toNat) (y := (l[q]).toNat) (by omega) (by omega)
    omega
  · intro e
    refine hc (UInt8.toNat_inj.1 ?_)
    have h2 := congrArg (fun x => x ^^^ (l[q]).toNat) e
    simp only [Nat.xor_assoc, Nat.xor_self, Nat.xor_zero, Nat.zero_xor] at h2
    exact h2
theorem sum4_other (l : List UInt8) (q : Nat) (c : UInt8) (h : q < l.length) (hc : c ≠ l[q]) : sum4 (l.set q c) ≠ sum4 l := by
  intro e
  have h2 := congrArg getL e
  unfold sum4 at h2
  rw [getL_putN, getL_putN, Nat.mod_eq_of_lt (by have := crc_lt (l.set q c); omega), Nat.mod_eq_of_lt (by have := crc_lt l; omega)] at h2
  exact crc_other l q c h hc h2
theorem set_ne (l : List UInt8) (q : Nat) (c : UInt8) (h : q < l.length) (hc : c ≠ l[q]) : l.set q c ≠ l := by
  intro e
  have h2 : (l.set q c)[q]? = l[q]? := by rw [e]
  rw [List.getElem?_set_self h, List.getElem?_eq_getElem h] at h2
  exact hc (Option.some.inj h2)
/-- A frame with one byte as another one is bad. -/
theorem first_other (b s r : List UInt8) (n : Nat) (c : UInt8) (hb : b = fr s ++ r) (h : s.length ≤ 4194304) (hn : n < b.length) (hn2 : n < 12 + s.length) (hc : c ≠ b[n]) : first (b.set n c) = ([], 71) := by
  have hl : b.length = 12 + s.length + r.length := by rw [hb, List.length_append, fr_len]
  have t4 : b.take 4 = cnt s := by rw [hb, fr_take4]
  have m4 : (b.take 8).drop 4 = sum4 (cnt s) := by rw [hb, fr_mid4]
  have m8 : (b.take 12).drop 8 = sum4 s := by rw [hb, fr_mid8]
  have hm : num b = s.length := by unfold num; rw [t4, cnt_num s h]
  have tt : (b.take (12 + s.length)).drop 12 = s := by
    rw [hb, List.drop_take, fr_drop12, Nat.add_sub_cancel_left, List.take_append_of_le_length (Nat.le_refl _), List.take_length]
  have low (k : Nat) (hk : k ≤ n) : (b.set n c).take k = b.take k := by rw [List.take_set, List.set_eq_of_length_le (by rw [List.length_take]; omega)]
  have top (i k : Nat) (hi : i ≤ n) : ((b.set n c).take k).drop i = ((b.take k).drop i).set (n - i) c := by rw [List.take_set, List.drop_set, if_neg (by omega)]
  have over (i k : Nat) (hi : n < i) : ((b.set n c).take k).drop i = (b.take k).drop i := by rw [List.take_set, List.drop_set, if_pos hi]
  have get (i k : Nat) (hi : i ≤ n) (hk : n < k) (hx : n - i < ((b.take k).drop i).length) : ((b.take k).drop i)[n - i] = b[n] := by
    simp only [List.getElem_drop, List.getElem_take]
    congr 1
    omega
  unfold first
  rw [List.length_set, if_neg (by omega)]
  by_cases h4 : n < 4
  · have e1 : (b.set n c).take 4 = (b.take 4).set n c := List.take_set
    have hx : n < (b.take 4).length := by rw [List.length_take]; omega
    have hg : c ≠ (b.take 4)[n] := by rw [List.getElem_take]; exact hc
    rw [over 4 8 h4, m4, e1, if_pos (by rw [← t4]; exact sum4_other _ n c hx hg)]
  · rw [low 4 (by omega), t4]
    by_cases h8 : n < 8
    · have hx : n - 4 < ((b.take 8).drop 4).length := by rw [List.length_drop, List.length_take]; omega
      have hg : c ≠ ((b.take 8).drop 4)[n - 4] := by rw [get 4 8 (by omega) h8 hx]; exact hc
      have hs2 := set_ne _ (n - 4) c hx hg
      rw [top 4 8 (by omega), if_pos (by rw [← m4]; exact fun e => hs2 e.symm)]
    · have hm2 : num (b.set n c) = s.length := by
        unfold num
        rw [low 4 (by omega), t4, cnt_num s h]
      rw [low 8 (by omega), m4, if_neg (fun x => x rfl), hm2, if_neg (by omega), if_neg (by omega)]
      by_cases h12 : n < 12
      · have hx : n - 8 < ((b.take 12).drop 8).length := by rw [List.length_drop, List.length_take]; omega
        have hg : c ≠ ((b.take 12).drop 8)[n - 8] := by rw [get 8 12 (by omega) h12 hx]; exact hc
        have hs2 := set_ne _ (n - 8) c hx hg
        rw [over 12 (12 + s.length) h12, tt, top 8 12 (by omega), if_pos (by rw [← m8]; exact fun e => hs2 e.symm)]
      · have hx : n - 12 < ((b.take (12 + s.length)).drop 12).length := by rw [List.length_drop, List.length_take]; omega
        have hg : c ≠ ((b.take (12 + s.length)).drop 12)[n - 12] := by rw [get 12 (12 + s.length) (by omega) hn2 hx]; exact hc
        rw [top 12 (12 + s.length) (by omega), low 12 (by omega), m8, if_pos (fun e => sum4_other _ (n - 12) c hx hg (e.trans (congrArg sum4 tt.symm)))]
/-- Frames with one byte as another one. -/
theorem scan_other (l : List (List UInt8)) : ∀ (n : Nat) (c : UInt8) (hn : n < (frs l).length), (∀ s ∈ l, s.length ≤ 4194304) → c ≠ (frs l)[n] →
    scan ((frs l).set n c) = (l.take (whole l n).1, (whole l n).2, 71) := by
  induction l with
  | nil => intro n c hn; exact absurd hn (by simp [frs])
  | cons s r ih =>
    intro n c hn hs hc
    have h1 : s.length ≤ 4194304 := hs s (by simp)
    unfold whole
    simp only [frs] at hn hc ⊢
    by_cases hw : 12 + s.length ≤ n
    · have hn' : n - (12 + s.length) < (frs r).length := by rw [List.length_append, fr_len] at hn; omega
      have he : (fr s ++ frs r).set n c = fr s ++ (frs r).set (n - (12 + s.length)) c := by
        rw [List.set_append_right n c (by rw [fr_len]; exact hw), fr_len]
      have hc' : c ≠ (frs r)[n - (12 + s.length)] := by
        rw [List.getElem_append_right (by rw [fr_len]; exact hw)] at hc
        simpa [fr_len] using hc
      have hf := first_fr s ((frs r).set (n - (12 + s.length)) c) h1
      have hd : (fr s ++ (frs r).set (n - (12 + s.length)) c).drop (12 + s.length) = (frs r).set (n - (12 + s.length)) c := by
        rw [List.drop_append_of_le_length (by rw [fr_len]; omega), List.drop_eq_nil_of_le (by rw [fr_len]; omega)]; rfl
      have hi := ih (n - (12 + s.length)) c hn' (fun x hx => hs x (by simp [hx])) hc'
      rw [he, scan_ok (ne_nil_of_len (by rw [List.length_append, fr_len]; omega)) hf, hd, hi, if_pos hw]
      rfl
    · rw [if_neg hw, scan_why (ne_nil_of_len (by rw [List.length_set]; omega)) (first_other (fr s ++ frs r) s (frs r) n c rfl h1 hn (by omega) hc) (by omega)]
      rfl
end Go.Proofs.YtaoneiicoaiehaaGreat.Fl7
namespace Go.Proofs.YtaoneiicoaiehaaGreat.Rs7
set_option maxRecDepth 100000
open Go Go.RowKit Go.Proofs.YtaoneiicoaiehaaGreat.Fl7
/-- The slice at A reads as the texts L. -/
def Rds (w : World) (A : Option Addr) (L : List ByteArray) : Prop :=
  L ≠ [] → ∃ b o, A = some ⟨b, o, none⟩ ∧ b < w.heap.size ∧ ∀ k (h : k < L.length), w.cell? ⟨b, o + k, none⟩ = some (.string L[k])
theorem Rds.nil (w : World) (A : Option Addr) : Rds w A [] := fun h => absurd rfl h
theorem Rds.keep {B : Nat} {w w' : World} {A : Option Addr} {L : List ByteArray} (h : Rds w A L) (hB : w.heap.size ≤ B) (hb : Below B w w') : Rds w' A L := fun hl => by
  obtain ⟨b, o, rfl, hlt, hc⟩ := h hl
  exact ⟨b, o, rfl, by have := hb.size; omega, fun k hk => (hb.cell (p := ⟨b, o + k, none⟩) (by show b < B; omega)).trans (hc k hk)⟩
theorem Rds.at_ {w : World} {A : Option Addr} {L : List ByteArray} (h : Rds w A L) {k : Nat} (hk : k < L.length) : ∃ b o, A = some ⟨b, o, none⟩ ∧ w.cell? ⟨b, o + k, none⟩ = some (.string L[k]) := by
  obtain ⟨b, o, e, _, hc⟩ := h (fun h0 => by rw [h0] at hk; simp at hk)
  exact ⟨b, o, e, hc k hk⟩
theorem Rds.take {w : World} {A : Option Addr} {L : List ByteArray} (h : Rds w A L) (k : Nat) : Rds w A (L.take k) := fun hl => by
  obtain ⟨b, o, e, h1, hc⟩ := h (fun h0 => hl (by rw [h0, List.take_nil]))
  exact ⟨b, o, e, h1, fun j hj => by rw [List.getElem_take]; exact hc j (by rw [List.length_take] at hj; omega)⟩
/-- What is told of texts as lists of bytes. -/
def ll (L : List ByteArray) : List (List UInt8) := L.map (·.data.toList)
theorem ll_len (L : List ByteArray) : (ll L).length = L.length := List.length_map ..
theorem ll_take (L : List ByteArray) (k : Nat) : ll (L.take k) = (ll L).take k := List.map_take ..
theorem ll_append (L M : List ByteArray) : ll (L ++ M) = ll L ++ ll M := List.map_append ..
theorem ll_get (L : List ByteArray) (k : Nat) (h : k < L.length) (h' : k < (ll L).length) : (ll L)[k] = L[k].data.toList := by simp [ll]
theorem bytes_inj {a b : ByteArray} (h : a.toList = b.toList) : a = b := by
  rw [ByteArray.toList_eq, ByteArray.toList_eq] at h
  have h2 : a.data = b.data := Array.toList_inj.1 h
  cases a; cases b; simp at h2; rw [h2]
theorem below_drewN (w : World) : ∀ n, Below w.heap.size w (w.drewN n)
  | 0 => Below.refl _ _
  | n + 1 => (below_drewN w n).drew
theorem hb_drewN {w w' : World} (h : Hid (Below w.heap.size w w')) (n : Nat) : Below w.heap.size w (w'.drewN n) :=
  h.out.trans ((below_drewN w' n).mono h.out.size)
end Go.Proofs.YtaoneiicoaiehaaGreat.Rs7

namespace Go.Proofs.YtaoneiicoaiehaaGreat.Fn7
set_option maxRecDepth 100000
open Go Go.RowKit Go.Proofs.YtaoneiicoaiehaaGreat.Wm Go.Proofs.YtaoneiicoaiehaaGreat.Wc Go.Proofs.YtaoneiicoaiehaaGreat.Fl7
theorem number_any (v : Int) (V : Nat) (w : World) (hv : Hid (v = (V : Int))) (hV : V < 4294967296) :
    Calls Tryz.prog 111 #[.int .u64 v] w fun e w' => e = .returned (.string (bs (putN V 4))) ∧ Below w.heap.size w w' := by
  have hc := WPut.ok_var v V 4 w (by omega) (by omega) (by omega) hv.out
  have HC := Lib.hid hc
  clear hc
  go_enter Tryz.func111, Tryz.ntmps111
  go_wp2_with fail
  refine HC.out.mono ?_
  rintro e w1 ⟨rfl, hb⟩
  have HB := Lib.hid hb
  clear hb
  go_wp2
  go_ret
  exact ⟨rfl, HB.out⟩
theorem sum_any (s : ByteArray) (w : World) (hs : s.size ≤ maxLen) :
    Calls Tryz.prog 112 #[.string s] w fun e w' => e = .returned (.string (bs (sum4 s.data.toList))) ∧ Below w.heap.size w w' := by
  obtain ⟨C, hC⟩ : ∃ C, C = crc s.data.toList := ⟨_, rfl⟩
  have hlt : C < 4294967296 := by rw [hC]; exact crc_lt _
  have hsum := WSum.sum_any s w hs
  rw [← hC] at hsum
  have hw : IntKind.u64.wrap (C : Int) = (C : Int) := wrap_u64_small C (by omega)
  have hr : sum4 s.data.toList = putN C 4 := by rw [hC]; rfl
  rw [hr]
  clear hr hC
  obtain ⟨c, hc⟩ : ∃ c : Int, c = (C : Int) := ⟨_, rfl⟩
  rw [← hc] at hsum hw
  have HC := Lib.hid hc
  clear hc
  have HS := Lib.hid hsum
  clear hsum
  go_enter Tryz.func112, Tryz.ntmps112
  go_wp2_with fail
  refine HS.out.mono ?_
  rintro e w1 ⟨rfl, hb⟩
  have HB := Lib.hid hb
  clear hb
  go_wp2_with fail
  refine (number_any c C w1 HC hlt).mono ?_
  rintro e w2 ⟨rfl, hb2⟩
  have HB2 := Lib.hid hb2
  clear hb2
  go_wp2
  go_ret
  exact ⟨rfl, HB.out.trans (HB2.out.mono HB.out.size)⟩
theorem four_any (v : Int) (V : Nat) (w : World) (hv : Hid (v = (V : Int))) (hV : V < 4294967296) (hw : IntKind.u64.wrap v = v) :
    Calls Tryz.prog 105 #[.int .u32 v] w fun e w' => e = .returned (.string (bs (putN V 4))) ∧ Below w.heap.size w w' := by
  have hc := WRefPut.put_ok v V 4 w (by omega) (by omega) (by omega) hv.out (by omega)
  have HC := Lib.hid hc
  clear hc
  go_enter Tryz.func105, Tryz.ntmps105
  go_wp2_with fail
  refine HC.out.mono ?_
  rintro e w1 ⟨rfl, hb⟩
  have HB := Lib.hid hb
  clear hb
  go_wp2
  go_ret
  exact ⟨rfl, HB.out⟩
end Go.Proofs.YtaoneiicoaiehaaGreat.Fn7
namespace Go.Proofs.YtaoneiicoaiehaaGreat.Sh7
set_option maxRecDepth 100000
open Go Go.RowKit Go.Shelf Go.Proofs Go.Proofs.YtaoneiicoaiehaaGreat.Fl7
def ren : Go.Shelf.Ren := ⟨fun | 165 => 110 | 166 => 85 | 169 => 86 | 240 => 113 | 241 => 134 | 276 => 136 | 277 => 142 | 316 => 116 | n => n, fun | 0 => 0 | 3 => 3 | 4 => 4 | 5 => 5 | 9 => 9 | 20 => 20 | 37 => 97 | 70 => 123 | 72 => 125 | 75 => 127 | 80 => 130 | 127 => 158 | 164 => 173 | n => n, fun | n => n⟩
theorem lays165 : Go.Proofs.Lays.n165 Tryz.prog ren := {
  mixed := by kernel_rfl
  f165 := Tryz.func110.trans (congrArg some (by kernel_rfl))
  f240 := Tryz.func113.trans (congrArg some (by kernel_rfl))
  f241 := Tryz.func134.trans (congrArg some (by kernel_rfl))
  f276 := Tryz.func136.trans (congrArg some (by kernel_rfl))
  f277 := Tryz.func142.trans (congrArg some (by kernel_rfl))
  t0 := Tryz.underlying0
  a0 := Tryz.isAgg0
  z0 := Tryz.sizeOf0
  v0 := Tryz.zeroValue0
  t3 := Tryz.underlying3
  a3 := Tryz.isAgg3
  z3 := Tryz.sizeOf3
  v3 := Tryz.zeroValue3
  t4 := Tryz.underlying4
  a4 := Tryz.isAgg4
  z4 := Tryz.sizeOf4
  v4 := Tryz.zeroValue4
  t9 := Tryz.underlying9
  a9 := Tryz.isAgg9
  z9 := Tryz.sizeOf9
  v9 := Tryz.zeroValue9
  t20 := Tryz.underlying20
  a20 := Tryz.isAgg20
  z20 := Tryz.sizeOf20
  v20 := Tryz.zeroValue20
  t37 := Tryz.underlying97
  a37 := Tryz.isAgg97
  z37 := Tryz.sizeOf97
  v37 := Tryz.zeroValue97
  t70 := Tryz.underlying123
  a70 := Tryz.isAgg123
  z70 := Tryz.sizeOf123
  v70 := Tryz.zeroValue123
  t72 := Tryz.underlying125
  a72 := Tryz.isAgg125
  z72 := Tryz.sizeOf125
  v72 := Tryz.zeroValue125
  t164 := Tryz.underlying173
  a164 := Tryz.isAgg173
  z164 := Tryz.sizeOf173
  v164 := Tryz.zeroValue173 }
theorem lays166 : Go.Proofs.Lays.n166 Tryz.prog ren := {
  mixed := by kernel_rfl
  f166 := Tryz.func85.trans (congrArg some (by kernel_rfl))
  f240 := Tryz.func113.trans (congrArg some (by kernel_rfl))
  f276 := Tryz.func136.trans (congrArg some (by kernel_rfl))
  t0 := Tryz.underlying0
  a0 := Tryz.isAgg0
  z0 := Tryz.sizeOf0
  v0 := Tryz.zeroValue0
  t3 := Tryz.underlying3
  a3 := Tryz.isAgg3
  z3 := Tryz.sizeOf3
  v3 := Tryz.zeroValue3
  t4 := Tryz.underlying4
  a4 := Tryz.isAgg4
  z4 := Tryz.sizeOf4
  v4 := Tryz.zeroValue4
  t9 := Tryz.underlying9
  a9 := Tryz.isAgg9
  z9 := Tryz.sizeOf9
  v9 := Tryz.zeroValue9
  t20 := Tryz.underlying20
  a20 := Tryz.isAgg20
  z20 := Tryz.sizeOf20
  v20 := Tryz.zeroValue20
  t37 := Tryz.underlying97
  a37 := Tryz.isAgg97
  z37 := Tryz.sizeOf97
  v37 := Tryz.zeroValue97
  t70 := Tryz.underlying123
  a70 := Tryz.isAgg123
  z70 := Tryz.sizeOf123
  v70 := Tryz.zeroValue123
  t72 := Tryz.underlying125
  a72 := Tryz.isAgg125
  z72 := Tryz.sizeOf125
  v72 := Tryz.zeroValue125
  t75 := Tryz.underlying127
  a75 := Tryz.isAgg127
  z75 := Tryz.sizeOf127
  v75 := Tryz.zeroValue127
  t164 := Tryz.underlying173
  a164 := Tryz.isAgg173
  z164 := Tryz.sizeOf173
  v164 := Tryz.zeroValue173 }
theorem lays169 : Go.Proofs.Lays.n169 Tryz.prog ren := {
  mixed := by kernel_rfl
  f169 := Tryz.func86.trans (congrArg some (by kernel_rfl))
  t0 := Tryz.underlying0
  a0 := Tryz.isAgg0
  z0 := Tryz.sizeOf0
  v0 := Tryz.zeroValue0
  t3 := Tryz.underlying3
  a3 := Tryz.isAgg3
  z3 := Tryz.sizeOf3
  v3 := Tryz.zeroValue3
  t9 := Tryz.underlying9
  a9 := Tryz.isAgg9
  z9 := Tryz.sizeOf9
  v9 := Tryz.zeroValue9
  t37 := Tryz.underlying97
  a37 := Tryz.isAgg97
  z37 := Tryz.sizeOf97
  v37 := Tryz.zeroValue97
  t70 := Tryz.underlying123
  a70 := Tryz.isAgg123
  z70 := Tryz.sizeOf123
  v70 := Tryz.zeroValue123
  t72 := Tryz.underlying125
  a72 := Tryz.isAgg125
  z72 := Tryz.sizeOf125
  v72 := Tryz.zeroValue125
  t127 := Tryz.underlying158
  a127 := Tryz.isAgg158
  z127 := Tryz.sizeOf158
  v127 := Tryz.zeroValue158 }
def cren : Go.Shelf.Ren := ⟨fun | 316 => 116 | n => n, fun | 9 => 9 | 3 => 3 | 4 => 4 | 37 => 97 | 0 => 0 | 127 => 158 | 5 => 5 | n => n, fun | n => n⟩
theorem lays316 : Go.Proofs.LaysM.n316 Tryz.prog cren := {
  mixed := by kernel_rfl
  f316 := Tryz.func116.trans (congrArg some (by kernel_rfl))
  t0 := Tryz.underlying0
  a0 := Tryz.isAgg0
  z0 := Tryz.sizeOf0
  v0 := Tryz.zeroValue0
  t3 := Tryz.underlying3
  a3 := Tryz.isAgg3
  z3 := Tryz.sizeOf3
  v3 := Tryz.zeroValue3
  t4 := Tryz.underlying4
  a4 := Tryz.isAgg4
  z4 := Tryz.sizeOf4
  v4 := Tryz.zeroValue4
  t9 := Tryz.underlying9
  a9 := Tryz.isAgg9
  z9 := Tryz.sizeOf9
  v9 := Tryz.zeroValue9
  t37 := Tryz.underlying97
  a37 := Tryz.isAgg97
  z37 := Tryz.sizeOf97
  v37 := Tryz.zeroValue97
  t127 := Tryz.underlying158
  a127 := Tryz.isAgg158
  z127 := Tryz.sizeOf158
  v127 := Tryz.zeroValue158
  t5 := Tryz.underlying5
  a5 := Tryz.isAgg5
  z5 := Tryz.sizeOf5
  v5 := Tryz.zeroValue5
  i0 := by kernel_rfl
  i3 := by kernel_rfl
  i4 := by kernel_rfl
  i5 := by kernel_rfl
  i9 := by kernel_rfl
  i37 := by kernel_rfl
  i127 := by kernel_rfl }
theorem extra : Go.Proofs.Builder.Extra Tryz.prog ren := {
  sizeBuilder := by kernel_rfl
  liesBuilder := by kernel_rfl
  t5 := Tryz.underlying5
  a5 := Tryz.isAgg5
  z5 := Tryz.sizeOf5
  v5 := Tryz.zeroValue5
  infoByte := by kernel_rfl
  cellsByte := by kernel_rfl
  sizeByte := by kernel_rfl
  neB5 := by decide }
/-- A builder at block b, that holds these bytes. -/
def Bld (B b : Nat) (l : List UInt8) (w : World) : Prop := Lib.IsBuilder 125 5 B b (Lib.byteCells l) w
theorem grow_any (B b n : Nat) (w : World) (hB : B ≤ b) (hbk : w.heap[b]? = some (.cells #[.pointer none, .slice none 0 0] 125 (0, 0))) (hBw : B ≤ w.heap.size) (hn : n ≤ 281474976710656) :
    Calls Tryz.prog 110 #[.pointer (some ⟨b, 0, none⟩), .int .i64 n] w fun e w' => e = .returned (.tuple #[]) ∧ Bld B b [] w' ∧ Below B w w' :=
  (Any.Builder_Grow_fresh lays165 extra B b n w hB hbk hBw hn).mono fun _ _ h => ⟨h.1, .inr h.2.1, h.2.2⟩
theorem write_any (B b : Nat) (l : List UInt8) (s : ByteArray) (w : World) (h : Bld B b l w) (hlen : l.length + s.size ≤ 140737488355328) (hBw : B ≤ w.heap.size) :
    Calls Tryz.prog 85 #[.pointer (some ⟨b, 0, none⟩), .string s] w fun e w' => e = .returned (.tuple #[.int .i64 s.size, .nilIface]) ∧ Bld B b (l ++ s.data.toList) w' ∧ Below B w w' :=
  (Any.Builder_WriteString lays166 extra B b (Lib.byteCells l) s w h (by simpa [Lib.byteCells] using hlen) hBw).mono fun _ _ h => ⟨h.1, by
    have e : Lib.byteCells l ++ Lib.strCells s = Lib.byteCells (l ++ s.data.toList) := by
      simp [Lib.byteCells, Lib.strCells]
    rw [e] at h
    exact .inr h.2.1, h.2.2⟩
theorem text_any (B b : Nat) (l : List UInt8) (w : World) (h : Bld B b l w) (hBw : B ≤ w.heap.size) :
    Calls Tryz.prog 86 #[.pointer (some ⟨b, 0, none⟩)] w fun e w' => e = .returned (.string (bs l)) ∧ Below B w w' :=
  Any.Builder_String_any lays169 extra B b l w h hBw
theorem clone_in (s : ByteArray) (w : World) (hs : s.size ≤ 281474976710656) :
    Calls Tryz.prog 116 #[.string s] w fun e w' => e = .returned (.string s) ∧ Below w.heap.size w w' :=
  Any.stringslite_Clone lays316 s w hs
/-- strings.Clone: the same bytes. -/
theorem clone_any (s : ByteArray) (w : World) (hs : s.size ≤ 281474976710656) :
    Calls Tryz.prog 91 #[.string s] w fun e w' => e = .returned (.string s) ∧ Below w.heap.size w w' := by
  go_enter Tryz.func91, Tryz.ntmps91
  go_wp2_with fail
  refine (clone_in s w hs).mono ?_
  rintro e w1 ⟨rfl, hb⟩
  go_wp2
  go_ret
  exact ⟨rfl, hb⟩
end Go.Proofs.YtaoneiicoaiehaaGreat.Sh7
namespace Go.Proofs.YtaoneiicoaiehaaGreat.Fp7
set_option maxRecDepth 100000
open Go Go.RowKit Go.Proofs.YtaoneiicoaiehaaGreat.Wm Go.Proofs.YtaoneiicoaiehaaGreat.Fl7 Go.Proofs.YtaoneiicoaiehaaGreat.Rs7 Go.Proofs.YtaoneiicoaiehaaGreat.Sh7
theorem frs_snoc (l : List (List UInt8)) (s : List UInt8) : frs (l ++ [s]) = frs l ++ fr s := by
  rw [frs_append, frs, frs, List.append_nil]
theorem ll_snoc (L : List ByteArray) (k : Nat) (hk : k < L.length) : ll (L.take (k + 1)) = ll (L.take k) ++ [L[k].data.toList] := by
  rw [List.take_succ_eq_append_getElem hk, ll_append]; rfl
theorem size_take (L : List ByteArray) (k : Nat) (hk : k < L.length) : size (ll (L.take (k + 1))) = size (ll (L.take k)) + (12 + L[k].size) := by
  rw [ll_snoc L k hk, size_append, size, size]
  have : L[k].data.toList.length = L[k].size := by simp
  omega
theorem size_le (l : List (List UInt8)) (k : Nat) : size (l.take k) ≤ size l := by
  rw [← frs_len, ← frs_len]
  conv => rhs; rw [← List.take_append_drop k l, frs_append, List.length_append]
  omega
set_option maxRecDepth 20000 in
set_option maxHeartbeats 2000000 in
/-- One text is too long. -/
theorem all_long (w : World) (A : Option Addr) (c : Nat) (L : List ByteArray) (hl : Rds w A L) (hlen : L.length ≤ 140737488351232) (hsz : size (ll L) ≤ 140737488355328) (q : Nat) (hq : q < L.length) (hqs : 4194304 < L[q].size) (hs : ∀ k (h : k < L.length), k < q → L[k].size ≤ 4194304) :
    Calls Tryz.prog 83 #[.slice A L.length c] w fun e w' => e = .returned (.tuple #[.string ⟨#[]⟩, .int .i64 5]) ∧ w' = w := by
  have HL := Lib.hid hl
  have HS := Lib.hid hs
  have HZ := Lib.hid hsz
  have HQ := Lib.hid hqs
  clear hl hs hqs hsz
  obtain ⟨N, hN⟩ : ∃ N, N = L.length := ⟨_, rfl⟩
  rw [← hN]
  rw [← hN] at hlen
  have H1 := Lib.hid hN
  clear hN
  go_enter Tryz.func83, Tryz.ntmps83
  go_wp2
  go_loop [4, 6, 13] (fun s _ i => ∃ k : Nat, k ≤ q ∧ i = .int .i64 k ∧ s = .int .i64 (size (ll (L.take k)) : Nat)) (fun _ _ i => N - (intOf i).toNat)
  case atStart => exact ⟨0, by omega, rfl, rfl⟩
  case round =>
    obtain ⟨k, hk, rfl, rfl⟩ := hrel
    have hkN : k < N := by rw [H1.out]; omega
    have hkl : k < L.length := by omega
    obtain ⟨b, o, rfl, p0⟩ := HL.out.at_ hkl
    have hst := size_take L k hkl
    have hle : size (ll (L.take (k + 1))) ≤ size (ll L) := by rw [ll_take]; exact size_le _ _
    rw [hst] at hle
    by_cases hkq : k = q
    · subst hkq
      have h2 := HQ.out
      generalize L[k] = x at p0 h2
      clear hkl hst hle hq HQ
      go_wp2
      go_ret2
      exact ⟨rfl, rfl⟩
    · have h2 := HS.out k hkl (by omega)
      have hz := HZ.out
      obtain ⟨Z, hZ⟩ : ∃ Z, Z = size (ll (L.take k)) := ⟨_, rfl⟩
      rw [← hZ] at hst hle ⊢
      have hst2 := Lib.hid hst
      generalize L[k] = x at p0 h2 hle hst2
      have hlt : k < q := by omega
      clear hkl hst hq HQ HZ hZ
      go_wp2
      go_round
      case rel => exact ⟨k + 1, by omega, by go_num, by rw [hst2.out]; go_num⟩
      case measure => simp [intOf]; omega
theorem grown_of_below {w w' : World} (h : Below w.heap.size w w') : w.grownBy w' none := ⟨h.os, h.tape, h.output, h.size, fun k hk _ => h.block k hk⟩
/-- A call that touches nothing that was there leaves a builder as it is. -/
theorem bld_keep {B b : Nat} {l : List UInt8} {w w' : World} (h : Bld B b l w) (hb : Below w.heap.size w w') : Bld B b l w' := by
  have one : ∀ p, Lib.BuilderAt 125 5 B b p (Lib.byteCells l) w → Lib.BuilderAt 125 5 B b p (Lib.byteCells l) w' := by
    rintro p ⟨h1, v, h2, h3, h4⟩
    have hlt : b < w.heap.size := (Array.getElem?_eq_some_iff.1 h2).1
    exact ⟨h1, v, (hb.block b hlt).trans h2, h3.kept (grown_of_below hb) (by cases v.ownBlock <;> simp), h4⟩
  rcases h with h | h
  · exact .inl (one _ h)
  · exact .inr (one _ h)
set_option maxRecDepth 20000 in
set_option maxHeartbeats 4000000 in
/-- No text is too long: the frames of all. -/
theorem all_ok (w : World) (A : Option Addr) (c : Nat) (L : List ByteArray) (hl : Rds w A L) (hlen : L.length ≤ 140737488351232) (hsz : size (ll L) ≤ 140737488355328) (hs : ∀ k (h : k < L.length), L[k].size ≤ 4194304) :
    Calls Tryz.prog 83 #[.slice A L.length c] w fun e w' => e = .returned (.tuple #[.string (bs (frs (ll L))), .int .i64 0]) ∧ Below w.heap.size w w' := by
  have HL := Lib.hid hl
  have HS := Lib.hid hs
  have HZ := Lib.hid hsz
  clear hl hs hsz
  obtain ⟨N, hN⟩ : ∃ N, N = L.length := ⟨_, rfl⟩
  rw [← hN]
  rw [← hN] at hlen
  have H1 := Lib.hid hN
  clear hN
  go_enter Tryz.func83, Tryz.ntmps83
  go_wp2
  go_loop [4, 6, 13] (fun s _ i => ∃ k : Nat, k ≤ N ∧ i = .int .i64 k ∧ s = .int .i64 (size (ll (L.take k)) : Nat)) (fun _ _ i => N - (intOf i).toNat)
  case atStart => exact ⟨0, by omega, rfl, rfl⟩
  case round =>
    obtain ⟨k, hk, rfl, rfl⟩ := hrel
    by_cases hkN : k < N
    · have hkl : k < L.length := by rw [← H1.out]; exact hkN
      obtain ⟨b, o, rfl, p0⟩ := HL.out.at_ hkl
      have hst := size_take L k hkl
      have hle : size (ll (L.take (k + 1))) ≤ size (ll L) := by rw [ll_take]; exact size_le _ _
      rw [hst] at hle
      have h2 := HS.out k hkl
      have hz := HZ.out
      obtain ⟨Z, hZ⟩ : ∃ Z, Z = size (ll (L.take k)) := ⟨_, rfl⟩
      rw [← hZ] at hst hle ⊢
      have hst2 := Lib.hid hst
      generalize L[k] = x at p0 h2 hle hst2
      clear hkl hst HZ hZ
      go_wp2
      go_round
      case rel => exact ⟨k + 1, by omega, by go_num, by rw [hst2.out]; go_num⟩
      case measure => simp [intOf]; omega
    · have hk2 : k = N := by omega
      subst hk2
      have e : L.take k = L := List.take_of_length_le (by rw [← H1.out]; omega)
      rw [e]
      have hz := HZ.out
      have HZ2 := Lib.hid HZ.out
      generalize size (ll L) = Z at hz HZ ⊢
      clear e hkN
      have hg := grow_any w.heap.size w.heap.size Z (w.alloc (.cells #[.pointer none, .slice none 0 0] 125)) (Nat.le_refl _) (heap_alloc_new w _) (by simp) (by omega)
      have HG := Lib.hid hg
      clear hg
      go_wp2_with fail
      refine HG.out.mono ?_
      rintro e w1 ⟨rfl, hB, hb⟩
      have HB := Lib.hid hB
      have hb2 : Below w.heap.size w w1 := ((Below.refl w.heap.size w).alloc (Nat.le_refl _) _).trans hb
      have Hb := Lib.hid hb2
      clear hB hb hb2
      go_wp2
      go_loopw [9, 10, 30] (fun _ _ i wr => ∃ j : Nat, j ≤ k ∧ i = .int .i64 j ∧ Hid (Bld w.heap.size w.heap.size (frs (ll (L.take j))) wr) ∧ Hid (Below w.heap.size w wr)) (fun _ _ i _ => k - (intOf i).toNat)
      case atStart => exact ⟨0, by omega, rfl, HB, Hb⟩
      case round =>
        obtain ⟨j, hj, rfl, HB1, Hb1⟩ := hrel
        by_cases hjk : j < k
        · have hjl : j < L.length := by rw [← H1.out]; exact hjk
          obtain ⟨b, o, rfl, p0⟩ := (HL.out.keep (Nat.le_refl _) Hb1.out).at_ hjl
          have h2 := HS.out j hjl
          have hfl := frs_len (ll (L.take j))
          have hst := size_take L j hjl
          have hle : size (ll (L.take (j + 1))) ≤ size (ll L) := by rw [ll_take]; exact size_le _ _
          have hsn : frs (ll (L.take (j + 1))) = frs (ll (L.take j)) ++ fr L[j].data.toList := by rw [ll_snoc L j hjl, frs_snoc]
          have hz := HZ2.out
          rw [hst] at hle
          generalize L[j] = x at p0 h2 hle hsn
          obtain ⟨F1, hF1e⟩ : ∃ F1, F1 = frs (ll (L.take (j + 1))) := ⟨_, rfl⟩
          rw [← hF1e] at hsn
          have HFE := Lib.hid hF1e
          clear hF1e
          generalize frs (ll (L.take j)) = F0 at hfl hsn HB1
          have hsz : F0.length + 12 + x.size ≤ 140737488355328 := by omega
          have HSN := Lib.hid hsn
          clear hjl hst hfl hle hsn HZ HZ2 hz
          have hw64 : IntKind.u64.wrap (x.size : Int) = (x.size : Int) := wrap_u64_small _ (by omega)
          have hxl : x.data.toList.length = x.size := by simp
          have hl0 : (cnt x.data.toList) = putN x.size 4 := by unfold cnt; rw [hxl]
          obtain ⟨C, hC⟩ : ∃ C, C = bs (cnt x.data.toList) := ⟨_, rfl⟩
          have hCl : C.data.toList = cnt x.data.toList := by rw [hC]; rfl
          have hCs : C.size = 4 := by rw [hC, bs_size, cnt_len]
          have hnum := Fn7.number_any (x.size : Int) x.size wr (Lib.hid rfl) (by omega)
          rw [← hl0, ← hC] at hnum
          have HNUM := Lib.hid hnum
          obtain ⟨S, hS⟩ : ∃ S, S = bs (sum4 C.data.toList) := ⟨_, rfl⟩
          obtain ⟨T, hT⟩ : ∃ T, T = bs (sum4 x.data.toList) := ⟨_, rfl⟩
          have hSl : S.data.toList = sum4 (cnt x.data.toList) := by rw [hS, hCl]; rfl
          have hTl : T.data.toList = sum4 x.data.toList := by rw [hT]; rfl
          have hSs : S.size = 4 := by rw [hS, bs_size, sum4_len]
          have hTs : T.size = 4 := by rw [hT, bs_size, sum4_len]
          have hsumC : ∀ W, Calls Tryz.prog 112 #[.string C] W fun e w' => e = .returned (.string S) ∧ Below W.heap.size W w' := fun W => by
            rw [hS]; exact Fn7.sum_any C W (by unfold maxLen; omega)
          have hsumX : ∀ W, Calls Tryz.prog 112 #[.string x] W fun e w' => e = .returned (.string T) ∧ Below W.heap.size W w' := fun W => by
            rw [hT]; exact Fn7.sum_any x W (by unfold maxLen; omega)
          have hF1 : F1 = F0 ++ C.data.toList ++ S.data.toList ++ T.data.toList ++ x.data.toList := by
            rw [HSN.out, hSl, hTl, hCl]; unfold fr; simp only [List.append_assoc]
          have HF := Lib.hid hF1
          have HSC := Lib.hid hsumC
          have HSX := Lib.hid hsumX
          have hClen : C.data.toList.length = 4 := by rw [hCl, cnt_len]
          have hSlen : S.data.toList.length = 4 := by rw [hSl, sum4_len]
          have hTlen : T.data.toList.length = 4 := by rw [hTl, sum4_len]
          have HCn := Lib.hid hClen
          have HSn := Lib.hid hSlen
          have HTn := Lib.hid hTlen
          have q0 : F0.length + C.size ≤ 140737488355328 := by omega
          have q1 : (F0 ++ C.data.toList).length + S.size ≤ 140737488355328 := by rw [List.length_append, hClen]; omega
          have q2 : (F0 ++ C.data.toList ++ S.data.toList).length + T.size ≤ 140737488355328 := by rw [List.length_append, List.length_append, hClen, hSlen]; omega
          have q3 : (F0 ++ C.data.toList ++ S.data.toList ++ T.data.toList).length + x.size ≤ 140737488355328 := by rw [List.length_append, List.length_append, List.length_append, hClen, hSlen, hTlen]; omega
          have Q0 := Lib.hid q0
          have Q1 := Lib.hid q1
          have Q2 := Lib.hid q2
          have Q3 := Lib.hid q3
          clear q0 q1 q2 q3 hF1 hsumC hsumX hSl hTl hCl hS hT hC hl0 hnum HSN hxl hCs hSs hTs hClen hSlen hTlen hsz
          go_wp2_with fail
          refine HNUM.out.mono ?_
          rintro e w2 ⟨rfl, hb2⟩
          have HB2 := Lib.hid (bld_keep HB1.out hb2)
          have Hb2 := Lib.hid (Hb1.out.trans (hb2.mono Hb1.out.size))
          clear hb2 HNUM HB1 Hb1
          go_wp2_with fail
          refine (write_any w.heap.size w.heap.size F0 C w2 HB2.out Q0.out Hb2.out.size).mono ?_
          rintro e w3 ⟨rfl, hB3, hb3⟩
          have HB3 := Lib.hid hB3
          have Hb3 := Lib.hid (Hb2.out.trans hb3)
          clear hB3 hb3 HB2 Hb2
          go_wp2_with fail
          refine (HSC.out w3).mono ?_
          rintro e w4 ⟨rfl, hb4⟩
          have HB4 := Lib.hid (bld_keep HB3.out hb4)
          have Hb4 := Lib.hid (Hb3.out.trans (hb4.mono Hb3.out.size))
          clear hb4 HSC HB3 Hb3
          go_wp2_with fail
          refine (write_any w.heap.size w.heap.size _ S w4 HB4.out Q1.out Hb4.out.size).mono ?_
          rintro e w5 ⟨rfl, hB5, hb5⟩
          have HB5 := Lib.hid hB5
          have Hb5 := Lib.hid (Hb4.out.trans hb5)
          clear hB5 hb5 HB4 Hb4
          go_wp2_with fail
          refine (HSX.out w5).mono ?_
          rintro e w6 ⟨rfl, hb6⟩
          have HB6 := Lib.hid (bld_keep HB5.out hb6)
          have Hb6 := Lib.hid (Hb5.out.trans (hb6.mono Hb5.out.size))
          clear hb6 HSX HB5 Hb5
          go_wp2_with fail
          refine (write_any w.heap.size w.heap.size _ T w6 HB6.out Q2.out Hb6.out.size).mono ?_
          rintro e w7 ⟨rfl, hB7, hb7⟩
          have HB7 := Lib.hid hB7
          have Hb7 := Lib.hid (Hb6.out.trans hb7)
          clear hB7 hb7 HB6 Hb6
          go_wp2_with fail
          refine (write_any w.heap.size w.heap.size _ x w7 HB7.out Q3.out Hb7.out.size).mono ?_
          rintro e w8 ⟨rfl, hB8, hb8⟩
          have HB8 := Lib.hid hB8
          have Hb8 := Lib.hid (Hb7.out.trans hb8)
          clear hB8 hb8 HB7 Hb7
          go_wp2
          go_roundw
          case rel => exact ⟨j + 1, by omega, by go_num, Lib.hid (by rw [← HFE.out, HF.out]; exact HB8.out), Hb8⟩
          case measure => simp [intOf]; omega
        · have hj2 : j = k := by omega
          subst hj2
          have e : L.take j = L := List.take_of_length_le (by rw [← H1.out]; omega)
          rw [e] at HB1
          clear e hjk
          go_wp2_with fail
          refine (text_any w.heap.size w.heap.size _ wr HB1.out Hb1.out.size).mono ?_
          rintro e w2 ⟨rfl, hb2⟩
          have Hb2 := Lib.hid (Hb1.out.trans hb2)
          clear hb2
          go_wp2
          go_ret2
          exact ⟨rfl, Hb2.out⟩
theorem frs_one (s : List UInt8) : frs [s] = fr s := by rw [frs, frs, List.append_nil]
theorem rds_one (w : World) (s : ByteArray) : Rds (w.alloc (.cells #[.string s] 9)) (some ⟨w.heap.size, 0, none⟩) [s] := fun _ =>
  ⟨w.heap.size, 0, rfl, by simp, fun k hk => by
    have h0 : k = 0 := by simpa using hk
    subst h0
    exact (cell_of_row _ _ _ _ _ _ (heap_alloc_new w _)).trans rfl⟩
/-- Put of a text that is not too long. -/
theorem put_ok (s : ByteArray) (w : World) (hs : s.size ≤ 4194304) :
    Calls Tryz.prog 57 #[.string s] w fun e w' => e = .returned (.tuple #[.string (bs (fr s.data.toList)), .int .i64 0]) ∧ Below w.heap.size w w' := by
  have hc := all_ok (w.alloc (.cells #[.string s] 9)) (some ⟨w.heap.size, 0, none⟩) 1 [s] (rds_one w s) (by simp) (by show size [s.data.toList] ≤ _; simp [size]; omega) (fun k hk => by
    have h0 : k = 0 := by simpa using hk
    subst h0; exact hs)
  have e1 : frs (ll [s]) = fr s.data.toList := frs_one _
  rw [e1] at hc
  have HC := Lib.hid hc
  clear hc e1
  go_enter Tryz.func57, Tryz.ntmps57
  go_wp2_with fail
  refine HC.out.mono ?_
  rintro e w1 ⟨rfl, hb⟩
  have hb2 := Lib.hid (((Below.refl w.heap.size w).alloc (Nat.le_refl _) (.cells #[.string s] 9)).trans (hb.mono (by simp)))
  clear hb
  go_wp2
  go_ret2
  exact ⟨rfl, hb2.out⟩
theorem put_long (s : ByteArray) (w : World) (hm : s.size ≤ 140737488355000) (hs : 4194304 < s.size) :
    Calls Tryz.prog 57 #[.string s] w fun e w' => e = .returned (.tuple #[.string ⟨#[]⟩, .int .i64 5]) ∧ Below w.heap.size w w' := by
  have hc := all_long (w.alloc (.cells #[.string s] 9)) (some ⟨w.heap.size, 0, none⟩) 1 [s] (rds_one w s) (by simp) (by show size [s.data.toList] ≤ _; simp [size]; omega) 0 (by simp) hs (fun k hk h0 => by omega)
  have HC := Lib.hid hc
  clear hc
  go_enter Tryz.func57, Tryz.ntmps57
  go_wp2_with fail
  refine HC.out.mono ?_
  rintro e w1 ⟨rfl, hb⟩
  have hb2 := Lib.hid ((Below.refl w.heap.size w).alloc (Nat.le_refl _) (.cells #[.string s] 9))
  rw [← hb] at hb2
  clear hb
  go_wp2
  go_ret2
  exact ⟨rfl, hb2.out⟩
end Go.Proofs.YtaoneiicoaiehaaGreat.Fp7
namespace Go.Proofs.YtaoneiicoaiehaaGreat.Ff7
set_option maxRecDepth 100000
open Go Go.RowKit Go.Proofs.YtaoneiicoaiehaaGreat.Wm Go.Proofs.YtaoneiicoaiehaaGreat.Wc Go.Proofs.YtaoneiicoaiehaaGreat.Fl7
section
variable {P : Program} {md : Region.Mode} {ops : Array Oper} {Q : Exit → Act → World → Prop} {S : World → Prop}
/-- An operation that is not wanted. -/
theorem heldUn {i : Nat} {oi : Oper} {fuel : Nat} {listed : Array Bool} {a : Act} {w : World} (d : Option Tmp) (hi : ops[i]? = some oi) (hd : oi.dst = d) (hs : Region.noSelect ops = true) (hf : Region.free md ops listed i = true)
    (hr : (Region.ready md ops listed).contains i = true) (hQ : ∀ c a w, Q (.panic c) (a.put d undef) w → Q (.panic c) a w) (hw : Region.wanted oi (yielded ops a.tmps) = false) (hS : S w)
    (h : wpAnyH P md ops Q S fuel (listed.setIfInBounds i true) (a.put d undef) w) : wpAnyH P md ops Q S (fuel + 1) listed a w := by
  subst hd
  exact wpAnyH_take hi hs hf hr hQ (Or.inr ⟨hw, rfl⟩) hS h
/-- One that yields a value, whatever the world that meets S. -/
theorem heldIn {i : Nat} {oi : Oper} {fuel : Nat} {listed : Array Bool} {a : Act} {w : World} (d : Option Tmp) {v : Value} (hi : ops[i]? = some oi) (hd : oi.dst = d) (hs : Region.noSelect ops = true) (hf : Region.free md ops listed i = true)
    (hr : (Region.ready md ops listed).contains i = true) (hQ : ∀ c a w, Q (.panic c) (a.put d v) w → Q (.panic c) a w) (hw : Region.wanted oi (yielded ops a.tmps) = true) (hS : S w) (hy : ∀ w, S w → (execOp a.eval oi).run P w = .ok (.value v) w)
    (h : wpAnyH P md ops Q S fuel (listed.setIfInBounds i true) (a.put d v) w) : wpAnyH P md ops Q S (fuel + 1) listed a w := by
  subst hd
  exact wpAnyH_take hi hs hf hr hQ (Or.inl ⟨hw, hy⟩) hS h
end

theorem ex_list (b : ByteArray) (i k : Nat) : (b.extract i k).data.toList = (b.data.toList.take k).drop i := by
  rw [ByteArray.data_extract]
  simp [List.drop_take]
theorem sum_at (t : ByteArray) (S : ByteArray) (hS : S = bs (sum4 t.data.toList)) (hm : t.size ≤ maxLen) : Hid (∀ W, Calls Tryz.prog 112 #[.string t] W fun e w' => e = .returned (.string S) ∧ Below W.heap.size W w') :=
  Lib.hid fun W => by rw [hS]; exact Fn7.sum_any t W hm
theorem get_at (t : ByteArray) (n : Nat) (h4 : t.size = 4) (hn : n = getL t.data.toList) : Hid (∀ W, Calls Tryz.prog 118 #[.string t] W fun e w' => e = .returned (.tuple #[.int .u64 (n : Int), .int .i64 0]) ∧ W = w') :=
  Lib.hid fun W => by rw [hn]; exact WGet.ok t W (by omega) (by omega)
theorem wrap_small (n : Nat) (h : n ≤ 4194304) : IntKind.i64.wrap (n : Int) = (n : Int) := by
  simp only [IntKind.wrap, IntKind.bits, IntKind.signed]
  simp
  omega
/-- Fewer than eight bytes. -/
theorem few (b : ByteArray) (w : World) (h : b.size < 8) :
    Calls Tryz.prog 115 #[.string b] w fun e w' => e = .returned (.tuple #[.string ⟨#[]⟩, .int .i64 70]) ∧ Below w.heap.size w w' := by
  go_enter Tryz.func115, Tryz.ntmps115
  go_wp2
  go_ret2
  exact ⟨rfl, Below.refl _ _⟩
set_option maxRecDepth 20000 in
set_option maxHeartbeats 2000000 in
/-- The sum of the count is another one. -/
theorem bad_count (b S : ByteArray) (n : Nat) (w : World) (h8 : 8 ≤ b.size) (hm : b.size ≤ maxLen) (HG : Hid (∀ W, Calls Tryz.prog 118 #[.string (b.extract 0 4)] W fun e w' => e = .returned (.tuple #[.int .u64 (n : Int), .int .i64 0]) ∧ W = w')) (HC : Hid (∀ W, Calls Tryz.prog 112 #[.string (b.extract 0 4)] W fun e w' => e = .returned (.string S) ∧ Below W.heap.size W w')) (hne : (S.toList == (b.extract 4 8).toList) = false) :
    Calls Tryz.prog 115 #[.string b] w fun e w' => e = .returned (.tuple #[.string ⟨#[]⟩, .int .i64 71]) ∧ Below w.heap.size w w' := by
  unfold maxLen at hm
  have z0 : (4 : Int) ≤ (b.size : Int) := by omega
  have z1 : (8 : Int) ≤ (b.size : Int) := by omega
  have z2 : decide ((b.size : Int) < 8) = false := decide_eq_false (by omega)
  have hne2 : (S.toList != (b.extract 4 8).toList) = true := by rw [bne, hne]; rfl
  go_enter Tryz.func115, Tryz.ntmps115
  go_wp2_with fail
  refine (HG.out _).mono ?_
  rintro e w1 ⟨rfl, rfl⟩
  clear HG
  go_wp2_with fail
  refine wp_region_held_drew (S := fun _ => True) (by kernel_rfl) ?_ (fun hHeld => ?_)
  · trivial
  refine heldIn (i := 0) (some 19) (v := ?_) rfl rfl (by kernel_rfl) (by kernel_rfl) (by kernel_rfl) (fun _ _ _ h => h) (by rfl) (by assumption) ?_ ?_
  rotate_left
  · intro w hSw
    try dsimp only at hSw
    go_simp
    try with_reducible rfl
  try simp only [Act.put, List.setIfInBounds_toArray, List.set_cons_zero, List.set_cons_succ]
  refine heldIn (i := 2) (some 21) (v := ?_) rfl rfl (by kernel_rfl) (by kernel_rfl) (by kernel_rfl) (fun _ _ _ h => h) (by rfl) (by assumption) ?_ ?_
  rotate_left
  · intro w hSw
    try dsimp only at hSw
    go_simp
    try with_reducible rfl
  try simp only [Act.put, List.setIfInBounds_toArray, List.set_cons_zero, List.set_cons_succ]
  refine heldIn (i := 3) (some 22) (v := ?_) rfl rfl (by kernel_rfl) (by kernel_rfl) (by kernel_rfl) (fun _ _ _ h => h) (by rfl) (by assumption) ?_ ?_
  rotate_left
  · intro w hSw
    try dsimp only at hSw
    go_simp
    try with_reducible rfl
  try simp only [Act.put, List.setIfInBounds_toArray, List.set_cons_zero, List.set_cons_succ]
  refine wpAnyH_ready (rs := [1]) (by kernel_rfl) (by simp) ?_
  refine AllReadyH.cons rfl (fun K hK => ?_) AllReadyH.nil
  go_simp
  with_reducible refine (HC.out _).mono ?_
  rintro e v1 ⟨rfl, hbx⟩
  have H1 := Lib.hid (((Below.refl _ w).drew).trans hbx)
  clear hbx
  go_wp2_with fail
  refine hK.out _ _ ?_ (fun hHeld => ?_)
  · trivial
  clear hK K
  try simp only [Act.put, List.setIfInBounds_toArray, List.set_cons_zero, List.set_cons_succ]
  refine heldIn (i := 4) (some 23) (v := ?_) rfl rfl (by kernel_rfl) (by kernel_rfl) (by kernel_rfl) (fun _ _ _ h => h) (by rfl) (by assumption) ?_ ?_
  rotate_left
  · intro w hSw
    try dsimp only at hSw
    go_simp
    try with_reducible rfl
  try simp only [Act.put, List.setIfInBounds_toArray, List.set_cons_zero, List.set_cons_succ]
  refine heldIn (i := 5) (some 24) (v := ?_) rfl rfl (by kernel_rfl) (by kernel_rfl) (by kernel_rfl) (fun _ _ _ h => h) (by rfl) (by assumption) ?_ ?_
  rotate_left
  · intro w hSw
    try dsimp only at hSw
    go_simp
    try with_reducible rfl
  try simp only [Act.put, List.setIfInBounds_toArray, List.set_cons_zero, List.set_cons_succ]
  refine heldUn (i := 6) (some 25) rfl rfl (by kernel_rfl) (by kernel_rfl) (by kernel_rfl) (fun _ _ _ h => h) ?_ (by assumption) ?_
  · go_simp
  try simp only [Act.put, List.setIfInBounds_toArray, List.set_cons_zero, List.set_cons_succ]
  refine heldUn (i := 7) (some 26) rfl rfl (by kernel_rfl) (by kernel_rfl) (by kernel_rfl) (fun _ _ _ h => h) ?_ (by assumption) ?_
  · go_simp
  try simp only [Act.put, List.setIfInBounds_toArray, List.set_cons_zero, List.set_cons_succ]
  refine heldIn (i := 8) (some 27) (v := ?_) rfl rfl (by kernel_rfl) (by kernel_rfl) (by kernel_rfl) (fun _ _ _ h => h) (by rfl) (by assumption) ?_ ?_
  rotate_left
  · intro w hSw
    try dsimp only at hSw
    go_simp
    try with_reducible rfl
  try simp only [Act.put, List.setIfInBounds_toArray, List.set_cons_zero, List.set_cons_succ]
  refine wpAnyH_done (by kernel_rfl) ?_ _
  go_wp2
  go_ret2
  exact ⟨rfl, H1.out⟩
set_option maxRecDepth 20000 in
set_option maxHeartbeats 2000000 in
/-- The count is too great. -/
theorem bad_long (b S : ByteArray) (n : Nat) (w : World) (h8 : 8 ≤ b.size) (hm : b.size ≤ maxLen) (HG : Hid (∀ W, Calls Tryz.prog 118 #[.string (b.extract 0 4)] W fun e w' => e = .returned (.tuple #[.int .u64 (n : Int), .int .i64 0]) ∧ W = w')) (HC : Hid (∀ W, Calls Tryz.prog 112 #[.string (b.extract 0 4)] W fun e w' => e = .returned (.string S) ∧ Below W.heap.size W w')) (hne : (S.toList == (b.extract 4 8).toList) = true) (hn : 4194304 < n) (hn2 : n < 4294967296) :
    Calls Tryz.prog 115 #[.string b] w fun e w' => e = .returned (.tuple #[.string ⟨#[]⟩, .int .i64 71]) ∧ Below w.heap.size w w' := by
  unfold maxLen at hm
  have z0 : (4 : Int) ≤ (b.size : Int) := by omega
  have z1 : (8 : Int) ≤ (b.size : Int) := by omega
  have z2 : decide ((b.size : Int) < 8) = false := decide_eq_false (by omega)
  have hne2 : (S.toList != (b.extract 4 8).toList) = false := by rw [bne, hne]; rfl
  have z3 : decide ((4194304 : Int) < (n : Int)) = true := decide_eq_true (by omega)
  go_enter Tryz.func115, Tryz.ntmps115
  go_wp2_with fail
  refine (HG.out _).mono ?_
  rintro e w1 ⟨rfl, rfl⟩
  clear HG
  go_wp2_with fail
  go_region_held3 (fun _ => True) (trivial) (first
    | (go_at_call 112; (with_reducible refine (HC.out _).mono ?_); rintro e w1 ⟨rfl, hb⟩; have HB := Lib.hid (((Below.refl _ w).drew).trans hb); clear hb))
  all_goals
    go_wp2
    go_ret2
    exact ⟨rfl, HB.out⟩
set_option maxRecDepth 20000 in
set_option maxHeartbeats 2000000 in
/-- Bytes are wanting. -/
theorem torn (b S : ByteArray) (n : Nat) (w : World) (h8 : 8 ≤ b.size) (hm : b.size ≤ maxLen) (HG : Hid (∀ W, Calls Tryz.prog 118 #[.string (b.extract 0 4)] W fun e w' => e = .returned (.tuple #[.int .u64 (n : Int), .int .i64 0]) ∧ W = w')) (HC : Hid (∀ W, Calls Tryz.prog 112 #[.string (b.extract 0 4)] W fun e w' => e = .returned (.string S) ∧ Below W.heap.size W w')) (hne : (S.toList == (b.extract 4 8).toList) = true) (hn : n ≤ 4194304) (hl : b.size < 12 + n) :
    Calls Tryz.prog 115 #[.string b] w fun e w' => e = .returned (.tuple #[.string ⟨#[]⟩, .int .i64 70]) ∧ Below w.heap.size w w' := by
  unfold maxLen at hm
  have z0 : (4 : Int) ≤ (b.size : Int) := by omega
  have z1 : (8 : Int) ≤ (b.size : Int) := by omega
  have z2 : decide ((b.size : Int) < 8) = false := decide_eq_false (by omega)
  have hne2 : (S.toList != (b.extract 4 8).toList) = false := by rw [bne, hne]; rfl
  have z3 : decide ((4194304 : Int) < (n : Int)) = false := decide_eq_false (by omega)
  have z4 : IntKind.i64.wrap (n : Int) = (n : Int) := wrap_small n hn
  go_enter Tryz.func115, Tryz.ntmps115
  go_wp2_with fail
  refine (HG.out _).mono ?_
  rintro e w1 ⟨rfl, rfl⟩
  clear HG
  go_wp2_with fail
  go_region_held3 (fun _ => True) (trivial) (first
    | (go_at_call 112; (with_reducible refine (HC.out _).mono ?_); rintro e w1 ⟨rfl, hb⟩; have HB := Lib.hid (((Below.refl _ w).drew).trans hb); clear hb))
  all_goals
    go_wp2
    go_ret2
    exact ⟨rfl, HB.out⟩
set_option maxRecDepth 20000 in
set_option maxHeartbeats 2000000 in
/-- The sum of the text is another one. -/
theorem bad_text (b S : ByteArray) (n : Nat) (w : World) (h8 : 8 ≤ b.size) (hm : b.size ≤ maxLen) (HG : Hid (∀ W, Calls Tryz.prog 118 #[.string (b.extract 0 4)] W fun e w' => e = .returned (.tuple #[.int .u64 (n : Int), .int .i64 0]) ∧ W = w')) (HC : Hid (∀ W, Calls Tryz.prog 112 #[.string (b.extract 0 4)] W fun e w' => e = .returned (.string S) ∧ Below W.heap.size W w')) (T : ByteArray) (HT : Hid (∀ W, Calls Tryz.prog 112 #[.string (b.extract 12 (12 + n))] W fun e w' => e = .returned (.string T) ∧ Below W.heap.size W w')) (hne : (S.toList == (b.extract 4 8).toList) = true) (hn : n ≤ 4194304) (hl : 12 + n ≤ b.size) (hte : (T.toList == (b.extract 8 12).toList) = false) :
    Calls Tryz.prog 115 #[.string b] w fun e w' => e = .returned (.tuple #[.string ⟨#[]⟩, .int .i64 71]) ∧ Below w.heap.size w w' := by
  unfold maxLen at hm
  have z0 : (4 : Int) ≤ (b.size : Int) := by omega
  have z1 : (8 : Int) ≤ (b.size : Int) := by omega
  have z2 : decide ((b.size : Int) < 8) = false := decide_eq_false (by omega)
  have hne2 : (S.toList != (b.extract 4 8).toList) = false := by rw [bne, hne]; rfl
  have z3 : decide ((4194304 : Int) < (n : Int)) = false := decide_eq_false (by omega)
  have z4 : IntKind.i64.wrap (n : Int) = (n : Int) := wrap_small n hn
  have hte2 : (T.toList != (b.extract 8 12).toList) = true := by rw [bne, hte]; rfl
  have z8 : decide ((b.size : Int) < 12 + (n : Int)) = false := decide_eq_false (by omega)
  have z9 : (12 : Int) ≤ 12 + (n : Int) := by omega
  have zA : 12 + (n : Int) ≤ (b.size : Int) := by omega
  have z5 : (12 : Int) ≤ (b.size : Int) := by omega
  have z6 : ((12 : Int) + (n : Int)).toNat = 12 + n := by omega
  go_enter Tryz.func115, Tryz.ntmps115
  go_wp2_with fail
  refine (HG.out _).mono ?_
  rintro e w1 ⟨rfl, rfl⟩
  clear HG
  go_wp2_with fail
  go_region_held3 (fun _ => True) (trivial) (first
    | (go_at_call 112; (with_reducible refine (HC.out _).mono ?_); rintro e w1 ⟨rfl, hb⟩; have HB := Lib.hid (((Below.refl _ w).drew).trans hb); clear hb))
  all_goals
    go_wp2
    go_region_held3 (fun _ => True) (trivial) (first
      | (go_at_call 112; (with_reducible refine (HT.out _).mono ?_); rintro e w2 ⟨rfl, hb⟩; have HB2 := Lib.hid (HB.out.trans ((((Below.refl _ w1).drew).trans hb).mono HB.out.size)); clear hb))
    all_goals
      go_wp2
      go_ret2
      exact ⟨rfl, HB2.out⟩
set_option maxRecDepth 20000 in
set_option maxHeartbeats 2000000 in
/-- A whole frame. -/
theorem ok (b S : ByteArray) (n : Nat) (w : World) (h8 : 8 ≤ b.size) (hm : b.size ≤ maxLen) (HG : Hid (∀ W, Calls Tryz.prog 118 #[.string (b.extract 0 4)] W fun e w' => e = .returned (.tuple #[.int .u64 (n : Int), .int .i64 0]) ∧ W = w')) (HC : Hid (∀ W, Calls Tryz.prog 112 #[.string (b.extract 0 4)] W fun e w' => e = .returned (.string S) ∧ Below W.heap.size W w')) (T : ByteArray) (HT : Hid (∀ W, Calls Tryz.prog 112 #[.string (b.extract 12 (12 + n))] W fun e w' => e = .returned (.string T) ∧ Below W.heap.size W w')) (hne : (S.toList == (b.extract 4 8).toList) = true) (hn : n ≤ 4194304) (hl : 12 + n ≤ b.size) (hte : (T.toList == (b.extract 8 12).toList) = true) :
    Calls Tryz.prog 115 #[.string b] w fun e w' => e = .returned (.tuple #[.string (b.extract 12 (12 + n)), .int .i64 0]) ∧ Below w.heap.size w w' := by
  unfold maxLen at hm
  have z0 : (4 : Int) ≤ (b.size : Int) := by omega
  have z1 : (8 : Int) ≤ (b.size : Int) := by omega
  have z2 : decide ((b.size : Int) < 8) = false := decide_eq_false (by omega)
  have hne2 : (S.toList != (b.extract 4 8).toList) = false := by rw [bne, hne]; rfl
  have z3 : decide ((4194304 : Int) < (n : Int)) = false := decide_eq_false (by omega)
  have z4 : IntKind.i64.wrap (n : Int) = (n : Int) := wrap_small n hn
  have hte2 : (T.toList != (b.extract 8 12).toList) = false := by rw [bne, hte]; rfl
  have z8 : decide ((b.size : Int) < 12 + (n : Int)) = false := decide_eq_false (by omega)
  have z9 : (12 : Int) ≤ 12 + (n : Int) := by omega
  have zA : 12 + (n : Int) ≤ (b.size : Int) := by omega
  have z5 : (12 : Int) ≤ (b.size : Int) := by omega
  have z6 : ((12 : Int) + (n : Int)).toNat = 12 + n := by omega
  go_enter Tryz.func115, Tryz.ntmps115
  go_wp2_with fail
  refine (HG.out _).mono ?_
  rintro e w1 ⟨rfl, rfl⟩
  clear HG
  go_wp2_with fail
  go_region_held3 (fun _ => True) (trivial) (first
    | (go_at_call 112; (with_reducible refine (HC.out _).mono ?_); rintro e w1 ⟨rfl, hb⟩; have HB := Lib.hid (((Below.refl _ w).drew).trans hb); clear hb))
  all_goals
    go_wp2
    go_region_held3 (fun _ => True) (trivial) (first
      | (go_at_call 112; (with_reducible refine (HT.out _).mono ?_); rintro e w2 ⟨rfl, hb⟩; have HB2 := Lib.hid (HB.out.trans ((((Below.refl _ w1).drew).trans hb).mono HB.out.size)); clear hb))
    all_goals
      go_wp2
      go_ret2
      exact ⟨rfl, HB2.out⟩
theorem first_any (b : ByteArray) (w : World) (hm : b.size ≤ maxLen) :
    Calls Tryz.prog 115 #[.string b] w fun e w' => e = .returned (.tuple #[.string (bs (first b.data.toList).1), .int .i64 (first b.data.toList).2]) ∧ Below w.heap.size w w' := by
  obtain ⟨l, hl⟩ : ∃ l, l = b.data.toList := ⟨_, rfl⟩
  have hsz : l.length = b.size := by rw [hl]; simp
  rw [← hl]
  by_cases h8 : b.size < 8
  · have e : first l = ([], 70) := by unfold first; rw [if_pos (by omega)]
    rw [e]
    exact few b w h8
  · have hM : b.size ≤ maxLen := hm
    unfold maxLen at hm
    have s4 : (b.extract 0 4).size = 4 := by rw [ByteArray.size_extract]; omega
    have l4 : (b.extract 0 4).data.toList = l.take 4 := by rw [ex_list, hl]; rfl
    have l8 : (b.extract 4 8).toList = (l.take 8).drop 4 := by rw [ByteArray.toList_eq, ex_list, hl]
    have HG := get_at (b.extract 0 4) (num l) s4 (by rw [l4]; rfl)
    have HC := sum_at (b.extract 0 4) (bs (sum4 (l.take 4))) (by rw [l4]) (by rw [s4]; decide)
    have lS : (bs (sum4 (l.take 4))).toList = sum4 (l.take 4) := by rw [ByteArray.toList_eq]; rfl
    have hn32 : num l < 4294967296 := by
      have := getL_lt (l.take 4)
      have e4 : (l.take 4).length = 4 := by rw [List.length_take]; omega
      rw [e4] at this
      exact this
    by_cases h1 : sum4 (l.take 4) = (l.take 8).drop 4
    · have hne : ((bs (sum4 (l.take 4))).toList == (b.extract 4 8).toList) = true := by rw [lS, l8]; exact beq_iff_eq.2 h1
      by_cases h2 : 4194304 < num l
      · have e : first l = ([], 71) := by unfold first; rw [if_neg (by omega), if_neg (fun x => x h1), if_pos h2]
        rw [e]
        exact bad_long b _ _ w (by omega) hM HG HC hne h2 hn32
      · by_cases h3 : b.size < 12 + num l
        · have e : first l = ([], 70) := by unfold first; rw [if_neg (by omega), if_neg (fun x => x h1), if_neg h2, if_pos (by omega)]
          rw [e]
          exact torn b _ _ w (by omega) hM HG HC hne (by omega) h3
        · have lt : (b.extract 12 (12 + num l)).data.toList = (l.take (12 + num l)).drop 12 := by rw [ex_list, hl]
          have lt2 : (b.extract 8 12).toList = (l.take 12).drop 8 := by rw [ByteArray.toList_eq, ex_list, hl]
          have st : (b.extract 12 (12 + num l)).size ≤ maxLen := by rw [ByteArray.size_extract]; unfold maxLen; omega
          have HT := sum_at (b.extract 12 (12 + num l)) (bs (sum4 ((l.take (12 + num l)).drop 12))) (by rw [lt]) st
          have lT : (bs (sum4 ((l.take (12 + num l)).drop 12))).toList = sum4 ((l.take (12 + num l)).drop 12) := by rw [ByteArray.toList_eq]; rfl
          by_cases h4 : sum4 ((l.take (12 + num l)).drop 12) = (l.take 12).drop 8
          · have e : first l = ((l.take (12 + num l)).drop 12, 0) := by unfold first; rw [if_neg (by omega), if_neg (fun x => x h1), if_neg h2, if_neg (by omega), if_neg (fun x => x h4)]
            rw [e, ← lt]
            exact ok b _ _ w (by omega) hM HG HC _ HT hne (by omega) (by omega) (by rw [lT, lt2]; exact beq_iff_eq.2 h4)
          · have e : first l = ([], 71) := by unfold first; rw [if_neg (by omega), if_neg (fun x => x h1), if_neg h2, if_neg (by omega), if_pos h4]
            rw [e]
            exact bad_text b _ _ w (by omega) hM HG HC _ HT hne (by omega) (by omega) (by rw [lT, lt2]; exact beq_eq_false_iff_ne.2 h4)
    · have hne : ((bs (sum4 (l.take 4))).toList == (b.extract 4 8).toList) = false := by rw [lS, l8]; exact beq_eq_false_iff_ne.2 h1
      have e : first l = ([], 71) := by unfold first; rw [if_neg (by omega), if_pos h1]
      rw [e]
      exact bad_count b _ _ w (by omega) hM HG HC hne
end Go.Proofs.YtaoneiicoaiehaaGreat.Ff7
namespace Go.Proofs.YtaoneiicoaiehaaGreat.Ft7
set_option maxRecDepth 100000
open Go Go.RowKit Go.Shelf Go.Proofs Go.Proofs.YtaoneiicoaiehaaGreat.Wm Go.Proofs.YtaoneiicoaiehaaGreat.Fl7 Go.Proofs.YtaoneiicoaiehaaGreat.Sh7
attribute [local go_sem] Oper.semAt_some
theorem grown_of_below {w w' : World} (h : Below w.heap.size w w') : w.grownBy w' none := ⟨h.os, h.tape, h.output, h.size, fun k hk _ => h.block k hk⟩
theorem bs_drop (l : List UInt8) (n : Nat) : (bs l).extract n l.length = bs (l.drop n) := by
  have h : ((bs l).extract n l.length).data.toList = l.drop n := by
    rw [Ff7.ex_list, bs_list, List.take_length]
  rw [← bs_of ((bs l).extract n l.length), h]
/-- What is handed over: a text and why; the text is no longer than one may be. -/
abbrev El := { x : List UInt8 × Nat // x.1.length ≤ 4194304 }
def raw (l : List El) : List (List UInt8 × Nat) := l.map (·.1)
theorem raw_snoc (l : List El) (x : El) : raw (l ++ [x]) = raw l ++ [x.1] := by simp [raw]
theorem raw_len (l : List El) : (raw l).length = l.length := List.length_map ..
/-- What is handed over, as it is handed over. -/
def encs (x : El) : Array Value := #[.string (bs x.1.1), .int .i64 (x.1.2 : Int)]
/-- texts(b): b is boxed, the function value has the box. -/
theorem texts_any (n : Nat) (b : ByteArray) (w : World) :
    CallsIn Fence.wide n Tryz.prog 90 #[.string b] w fun e w' => e = .returned (.func (.func 114) #[] #[.pointer (some ⟨w.heap.size, 0, none⟩)]) ∧ w' = w.alloc (.cells #[.string b] 9) := by
  refine callsIn_of_wp Tryz.func90 rfl trivial ?_ rfl
  simp only [Tryz.ntmps90, List.size_toArray, List.length_cons, List.length_nil, Nat.reduceAdd, Nat.reduceSub, Array.replicate_succ, Array.replicate_zero, List.push_toArray, List.append_toArray, List.nil_append, List.cons_append]
  gi_wp2
  go_ret
  exact ⟨rfl, rfl⟩
set_option maxRecDepth 100000 in
set_option maxHeartbeats 2000000 in
theorem texts1_in (n : Nat) (hn : 1 ≤ n) (l Bn : Nat) (b : ByteArray) (hb : b.size ≤ maxLen) (J Jx : List El → World → Prop) (B : Nat) (hJ : AbidesFrom B J)
    (hY : ∀ pre x W, J pre W → pre.length < (seq b.data.toList).length → YieldAt Fence.wide (n - 1) Tryz.prog l (encs x) W fun e W' =>
      (e = .returned (.bool true) ∧ J (pre ++ [x]) W' ∧ True) ∨ (e = .returned (.bool false) ∧ Jx (pre ++ [x]) W'))
    (W : World) (hBn : W.cell? ⟨Bn, 0, none⟩ = some (.string b)) (h0 : J [] W) :
    CallsIn Fence.wide n Tryz.prog 114 #[.func (.yield l) #[] #[], .pointer (some ⟨Bn, 0, none⟩)] W fun e W' => (∃ v, e = .returned v) ∧
      ((∃ ys, raw ys = seq b.data.toList ∧ J ys W') ∨ (∃ pre, raw pre <+: seq b.data.toList ∧ Jx pre W')) := by
  refine callsIn_of_wp Tryz.func114 rfl trivial ?_ rfl
  simp only [Tryz.ntmps114, List.size_toArray, List.length_cons, List.length_nil, Nat.reduceAdd, Nat.reduceSub, Array.replicate_succ, Array.replicate_zero, List.push_toArray, List.append_toArray, List.nil_append, List.cons_append]
  gi_wp2
  gi_loopw [3, 4, 5] (fun p _ _ wr => ∃ (pre : List El) (r : List UInt8), p = .string (bs r) ∧ Hid (seq b.data.toList = raw pre ++ seq r) ∧ r.length ≤ b.size ∧ J pre wr)
    (fun p _ _ _ => match p with | .string s => s.size | _ => 0)
  case atStart =>
    exact ⟨[], b.data.toList, rfl, Lib.hid rfl, by simp, h0⟩
  case round =>
    obtain ⟨pre, r, rfl, hx, hl, hJs⟩ := hrel
    by_cases hr : r = []
    · subst hr
      have hz : (bs []).toList.isEmpty = true := by rw [ByteArray.toList_eq]; rfl
      have hfin : seq b.data.toList = raw pre := by rw [hx.out, seq_nil, List.append_nil]
      have HF := Lib.hid hfin
      clear hfin hx
      gi_wp2
      go_end0
      exact ⟨⟨_, rfl⟩, .inl ⟨pre, HF.out.symm, hJs⟩⟩
    · have hz : (bs r).toList.isEmpty = false := by
        rw [ByteArray.toList_eq, bs_list]
        cases r with
        | nil => exact absurd rfl hr
        | cons a t => rfl
      have hrl : (bs r).size = r.length := rfl
      have hf := Ff7.first_any (bs r) wr (by rw [hrl]; exact Nat.le_trans hl hb)
      rw [bs_list] at hf
      obtain ⟨t, ht⟩ : ∃ t, t = (first r).1 := ⟨_, rfl⟩
      obtain ⟨e0, he⟩ : ∃ e0, e0 = (first r).2 := ⟨_, rfl⟩
      rw [← ht, ← he] at hf
      have hfr : first r = (t, e0) := by rw [ht, he]
      have hlit : ((t, e0) : List UInt8 × Nat).1.length ≤ 4194304 := by show t.length ≤ _; rw [ht]; exact first_little r
      have HFR := Lib.hid hfr
      have HF := Lib.hid hf
      have hpl : pre.length < (seq b.data.toList).length := by
        rw [hx.out, List.length_append, raw_len]
        by_cases h0 : e0 = 0
        · rw [h0] at hfr; rw [seq_ok hr hfr]; simp
        · rw [seq_why hr hfr h0]; simp
      have HPL := Lib.hid hpl
      have HR := Lib.hid hr
      clear ht he hfr hf hpl hr
      gi_wp2_with (refine ⟨trivial, ?_⟩; gi_at_call 115; refine (callsIn_wide.2 HF.out).mono ?_; rintro e w1 ⟨rfl, hb1⟩)
      have hJ1 : J pre w1 := hJ pre wr w1 none hJs (grown_of_below hb1) (fun r h => by cases h)
      obtain ⟨fn, tmps, assign, body, hy, hR⟩ := hY pre ⟨(t, e0), hlit⟩ w1 hJ1 HPL.out
      dsimp only [encs] at hy
      clear hb1 hJs hJ1
      gi_wp2
      rw [hy]
      gi_wp2
      refine hR.mono ?_
      rintro e W3 (⟨rfl, hJ3, _⟩ | ⟨rfl, hJx3⟩)
      · by_cases h0 : e0 = 0
        · subst h0
          have hsq := seq_ok HR.out HFR.out
          have hfl := first_len r t HFR.out
          have hsm := first_small r t HFR.out
          obtain ⟨M, hM⟩ : ∃ M, M = 12 + t.length := ⟨_, rfl⟩
          have hz1 : 12 + (t.length : Int) ≤ (r.length : Int) := by omega
          have hMr : M ≤ r.length := by omega
          rw [← hM] at hsq
          have hx2 : seq b.data.toList = raw (pre ++ [⟨(t, 0), hlit⟩]) ++ seq (r.drop M) := by rw [hx.out, hsq, raw_snoc, List.append_assoc]; rfl
          have HX := Lib.hid hx2
          have hts : (bs t).size = t.length := rfl
          have hex : (bs r).extract M r.length = bs (r.drop M) := bs_drop r _
          have HM := Lib.hid hM
          clear hsq hx2 hfl hM hsm
          gi_wp2
          rw [show (bs r).extract (12 + t.length) r.length = bs (r.drop M) from by rw [← HM.out]; exact hex]
          refine ⟨⟨pre ++ [⟨(t, 0), hlit⟩], r.drop M, rfl, HX, by rw [List.length_drop]; omega, hJ3⟩, ?_⟩
          show (r.drop M).length < r.length
          rw [List.length_drop]
          have := HM.out
          omega
        · have hne : (((e0 : Nat) : Int) != 0) = true := by simpa using h0
          have hfin : seq b.data.toList = raw (pre ++ [⟨(t, e0), hlit⟩]) := by rw [hx.out, seq_why HR.out HFR.out h0, raw_snoc]
          have HFN := Lib.hid hfin
          clear hfin hx
          gi_wp2
          refine bodyPost_ret (results_none rfl _ _ _) rfl ?_
          exact ⟨⟨_, rfl⟩, .inl ⟨pre ++ [⟨(t, e0), hlit⟩], HFN.out.symm, hJ3⟩⟩
      · have hpre : raw (pre ++ [⟨(t, e0), hlit⟩]) <+: seq b.data.toList := by
          rw [hx.out, raw_snoc]
          by_cases h0 : e0 = 0
          · subst h0
            rw [seq_ok HR.out HFR.out]
            exact ⟨seq (r.drop (12 + t.length)), by rw [List.append_assoc]; rfl⟩
          · rw [seq_why HR.out HFR.out h0]
            exact List.prefix_refl _
        have HP := Lib.hid hpre
        clear hpre hx
        gi_wp2
        refine bodyPost_ret (results_none rfl _ _ _) rfl ?_
        exact ⟨⟨_, rfl⟩, .inr ⟨pre ++ [⟨(t, e0), hlit⟩], HP.out, hJx3⟩⟩
/-- What texts hands back, as the law of a range over a function asks for it. -/
theorem texts_stops (n : Nat) (hn : 1 ≤ n) (Bn : Nat) (b : ByteArray) (hb : b.size ≤ maxLen) (w : World) (hBn : Bn < w.heap.size) (hc : w.cell? ⟨Bn, 0, none⟩ = some (.string b)) :
    SeqStopsK Fence.wide n Tryz.prog 114 #[.pointer (some ⟨Bn, 0, none⟩)] encs (fun _ _ => True) (fun ys => raw ys = seq b.data.toList) (fun pre => raw pre <+: seq b.data.toList) (seq b.data.toList).length w := fun l J Jx W hW hJ _ hY h0 =>
  texts1_in n hn l Bn b hb J Jx W.heap.size hJ hY W ((hW.cell (p := ⟨Bn, 0, none⟩) hBn).trans hc) h0
end Go.Proofs.YtaoneiicoaiehaaGreat.Ft7
namespace Go.Proofs.YtaoneiicoaiehaaGreat.Fs7
set_option maxRecDepth 100000
open Go Go.RowKit Go.Shelf Go.Proofs Go.Proofs.YtaoneiicoaiehaaGreat.Wm Go.Proofs.YtaoneiicoaiehaaGreat.Fl7 Go.Proofs.YtaoneiicoaiehaaGreat.Sh7 Go.Proofs.YtaoneiicoaiehaaGreat.Rs7 Go.Proofs.YtaoneiicoaiehaaGreat.Ft7
attribute [local go_sem] Oper.semAt_some
theorem infoS : (Tryz.prog.info? 9).map (fun i => (i.zero, i.size, i.bytes)) = some (some (.string ⟨#[]⟩), 1, 16) := by kernel_rfl
/-- Texts as cells. -/
def cellsS (L : List (List UInt8)) : List Value := L.map fun t => .string (bs t)
/-- What the three results hold, in boxes from block b0 on. -/
def Row (n0 b0 : Nat) (L : List (List UInt8)) (W : World) : Prop := ∃ v, Boxed W b0 72 v ∧ W.ownsRow n0 9 1 v L.length (cellsS L) ∧ True
theorem row_shape {W : World} {n0 : Nat} {v : Value} {L : List (List UInt8)} (h : W.ownsRow n0 9 1 v L.length (cellsS L)) : ∃ A c, v = .slice A L.length c := by
  rcases h.2 with ⟨hv, h0⟩ | ⟨g, cap, cur, hv, _⟩
  · exact ⟨none, 0, by rw [hv, h0]⟩
  · exact ⟨_, _, hv⟩
theorem row_own (n0 b0 : Nat) : Own (fun (pre : List El) W => Row n0 b0 (tell (raw pre)).1 W) := holdsRow_own n0 b0 72 9 1 (fun pre => (tell (raw pre)).1.length) (fun pre => cellsS (tell (raw pre)).1) (fun _ _ => True)
theorem own_keep {W W' : World} {n0 : Nat} {v : Value} {k : Nat} {xs : List Value} (h : W.ownsRow n0 9 1 v k xs) (hb : Below W.heap.size W W') : W'.ownsRow n0 9 1 v k xs :=
  h.kept (grown_of_below hb) (by cases v.ownBlock <;> simp)
theorem box_keep {W W' : World} {B : Nat} {t : TypeId} {v : Value} (h : Boxed W B t v) (hb : Below W.heap.size W W') : Boxed W' B t v := h.kept (grown_of_below hb) (by simp)
theorem own_set {W : World} {n0 B : Nat} {t : TypeId} {u v : Value} {k : Nat} {xs : List Value} (hb : Boxed W B t u) (hte : t ≠ 9) (h : W.ownsRow n0 9 1 v k xs) (u' : Value) : (W.setCell ⟨B, 0, none⟩ u').ownsRow n0 9 1 v k xs :=
  h.kept (grownBy_setCell' W B u') (.inr fun e => hb.not_row hte h e.symm)
theorem oks_bound : ∀ (pre : List El) (L : List (List UInt8)), raw pre = oks L → L.length = pre.length ∧ size L ≤ pre.length * 4194316
  | [], L, h => by
    cases L with
    | nil => exact ⟨rfl, by simp [size]⟩
    | cons a L => simp [raw, oks] at h
  | ⟨x, hx⟩ :: pre, L, h => by
    cases L with
    | nil => simp [raw, oks] at h
    | cons a L =>
      have h2 : x = (a, 0) ∧ raw pre = oks L := by simpa [raw, oks] using h
      obtain ⟨h3, h4⟩ := oks_bound pre L h2.2
      rw [h2.1] at hx
      simp only [size, List.length_cons]
      dsimp only at hx
      exact ⟨by omega, by omega⟩
theorem own_shape {w : World} {B e s : Nat} {v : Value} {n : Nat} {xs : List Value} (h : w.ownsRow B e s v n xs) :
    ∃ ao cap, v = .slice ao n cap ∧ (0 < n → ∃ g, ao = some ⟨g, 0, none⟩ ∧ v.ownBlock = some g) := by
  rcases h.2 with ⟨rfl, rfl⟩ | ⟨g, cap, cur, rfl, _, _, _, _, _, _⟩
  · exact ⟨none, 0, rfl, fun h => absurd h (by omega)⟩
  · exact ⟨some ⟨g, 0, none⟩, cap, rfl, fun _ => ⟨g, rfl, rfl⟩⟩
theorem own_cell {w : World} {B e s : Nat} {v : Value} {n : Nat} {xs : List Value} (h : w.ownsRow B e s v n xs) {g : Nat} (hg : v.ownBlock = some g) (j : Nat) (u : Value) (hj : xs[j]? = some u) : w.cell? ⟨g, j, none⟩ = some u := by
  have := h.cells hg j u hj
  rwa [show (⟨g, 0, none⟩ : Addr).add j = ⟨g, j, none⟩ by unfold Addr.add; split <;> simp_all] at this
theorem rds_of_own {W : World} {n0 : Nat} {A : Option Addr} {n c : Nat} {L : List (List UInt8)} (h : W.ownsRow n0 9 1 (.slice A n c) L.length (cellsS L)) : Rds W A (L.map bs) := fun hne => by
  have hl : 0 < L.length := by
    cases L with
    | nil => exact absurd rfl hne
    | cons a L => simp
  rcases h.2 with ⟨hv, h0⟩ | ⟨g, cap, cur, hv, hb, hg, hrest⟩
  · omega
  · have hA : A = some ⟨g, 0, none⟩ := by injection hv
    refine ⟨g, 0, hA, (Array.getElem?_eq_some_iff.1 hg).1, fun k hk => ?_⟩
    rw [List.length_map] at hk
    have h1 : (cellsS L)[k]? = some (.string (L.map bs)[k]) := by
      simp [cellsS, hk]
    rw [Nat.zero_add]
    exact own_cell h (by rw [hv]; rfl) k _ h1
def I1 (w : World) (pre : List El) (W : World) : Prop :=
  (∃ L, raw pre = oks L) ∧ Row w.heap.size w.heap.size (tell (raw pre)).1 W ∧ Boxed W (w.heap.size + 1) 3 (.int .i64 (((tell (raw pre)).2.1 : Nat) : Int)) ∧ Boxed W (w.heap.size + 1 + 1) 26 (.int .i64 0) ∧ Below w.heap.size w W
def Ix1 (w : World) (c : Code) (pre : List El) (W : World) : Prop :=
  (c = .ret ∧ ∃ L t e, raw pre = oks L ++ [(t, e)] ∧ e ≠ 0) ∧ Row w.heap.size w.heap.size (tell (raw pre)).1 W ∧ Boxed W (w.heap.size + 1) 3 (.int .i64 (((tell (raw pre)).2.1 : Nat) : Int)) ∧ Boxed W (w.heap.size + 1 + 1) 26 (.int .i64 (((tell (raw pre)).2.2 : Nat) : Int)) ∧ Below w.heap.size w W
theorem i1_own (w : World) (B : Nat) (hB : w.heap.size ≤ B) : OwnFrom B (I1 w) :=
  OwnFrom.and (ownFrom_pure B _) (OwnFrom.and (Own.from (row_own _ _) _) (OwnFrom.and (Own.from (boxed_own _ _ (fun pre : List El => .int .i64 (((tell (raw pre)).2.1 : Nat) : Int))) _) (OwnFrom.and (Own.from (boxed_own _ _ (fun _ : List El => .int .i64 0)) _) (ownFrom_below (Nat.le_refl _) hB))))
theorem ix1_own (w : World) (c : Code) (B : Nat) (hB : w.heap.size ≤ B) : OwnFrom B (Ix1 w c) :=
  OwnFrom.and (ownFrom_pure B _) (OwnFrom.and (Own.from (row_own _ _) _) (OwnFrom.and (Own.from (boxed_own _ _ (fun pre : List El => .int .i64 (((tell (raw pre)).2.1 : Nat) : Int))) _) (OwnFrom.and (Own.from (boxed_own _ _ (fun pre : List El => .int .i64 (((tell (raw pre)).2.2 : Nat) : Int))) _) (ownFrom_below (Nat.le_refl _) hB))))
theorem appended_all {w W w1 w2 : World} {b0 b1 b2 : Nat} {A : Option Addr} {c : Nat} {L : List (List UInt8)} {t : List UInt8} {x y v2 : Value}
    (hv : Boxed W b0 72 (.slice A L.length c)) (hown : W.ownsRow w.heap.size 9 1 (.slice A L.length c) L.length (cellsS L)) (h1 : Boxed W b1 3 x) (h2 : Boxed W b2 26 y)
    (hn : w.heap.size ≤ W.heap.size) (hb : w.heap.size ≤ b0) (HB1 : Below W.heap.size W w1)
    (own2 : w2.ownsRow w.heap.size 9 1 v2 (L.length + 1) (cellsS L ++ [.string (bs t)])) (hgrow : (w1.alloc (.cells #[.string (bs t)] 9)).grownBy w2 (Value.slice A L.length c).ownBlock) :
    Boxed w2 b0 72 (.slice A L.length c) ∧ Boxed (w2.setCell ⟨b0, 0, none⟩ v2) b0 72 v2 ∧ (w2.setCell ⟨b0, 0, none⟩ v2).ownsRow w.heap.size 9 1 v2 (L.length + 1) (cellsS L ++ [.string (bs t)]) ∧
      Boxed (w2.setCell ⟨b0, 0, none⟩ v2) b1 3 x ∧ Boxed (w2.setCell ⟨b0, 0, none⟩ v2) b2 26 y ∧ KeepsOthers W (w2.setCell ⟨b0, 0, none⟩ v2) ∧ Below w.heap.size W (w2.setCell ⟨b0, 0, none⟩ v2) := by
  have hv1 := box_keep hv HB1
  have own1 := own_keep hown HB1
  have h11 := box_keep h1 HB1
  have h21 := box_keep h2 HB1
  have hs := HB1.size
  obtain ⟨k1, k2, k3, k4, k5⟩ := hv1.appended (by decide) own1 (by omega) hb own2 hgrow
  have n1 : b1 ≠ b0 := fun e => by
    have a : W.heap[b0]? = _ := hv
    have b : W.heap[b1]? = _ := h1
    rw [e, a] at b; cases b
  have n2 : b2 ≠ b0 := fun e => by
    have a : W.heap[b0]? = _ := hv
    have b : W.heap[b2]? = _ := h2
    rw [e, a] at b; cases b
  have h12 : Boxed w2 b1 3 x := (h11.alloc _).kept hgrow (h11.not_row (by decide) own1)
  have h22 : Boxed w2 b2 26 y := (h21.alloc _).kept hgrow (h21.not_row (by decide) own1)
  exact ⟨k1, k2, k3, h12.other n1 _, h22.other n2 _, (KeepsOthers.of_grownBy (grown_of_below HB1) (fun _ _ h _ => by cases h)).trans k4, (HB1.mono hn).trans k5⟩
theorem step_append {F : Fence} {n : Nat} {P : Program} {o : Oper} {a : Act} {w w2 : World} {T : Nat → Option Bool} {K : Act → World → Prop} {Q : Exit → Act → World → Prop} {E : Prop}
    (hg : o.guard = none) (s x : Operand) (t : TypeId) (ho : o.op = .call { callee := .builtin .append, args := #[s, x], argTypes := #[t, t] }) (v v2 y : Value) (hs : a.eval s = v) (hx : a.eval x = y)
    (hrun : (Builtin.append_ #[t, t] o.type #[v, y]).run P w = .ok v2 w2) (hK : K (a.put o.dst v2) w2) : if Region.wanted o T = true then Oper.wpIn F n P o a w K Q else E := by
  rw [if_pos (by simp [Region.wanted, hg])]
  unfold Oper.wpIn
  refine ⟨by simp [Oper.about, ho, resolve, Target.leads, Sem.run_pure], ?_⟩
  rw [Oper.semAt_plain F _ _ (by rw [ho]; intro c hc'; cases hc')]
  simp [execOp, ho, resolve, invoke, builtin, hs, hx, hrun, Result.andThen]
  exact hK
theorem box_ne {W : World} {b b' : Nat} {t t' : TypeId} {x y : Value} (h : Boxed W b t x) (h' : Boxed W b' t' y) (ht : t ≠ t') : b ≠ b' := fun e => by
  have a : W.heap[b]? = _ := h
  have c : W.heap[b']? = _ := h'
  rw [e, c] at a
  have d := Option.some.inj a
  simp only [Obj.cells.injEq] at d
  exact ht d.2.1.symm
/-- A round that goes on. -/
theorem body_ok {w W w3 : World} {pre : List El} {L : List (List UInt8)} {t : List UInt8} {ht : ((t, 0) : List UInt8 × Nat).1.length ≤ 4194304} {v2 : Value} {a : Act} {B : Nat} (hL : raw pre = oks L) (hB : Below w.heap.size w W)
    (k2 : Boxed w3 w.heap.size 72 v2) (k3 : w3.ownsRow w.heap.size 9 1 v2 (L.length + 1) (cellsS L ++ [.string (bs t)]))
    (k4 : Boxed w3 (w.heap.size + 1) 3 (.int .i64 ((size L : Nat) : Int))) (k5 : Boxed w3 (w.heap.size + 1 + 1) 26 (.int .i64 0)) (k6 : KeepsOthers W w3) (k7 : Below w.heap.size W w3) :
    ownPostG B (fun _ _ => True) (I1 w) (Ix1 w) (pre ++ [⟨(t, 0), ht⟩]) W .normal a (w3.setCell ⟨w.heap.size + 1, 0, none⟩ (.int .i64 (((size L : Nat) : Int) + (12 + ((bs t).size : Int))))) := by
  have e : raw (pre ++ [⟨(t, 0), ht⟩]) = oks (L ++ [t]) := by rw [raw_snoc, hL, oks_snoc]
  refine ⟨(k6.trans (KeepsOthers.setCell _ _ _)).from _, trivial, ⟨L ++ [t], e⟩, ?_, ?_, ?_, ?_⟩
  · rw [e, tell_done]
    refine ⟨v2, k2.other (box_ne k2 k4 (by decide)) _, ?_, trivial⟩
    have h := own_set k4 (by decide) k3 (.int .i64 (((size L : Nat) : Int) + (12 + ((bs t).size : Int))))
    have e1 : (L ++ [t]).length = L.length + 1 := by simp
    have e2 : cellsS (L ++ [t]) = cellsS L ++ [.string (bs t)] := by simp [cellsS]
    rw [e1, e2]
    exact h
  · rw [e, tell_done]
    have h := k4.set (.int .i64 (((size L : Nat) : Int) + (12 + ((bs t).size : Int))))
    have e1 : ((size (L ++ [t]) : Nat) : Int) = ((size L : Nat) : Int) + (12 + ((bs t).size : Int)) := by
      rw [size_append, bs_size]; simp only [size]; omega
    dsimp only
    rw [e1]
    exact h
  · exact k5.other (box_ne k5 k4 (by decide)) _
  · exact (hB.trans k7).setCell (p := ⟨w.heap.size + 1, 0, none⟩) (by simp) _
/-- A round that leaves. -/
theorem left_ok {w W : World} {pre : List El} {L : List (List UInt8)} {t : List UInt8} {e : Nat} {ht : ((t, e) : List UInt8 × Nat).1.length ≤ 4194304} {v : Value} {a : Act} {B : Nat} (hL : raw pre = oks L) (he : e ≠ 0) (hB : Below w.heap.size w W)
    (hv : Boxed W w.heap.size 72 v) (hown : W.ownsRow w.heap.size 9 1 v L.length (cellsS L))
    (h1 : Boxed W (w.heap.size + 1) 3 (.int .i64 ((size L : Nat) : Int))) (h2 : Boxed W (w.heap.size + 1 + 1) 26 (.int .i64 0)) :
    ownPostG B (fun _ _ => True) (I1 w) (Ix1 w) (pre ++ [⟨(t, e), ht⟩]) W .ret a (((W.setCell ⟨w.heap.size, 0, none⟩ v).setCell ⟨w.heap.size + 1, 0, none⟩ (.int .i64 ((size L : Nat) : Int))).setCell ⟨w.heap.size + 1 + 1, 0, none⟩ (.int .i64 (e : Int))).drew := by
  have er : raw (pre ++ [⟨(t, e), ht⟩]) = oks L ++ [(t, e)] := by rw [raw_snoc, hL]
  have et := tell_why L t e he []
  have n01 := box_ne hv h1 (by decide)
  have n02 := box_ne hv h2 (by decide)
  have n12 := box_ne h1 h2 (by decide)
  have a0 := hv.set v
  have a1 := h1.other n01.symm v
  have a2 := h2.other n02.symm v
  have ao := own_set hv (by decide) hown v
  have b0 := a0.other n01 (.int .i64 ((size L : Nat) : Int))
  have b1 := a1.set (.int .i64 ((size L : Nat) : Int))
  have b2 := a2.other n12.symm (.int .i64 ((size L : Nat) : Int))
  have bo := own_set a1 (by decide) ao (.int .i64 ((size L : Nat) : Int))
  have c0 := b0.other n02 (.int .i64 (e : Int))
  have c1 := b1.other n12 (.int .i64 (e : Int))
  have c2 := b2.set (.int .i64 (e : Int))
  have co := own_set b2 (by decide) bo (.int .i64 (e : Int))
  refine ⟨((((KeepsOthers.setCell W _ _).trans (KeepsOthers.setCell _ _ _)).trans (KeepsOthers.setCell _ _ _)).trans (KeepsOthers.drew _)).from _, ⟨rfl, L, t, e, er, he⟩, ?_, ?_, ?_, ?_⟩
  · rw [er, et]
    exact ⟨v, c0, co, trivial⟩
  · rw [er, et]
    exact c1
  · rw [er, et]
    exact c2
  · exact (((hB.setCell (p := ⟨w.heap.size, 0, none⟩) (Nat.le_refl _) _).setCell (p := ⟨w.heap.size + 1, 0, none⟩) (by simp) _).setCell (p := ⟨w.heap.size + 1 + 1, 0, none⟩) (by show _ ≤ w.heap.size + 1 + 1; omega) _).drew
/-- Scan's answer: texts, their frames' bytes, and why it ended. -/
def Told (w : World) (T : List (List UInt8) × Nat × Nat) (e : Ending) (w' : World) : Prop :=
  ∃ A c, e = .returned (.tuple #[.slice A T.1.length c, .int .i64 ((T.2.1 : Nat) : Int), .int .i64 ((T.2.2 : Nat) : Int)]) ∧ w'.ownsRow w.heap.size 9 1 (.slice A T.1.length c) T.1.length (cellsS T.1) ∧ Below w.heap.size w w'
theorem told_end {w W : World} {D : Nat} {L : List (List UInt8)} {n e : Nat} {A : Option Addr} {c : Nat} {T : Array Value} (hv : Boxed W w.heap.size 72 (.slice A L.length c)) (hown : W.ownsRow w.heap.size 9 1 (.slice A L.length c) L.length (cellsS L))
    (h1 : Boxed W (w.heap.size + 1) 3 (.int .i64 (n : Int))) (h2 : Boxed W (w.heap.size + 1 + 1) 26 (.int .i64 (e : Int))) (hB : Below w.heap.size w W) (hK : W.heap[D]? = some (.deferred (some []))) (hD : w.heap.size ≤ D)
    (t2 : T[2]? = some (.pointer (some ⟨w.heap.size, 0, none⟩))) (t3 : T[3]? = some (.pointer (some ⟨w.heap.size + 1, 0, none⟩))) (t4 : T[4]? = some (.pointer (some ⟨w.heap.size + 1 + 1, 0, none⟩)) ) :
    bodyPostM Fence.wide 6 Tryz.prog Tryz.f65 (Told w (L, n, e)) .ret { tmps := T, defers := [{ target := Target.collected D, args := #[] }] } W := by
  refine ⟨by simp, .inl ⟨_, _, rfl, run_takeDeferred hK, ?_⟩⟩
  have c0 := cell_kept hv.cell (grownBy_putObj' W D (.deferred none)) (fun r h => by cases h; exact ⟨_, hK, rfl⟩)
  have c1 := cell_kept h1.cell (grownBy_putObj' W D (.deferred none)) (fun r h => by cases h; exact ⟨_, hK, rfl⟩)
  have c2 := cell_kept h2.cell (grownBy_putObj' W D (.deferred none)) (fun r h => by cases h; exact ⟨_, hK, rfl⟩)
  refine ⟨.tuple #[.slice A L.length c, .int .i64 (n : Int), .int .i64 (e : Int)], ?_, A, c, rfl, ownsRow_putObj hown _ hK rfl, hB.trans (belowK_b (w := w) (Nat.le_refl _) W D _ _ hD hK rfl rfl)⟩
  simp [results, Tryz.f65, go_sem, c0, c1, c2, t2, t3, t4]
set_option maxRecDepth 100000 in
set_option maxHeartbeats 4000000 in
theorem scanIn (b : ByteArray) (w : World) (hb : b.size ≤ 4294967296) :
    CallsIn Fence.wide 6 Tryz.prog 65 #[.string b] w (Told w (scan b.data.toList)) := by
  obtain ⟨i0, hi, hz0, hz1, hz2⟩ := info_parts infoS
  refine callsIn_of_wp_marks Tryz.func65 rfl trivial ?_ rfl
  simp only [Tryz.ntmps65, List.size_toArray, List.length_cons, List.length_nil, Nat.reduceAdd, Nat.reduceSub, Array.replicate_succ, Array.replicate_zero, List.push_toArray, List.append_toArray, List.nil_append, List.cons_append]
  gi_wp2_with (refine ⟨trivial, ?_⟩; gi_at_call 90; refine (texts_any _ b _).mono ?_; rintro e w' ⟨rfl, rfl⟩)
  have bB := Boxed.new (((w.alloc (.cells #[.slice none 0 0] 72)).alloc (.cells #[.int .i64 0] 3)).alloc (.cells #[.int .i64 0] 26)) 9 (.string b)
  have b0 := (((Boxed.new w 72 (.slice none 0 0)).alloc (.cells #[.int .i64 0] 3)).alloc (.cells #[.int .i64 0] 26)).alloc (.cells #[.string b] 9)
  have b1 := ((Boxed.new (w.alloc (.cells #[.slice none 0 0] 72)) 3 (.int .i64 0)).alloc (.cells #[.int .i64 0] 26)).alloc (.cells #[.string b] 9)
  have b2 := (Boxed.new ((w.alloc (.cells #[.slice none 0 0] 72)).alloc (.cells #[.int .i64 0] 3)) 26 (.int .i64 0)).alloc (.cells #[.string b] 9)
  simp only [World.size_alloc] at bB b1 b2
  have hB0 : Below w.heap.size w ((((w.alloc (.cells #[.slice none 0 0] 72)).alloc (.cells #[.int .i64 0] 3)).alloc (.cells #[.int .i64 0] 26)).alloc (.cells #[.string b] 9)) :=
    (((((Below.refl w.heap.size w).alloc (Nat.le_refl _) _).alloc (by simp) _).alloc (by simp; omega) _)).alloc (by simp; omega) _
  obtain ⟨W0, hW0⟩ : ∃ W0, ((((w.alloc (.cells #[.slice none 0 0] 72)).alloc (.cells #[.int .i64 0] 3)).alloc (.cells #[.int .i64 0] 26)).alloc (.cells #[.string b] 9)) = W0 := ⟨_, rfl⟩
  have hs0 : W0.heap.size = w.heap.size + 4 := by rw [← hW0]; simp
  rw [hW0] at bB b0 b1 b2 hB0 ⊢
  clear hW0
  refine wpIn_rangeFunc_ownG rfl (by omega) (gf := 114) (lb := #[.pointer (some ⟨w.heap.size + 1 + 1 + 1, 0, none⟩)]) rfl trivial (enters_of Tryz.func114 (by kernel_rfl) rfl)
    (texts_stops _ (by omega) (w.heap.size + 1 + 1 + 1) b (by unfold maxLen; omega) W0 (by omega) bB.cell) (fun _ _ => trivial) (fun _ _ _ _ _ _ _ _ => trivial) (Below.refl _ _) (fun _ => rfl)
    (I1 w) (Ix1 w) (i1_own w _ (by omega)) (fun c => ix1_own w c _ (by omega))
    ⟨⟨[], rfl⟩, ⟨_, b0, World.ownsRow_nil _ _ _ _, trivial⟩, b1, b2, hB0⟩
    (fun x => { tmps := #[.string b, undef, .pointer (some ⟨w.heap.size, 0, none⟩), .pointer (some ⟨w.heap.size + 1, 0, none⟩), .pointer (some ⟨w.heap.size + 1 + 1, 0, none⟩), .string (bs x.1.1), .int .i64 (x.1.2 : Int), .string b, .func (.func 114) #[] #[.pointer (some ⟨w.heap.size + 1 + 1 + 1, 0, none⟩)], .string (bs x.1.1), .int .i64 (x.1.2 : Int), undef, undef, undef, undef, undef, undef, undef, undef, undef, undef, undef, undef, undef, undef, undef, undef, undef], defers := [] }) ?assign ?body ?done ?stop
  case assign =>
    intro l x W K hK
    dsimp only [encs]
    gi_wp2
    exact hK
  case body =>
    rintro l pre ⟨⟨t, e⟩, ht⟩ W ⟨⟨L, hL⟩, hrow, h1, h2, hB⟩ hlt
    obtain ⟨hL1, hL2⟩ := oks_bound pre L hL
    have hsq := seq_len b.data.toList.length b.data.toList (Nat.le_refl _)
    have hbl : b.data.toList.length = b.size := by simp
    have hLn : L.length < 4294967296 := by omega
    have hLs : size L < 18014467228958720 := by omega
    rw [hL, tell_done] at hrow h1
    dsimp only at hrow h1 ht ⊢
    obtain ⟨v, hv, hown, _⟩ := hrow
    obtain ⟨A, c, rfl⟩ := row_shape hown
    have hc0 := hv.cell
    have hf0 := hv.frozen
    have hc1 := h1.cell
    have hf1 := h1.frozen
    have hc2 := h2.cell
    have hf2 := h2.frozen
    clear hlt hL1 hL2 hsq hbl
    have hcl : (bs t).size ≤ 281474976710656 := by rw [bs_size]; omega
    by_cases he : e = 0
    · subst he
      have hzE : bne (((0 : Nat) : Int)) 0 = false := rfl
      gi_wp2
      refine wpIn_region_any (by kernel_rfl) ?_
      change wpAnyIn _ _ _ _ _ _ _ _ _ (World.drew _)
      refine wpAnyIn_ready (rs := [0, 1]) (by kernel_rfl) (by simp) ?_
      refine AllReadyIn.cons rfl (fun K hK => ?_) ?_
      · skip
        go_simp
        refine hK _ _ ?_
        clear hK K
        refine wpAnyIn_ready (rs := [1]) (by kernel_rfl) (by simp) ?_
        refine AllReadyIn.cons rfl (fun K hK => ?_) ?_
        · skip
          go_simp
          refine hK _ _ ?_
          clear hK K
          refine wpAnyIn_ready (rs := [2]) (by kernel_rfl) (by simp) ?_
          refine AllReadyIn.cons rfl (fun K hK => ?_) ?_
          · skip
            go_simp
            refine ⟨trivial, CallsIn.inRound l ?_⟩
            refine (callsIn_wide.2 (clone_any (bs t) _ hcl)).mono ?_
            rintro ex w1 ⟨rfl, hb1⟩
            have HB1 : Below W.heap.size W w1 := ⟨hb1.os, hb1.tape, hb1.output, hb1.size, hb1.block⟩
            have hv1 := box_keep hv HB1
            have own1 := own_keep hown HB1
            have hc10 := hv1.cell
            clear hb1
            dsimp only
            refine hK _ _ ?_
            clear hK K
            refine wpAnyIn_ready (rs := [3]) (by kernel_rfl) (by simp) ?_
            refine AllReadyIn.cons rfl (fun K hK => ?_) ?_
            · skip
              go_simp
              have hv2 := hv1.alloc (.cells #[.string (bs t)] 9)
              have hc20 := hv2.cell
              refine hK _ _ ?_
              clear hK K
              refine wpAnyIn_ready (rs := [4]) (by kernel_rfl) (by simp) ?_
              refine AllReadyIn.cons rfl (fun K hK => ?_) ?_
              · skip
                obtain ⟨v2, w2, hrun, own2, hgrow, _⟩ := run_append_own (P := Tryz.prog) (w1.alloc (.cells #[.string (bs t)] 9)) w.heap.size 72 72 9 i0 (.string ⟨#[]⟩) 1 16 Tryz.underlying72 hi hz0 hz1 hz2 rfl (by decide) _ L.length (cellsS L) (own1.alloc _) ⟨w1.heap.size, 0, none⟩ 1 1 [.string (bs t)] rfl (cell_one_new _ _ _) (by simp [Value.oneCell']) (by unfold maxLen; omega) (by omega) (by have := hB.size; have := HB1.size; simp; omega)
                obtain ⟨g2, cap2, rfl⟩ := ownsRow_succ own2
                obtain ⟨k1, k2, k3, k4, k5, k6, k7⟩ := appended_all hv hown h1 h2 hB.size (Nat.le_refl _) HB1 own2 hgrow
                have hc3 := k1.cell
                have hf3 := k1.frozen
                refine step_append rfl _ _ _ rfl _ _ _ rfl rfl hrun ?_
                simp only [Act.put, List.setIfInBounds_toArray]
                refine hK _ _ ?_
                clear hK K
                refine wpAnyIn_ready (rs := [5]) (by kernel_rfl) (by simp) ?_
                refine AllReadyIn.cons rfl (fun K hK => ?_) ?_
                · skip
                  go_simp
                  generalize w2.setCell ⟨w.heap.size, 0, none⟩ (.slice (some ⟨g2, 0, none⟩) (L.length + 1) cap2) = w3 at k2 k3 k4 k5 k6 k7 ⊢
                  have hc31 := k4.cell
                  have hf31 := k4.frozen
                  refine hK _ _ ?_
                  clear hK K
                  refine wpAnyIn_done (by kernel_rfl) ?_ _
                  gi_wp2
                  exact body_ok hL hB k2 k3 k4 k5 k6 k7
                exact AllReadyIn.nil
              exact AllReadyIn.nil
            exact AllReadyIn.nil
          exact AllReadyIn.nil
        exact AllReadyIn.nil
      refine AllReadyIn.cons rfl (fun K hK => ?_) ?_
      · skip
        go_simp
        refine hK _ _ ?_
        clear hK K
        refine wpAnyIn_ready (rs := [0, 2]) (by kernel_rfl) (by simp) ?_
        refine AllReadyIn.cons rfl (fun K hK => ?_) ?_
        · skip
          go_simp
          refine hK _ _ ?_
          clear hK K
          refine wpAnyIn_ready (rs := [2]) (by kernel_rfl) (by simp) ?_
          refine AllReadyIn.cons rfl (fun K hK => ?_) ?_
          · skip
            go_simp
            refine ⟨trivial, CallsIn.inRound l ?_⟩
            refine (callsIn_wide.2 (clone_any (bs t) _ hcl)).mono ?_
            rintro ex w1 ⟨rfl, hb1⟩
            have HB1 : Below W.heap.size W w1 := ⟨hb1.os, hb1.tape, hb1.output, hb1.size, hb1.block⟩
            have hv1 := box_keep hv HB1
            have own1 := own_keep hown HB1
            have hc10 := hv1.cell
            clear hb1
            dsimp only
            refine hK _ _ ?_
            clear hK K
            refine wpAnyIn_ready (rs := [3]) (by kernel_rfl) (by simp) ?_
            refine AllReadyIn.cons rfl (fun K hK => ?_) ?_
            · skip
              go_simp
              have hv2 := hv1.alloc (.cells #[.string (bs t)] 9)
              have hc20 := hv2.cell
              refine hK _ _ ?_
              clear hK K
              refine wpAnyIn_ready (rs := [4]) (by kernel_rfl) (by simp) ?_
              refine AllReadyIn.cons rfl (fun K hK => ?_) ?_
              · skip
                obtain ⟨v2, w2, hrun, own2, hgrow, _⟩ := run_append_own (P := Tryz.prog) (w1.alloc (.cells #[.string (bs t)] 9)) w.heap.size 72 72 9 i0 (.string ⟨#[]⟩) 1 16 Tryz.underlying72 hi hz0 hz1 hz2 rfl (by decide) _ L.length (cellsS L) (own1.alloc _) ⟨w1.heap.size, 0, none⟩ 1 1 [.string (bs t)] rfl (cell_one_new _ _ _) (by simp [Value.oneCell']) (by unfold maxLen; omega) (by omega) (by have := hB.size; have := HB1.size; simp; omega)
                obtain ⟨g2, cap2, rfl⟩ := ownsRow_succ own2
                obtain ⟨k1, k2, k3, k4, k5, k6, k7⟩ := appended_all hv hown h1 h2 hB.size (Nat.le_refl _) HB1 own2 hgrow
                have hc3 := k1.cell
                have hf3 := k1.frozen
                refine step_append rfl _ _ _ rfl _ _ _ rfl rfl hrun ?_
                simp only [Act.put, List.setIfInBounds_toArray]
                refine hK _ _ ?_
                clear hK K
                refine wpAnyIn_ready (rs := [5]) (by kernel_rfl) (by simp) ?_
                refine AllReadyIn.cons rfl (fun K hK => ?_) ?_
                · skip
                  go_simp
                  generalize w2.setCell ⟨w.heap.size, 0, none⟩ (.slice (some ⟨g2, 0, none⟩) (L.length + 1) cap2) = w3 at k2 k3 k4 k5 k6 k7 ⊢
                  have hc31 := k4.cell
                  have hf31 := k4.frozen
                  refine hK _ _ ?_
                  clear hK K
                  refine wpAnyIn_done (by kernel_rfl) ?_ _
                  gi_wp2
                  exact body_ok hL hB k2 k3 k4 k5 k6 k7
                exact AllReadyIn.nil
              exact AllReadyIn.nil
            exact AllReadyIn.nil
          exact AllReadyIn.nil
        refine AllReadyIn.cons rfl (fun K hK => ?_) ?_
        · skip
          go_simp
          refine ⟨trivial, CallsIn.inRound l ?_⟩
          refine (callsIn_wide.2 (clone_any (bs t) _ hcl)).mono ?_
          rintro ex w1 ⟨rfl, hb1⟩
          have HB1 : Below W.heap.size W w1 := ⟨hb1.os, hb1.tape, hb1.output, hb1.size, hb1.block⟩
          have hv1 := box_keep hv HB1
          have own1 := own_keep hown HB1
          have hc10 := hv1.cell
          clear hb1
          dsimp only
          refine hK _ _ ?_
          clear hK K
          refine wpAnyIn_ready (rs := [0, 3]) (by kernel_rfl) (by simp) ?_
          refine AllReadyIn.cons rfl (fun K hK => ?_) ?_
          · skip
            go_simp
            refine hK _ _ ?_
            clear hK K
            refine wpAnyIn_ready (rs := [3]) (by kernel_rfl) (by simp) ?_
            refine AllReadyIn.cons rfl (fun K hK => ?_) ?_
            · skip
              go_simp
              have hv2 := hv1.alloc (.cells #[.string (bs t)] 9)
              have hc20 := hv2.cell
              refine hK _ _ ?_
              clear hK K
              refine wpAnyIn_ready (rs := [4]) (by kernel_rfl) (by simp) ?_
              refine AllReadyIn.cons rfl (fun K hK => ?_) ?_
              · skip
                obtain ⟨v2, w2, hrun, own2, hgrow, _⟩ := run_append_own (P := Tryz.prog) (w1.alloc (.cells #[.string (bs t)] 9)) w.heap.size 72 72 9 i0 (.string ⟨#[]⟩) 1 16 Tryz.underlying72 hi hz0 hz1 hz2 rfl (by decide) _ L.length (cellsS L) (own1.alloc _) ⟨w1.heap.size, 0, none⟩ 1 1 [.string (bs t)] rfl (cell_one_new _ _ _) (by simp [Value.oneCell']) (by unfold maxLen; omega) (by omega) (by have := hB.size; have := HB1.size; simp; omega)
                obtain ⟨g2, cap2, rfl⟩ := ownsRow_succ own2
                obtain ⟨k1, k2, k3, k4, k5, k6, k7⟩ := appended_all hv hown h1 h2 hB.size (Nat.le_refl _) HB1 own2 hgrow
                have hc3 := k1.cell
                have hf3 := k1.frozen
                refine step_append rfl _ _ _ rfl _ _ _ rfl rfl hrun ?_
                simp only [Act.put, List.setIfInBounds_toArray]
                refine hK _ _ ?_
                clear hK K
                refine wpAnyIn_ready (rs := [5]) (by kernel_rfl) (by simp) ?_
                refine AllReadyIn.cons rfl (fun K hK => ?_) ?_
                · skip
                  go_simp
                  generalize w2.setCell ⟨w.heap.size, 0, none⟩ (.slice (some ⟨g2, 0, none⟩) (L.length + 1) cap2) = w3 at k2 k3 k4 k5 k6 k7 ⊢
                  have hc31 := k4.cell
                  have hf31 := k4.frozen
                  refine hK _ _ ?_
                  clear hK K
                  refine wpAnyIn_done (by kernel_rfl) ?_ _
                  gi_wp2
                  exact body_ok hL hB k2 k3 k4 k5 k6 k7
                exact AllReadyIn.nil
              exact AllReadyIn.nil
            exact AllReadyIn.nil
          refine AllReadyIn.cons rfl (fun K hK => ?_) ?_
          · skip
            go_simp
            have hv2 := hv1.alloc (.cells #[.string (bs t)] 9)
            have hc20 := hv2.cell
            refine hK _ _ ?_
            clear hK K
            refine wpAnyIn_ready (rs := [0]) (by kernel_rfl) (by simp) ?_
            refine AllReadyIn.cons rfl (fun K hK => ?_) ?_
            · skip
              go_simp
              refine hK _ _ ?_
              clear hK K
              refine wpAnyIn_ready (rs := [4]) (by kernel_rfl) (by simp) ?_
              refine AllReadyIn.cons rfl (fun K hK => ?_) ?_
              · skip
                obtain ⟨v2, w2, hrun, own2, hgrow, _⟩ := run_append_own (P := Tryz.prog) (w1.alloc (.cells #[.string (bs t)] 9)) w.heap.size 72 72 9 i0 (.string ⟨#[]⟩) 1 16 Tryz.underlying72 hi hz0 hz1 hz2 rfl (by decide) _ L.length (cellsS L) (own1.alloc _) ⟨w1.heap.size, 0, none⟩ 1 1 [.string (bs t)] rfl (cell_one_new _ _ _) (by simp [Value.oneCell']) (by unfold maxLen; omega) (by omega) (by have := hB.size; have := HB1.size; simp; omega)
                obtain ⟨g2, cap2, rfl⟩ := ownsRow_succ own2
                obtain ⟨k1, k2, k3, k4, k5, k6, k7⟩ := appended_all hv hown h1 h2 hB.size (Nat.le_refl _) HB1 own2 hgrow
                have hc3 := k1.cell
                have hf3 := k1.frozen
                refine step_append rfl _ _ _ rfl _ _ _ rfl rfl hrun ?_
                simp only [Act.put, List.setIfInBounds_toArray]
                refine hK _ _ ?_
                clear hK K
                refine wpAnyIn_ready (rs := [5]) (by kernel_rfl) (by simp) ?_
                refine AllReadyIn.cons rfl (fun K hK => ?_) ?_
                · skip
                  go_simp
                  generalize w2.setCell ⟨w.heap.size, 0, none⟩ (.slice (some ⟨g2, 0, none⟩) (L.length + 1) cap2) = w3 at k2 k3 k4 k5 k6 k7 ⊢
                  have hc31 := k4.cell
                  have hf31 := k4.frozen
                  refine hK _ _ ?_
                  clear hK K
                  refine wpAnyIn_done (by kernel_rfl) ?_ _
                  gi_wp2
                  exact body_ok hL hB k2 k3 k4 k5 k6 k7
                exact AllReadyIn.nil
              exact AllReadyIn.nil
            exact AllReadyIn.nil
          exact AllReadyIn.nil
        exact AllReadyIn.nil
      exact AllReadyIn.nil
    · have hne : (((e : Nat) : Int) != 0) = true := by simpa using he
      gi_wp2
      gi_region
      all_goals gi_wp2
      all_goals exact left_ok hL he hB hv hown h1 h2
  case done =>
    rintro D xs W hD hxs ⟨⟨L, hL⟩, hrow, h1, h2, hB⟩ hK
    rw [hL, tell_done] at hrow h1
    dsimp only at hrow h1
    obtain ⟨v, hv, hown, _⟩ := hrow
    obtain ⟨A, c, rfl⟩ := row_shape hown
    have hc0 := hv.cell
    have hf0 := hv.frozen
    have hc1 := h1.cell
    have hf1 := h1.frozen
    have hc2 := h2.cell
    have hf2 := h2.frozen
    have hsc : scan b.data.toList = (L, size L, 0) := by rw [scan, ← hxs, hL, tell_done]
    gi_wp2
    gi_region
    gi_wp2
    rw [hsc]
    have n01 := box_ne hv h1 (by decide)
    have n02 := box_ne hv h2 (by decide)
    have n12 := box_ne h1 h2 (by decide)
    have a0 := hv.set (.slice A L.length c)
    have a1 := h1.other n01.symm (.slice A L.length c)
    have a2 := h2.other n02.symm (.slice A L.length c)
    have ao := own_set hv (by decide) hown (.slice A L.length c)
    have b0 := a0.other n01 (.int .i64 ((size L : Nat) : Int))
    have b1 := a1.set (.int .i64 ((size L : Nat) : Int))
    have b2 := a2.other n12.symm (.int .i64 ((size L : Nat) : Int))
    have bo := own_set a1 (by decide) ao (.int .i64 ((size L : Nat) : Int))
    have c0 := b0.other n02 (.int .i64 0)
    have c1 := b1.other n12 (.int .i64 0)
    have c2 := b2.set (.int .i64 0)
    have co := own_set b2 (by decide) bo (.int .i64 0)
    have hKs := (((KeepsOthers.setCell W ⟨w.heap.size, 0, none⟩ (.slice A L.length c)).trans (KeepsOthers.setCell _ ⟨w.heap.size + 1, 0, none⟩ (.int .i64 ((size L : Nat) : Int)))).trans (KeepsOthers.setCell _ ⟨w.heap.size + 1 + 1, 0, none⟩ (.int .i64 0))).same D _ hK rfl
    have hB2 := ((hB.setCell (p := ⟨w.heap.size, 0, none⟩) (Nat.le_refl _) (.slice A L.length c)).setCell (p := ⟨w.heap.size + 1, 0, none⟩) (by simp) (.int .i64 ((size L : Nat) : Int))).setCell (p := ⟨w.heap.size + 1 + 1, 0, none⟩) (by show _ ≤ w.heap.size + 1 + 1; omega) (.int .i64 0)
    exact told_end (D := D) c0 co c1 c2 hB2.drew hKs (by omega) rfl rfl rfl
  case stop =>
    rintro D c pre W hD hpre ⟨⟨rfl, L, t, e, hL, he⟩, hrow, h1, h2, hB⟩ hK
    rw [hL, tell_why L t e he []] at hrow h1 h2
    dsimp only at hrow h1 h2
    obtain ⟨v, hv, hown, _⟩ := hrow
    obtain ⟨A, c, rfl⟩ := row_shape hown
    have hsc : scan b.data.toList = (L, size L, e) := by
      obtain ⟨r, hr⟩ := hpre
      rw [scan, ← hr, hL, List.append_assoc]
      exact tell_why L t e he r
    have hc0 := hv.cell
    have hc1 := h1.cell
    have hc2 := h2.cell
    gi_wp2
    rw [hsc]
    exact told_end (D := D) hv hown h1 h2 hB hK (by omega) rfl rfl rfl
theorem scan_any (b : ByteArray) (w : World) (hb : b.size ≤ 4294967296) :
    Calls Tryz.prog 65 #[.string b] w (Told w (scan b.data.toList)) := callsIn_wide.1 (scanIn b w hb)
end Go.Proofs.YtaoneiicoaiehaaGreat.Fs7
