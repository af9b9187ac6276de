/- Frames on plain lists of bytes: what a text's frame is, what a going through bytes tells; what was framed is told, cut anywhere, and with any byte as another one. Nothing of the program. -/
import Derived.Test.YtbjemekkpmbhhaaWb
namespace Go.Proofs.Ytbjemekkpmbhhaa.Fl7
open Go Go.Proofs.Ytbjemekkpmbhhaa.Wm Go.Proofs.Ytbjemekkpmbhhaa.Wc Go.Proofs.Ytbjemekkpmbhhaa.Wb
/-- A text of these bytes. -/
def bs (l : List UInt8) : ByteArray := ⟨l.toArray⟩
theorem bs_list (l : List UInt8) : (bs l).data.toList = l := rfl
theorem bs_size (l : List UInt8) : (bs l).size = l.length := rfl
theorem bs_of (s : ByteArray) : bs s.data.toList = s := rfl
theorem bs_inj {l m : List UInt8} (h : bs l = bs m) : l = m := by
  have := congrArg (fun b => b.data.toList) h
  simpa [bs] using this
/-- A sum's four bytes. -/
def sum4 (l : List UInt8) : List UInt8 := putN (crc l) 4
/-- A count's four bytes. -/
def cnt (l : List UInt8) : List UInt8 := putN l.length 4
def fr (s : List UInt8) : List UInt8 := cnt s ++ (sum4 (cnt s) ++ (sum4 s ++ s))
def frs : List (List UInt8) → List UInt8
  | [] => []
  | s :: r => fr s ++ frs r
theorem sum4_len (l : List UInt8) : (sum4 l).length = 4 := putN_length _ _
theorem cnt_len (l : List UInt8) : (cnt l).length = 4 := putN_length _ _
theorem fr_len (s : List UInt8) : (fr s).length = 12 + s.length := by
  simp only [fr, List.length_append, sum4_len, cnt_len]; omega
theorem frs_append (l m : List (List UInt8)) : frs (l ++ m) = frs l ++ frs m := by
  induction l with
  | nil => rfl
  | cons s r ih => rw [List.cons_append, frs, frs, ih, List.append_assoc]
/-- How many bytes the frames have. -/
def size : List (List UInt8) → Nat
  | [] => 0
  | s :: r => 12 + s.length + size r
theorem frs_len (l : List (List UInt8)) : (frs l).length = size l := by
  induction l with
  | nil => rfl
  | cons s r ih => rw [frs, List.length_append, fr_len, ih, size]
theorem size_append (l m : List (List UInt8)) : size (l ++ m) = size l + size m := by
  rw [← frs_len, frs_append, List.length_append, frs_len, frs_len]
/-- The number of the first four bytes. -/
def num (b : List UInt8) : Nat := getL (b.take 4)
/-- The text that these bytes may begin with, and 0; or nothing, and why. -/
def first (b : List UInt8) : List UInt8 × Nat :=
  if b.length < 8 then ([], 70)
  else if sum4 (b.take 4) ≠ (b.take 8).drop 4 then ([], 71)
  else if 4194304 < num b then ([], 71)
  else if b.length < 12 + num b then ([], 70)
  else if sum4 ((b.take (12 + num b)).drop 12) ≠ (b.take 12).drop 8 then ([], 71)
  else ((b.take (12 + num b)).drop 12, 0)
theorem first_len (b t : List UInt8) (h : first b = (t, 0)) : 12 + t.length ≤ b.length := by
  unfold first at h
  split at h
  · cases h
  split at h
  · cases h
  split at h
  · cases h
  split at h
  · cases h
  split at h
  · cases h
  · rename_i hl _
    injection h with h1 _
    subst h1
    simp only [List.length_drop, List.length_take]
    omega
theorem first_small (b t : List UInt8) (h : first b = (t, 0)) : t.length ≤ 4194304 := by
  unfold first at h
  split at h
  · cases h
  split at h
  · cases h
  split at h
  · cases h
  split at h
  · cases h
  split at h
  · cases h
  · injection h with h1 _
    subst h1
    simp only [List.length_drop, List.length_take]
    omega
theorem first_little (b : List UInt8) : (first b).1.length ≤ 4194304 := by
  by_cases h : (first b).2 = 0
  · exact first_small b (first b).1 (by rw [← h])
  · unfold first at h ⊢
    split
    · exact Nat.zero_le _
    split
    · exact Nat.zero_le _
    split
    · exact Nat.zero_le _
    split
    · exact Nat.zero_le _
    split
    · exact Nat.zero_le _
    · rename_i h1 h2 h3 h4 h5
      rw [if_neg h1, if_neg h2, if_neg h3, if_neg h4, if_neg h5] at h
      exact absurd rfl h
theorem first_why (b : List UInt8) : (first b).2 = 0 ∨ first b = ([], 70) ∨ first b = ([], 71) := by
  unfold first
  split
  · exact .inr (.inl rfl)
  split
  · exact .inr (.inr rfl)
  split
  · exact .inr (.inr rfl)
  split
  · exact .inr (.inl rfl)
  split
  · exact .inr (.inr rfl)
  · exact .inl rfl
/-- What going through these bytes hands over. -/
def seq (b : List UInt8) : List (List UInt8 × Nat) :=
  if hb : b = [] then []
  else if h : (first b).2 = 0 then ((first b).1, 0) :: seq (b.drop (12 + (first b).1.length))
  else [((first b).1, (first b).2)]
termination_by b.length
decreasing_by
  have h2 := first_len b (first b).1 (by rw [← h])
  rw [List.length_drop]
  omega
theorem seq_nil : seq [] = [] := by rw [seq]; exact dif_pos rfl
theorem seq_ok {b t : List UInt8} (hb : b ≠ []) (h : first b = (t, 0)) : seq b = (t, 0) :: seq (b.drop (12 + t.length)) := by
  rw [seq, dif_neg hb, dif_pos (by rw [h])]
  rw [h]
theorem seq_why {b t : List UInt8} {e : Nat} (hb : b ≠ []) (h : first b = (t, e)) (he : e ≠ 0) : seq b = [(t, e)] := by
  rw [seq, dif_neg hb, dif_neg (by rw [h]; exact he), h]
theorem seq_len : ∀ (n : Nat) (b : List UInt8), b.length ≤ n → (seq b).length ≤ n := by
  intro n
  induction n with
  | zero =>
    intro b h
    have e : b = [] := List.length_eq_zero_iff.1 (by omega)
    rw [e, seq_nil]; exact Nat.le_refl _
  | succ n ih =>
    intro b h
    by_cases hb : b = []
    · rw [hb, seq_nil]; exact Nat.zero_le _
    · obtain ⟨t, e, ht⟩ : ∃ t e, first b = (t, e) := ⟨_, _, rfl⟩
      by_cases he : e = 0
      · subst he
        rw [seq_ok hb ht, List.length_cons]
        have := ih (b.drop (12 + t.length)) (by rw [List.length_drop]; omega)
        omega
      · rw [seq_why hb ht he]; simp
/-- What is told of what was handed over. -/
def tell : List (List UInt8 × Nat) → List (List UInt8) × Nat × Nat
  | [] => ([], 0, 0)
  | (t, 0) :: r => (t :: (tell r).1, 12 + t.length + (tell r).2.1, (tell r).2.2)
  | (_, e + 1) :: _ => ([], 0, e + 1)
def scan (b : List UInt8) : List (List UInt8) × Nat × Nat := tell (seq b)
/-- Texts, as they are handed over. -/
def oks (l : List (List UInt8)) : List (List UInt8 × Nat) := l.map (·, 0)
theorem oks_snoc (l : List (List UInt8)) (t : List UInt8) : oks (l ++ [t]) = oks l ++ [(t, 0)] := by simp [oks]
theorem tell_oks (l : List (List UInt8)) (r : List (List UInt8 × Nat)) : tell (oks l ++ r) = (l ++ (tell r).1, size l + (tell r).2.1, (tell r).2.2) := by
  induction l with
  | nil => simp [oks, size]
  | cons t l ih =>
    show tell ((t, 0) :: (oks l ++ r)) = _
    rw [tell, ih, size]
    simp only [List.cons_append, Nat.add_assoc]
theorem tell_done (l : List (List UInt8)) : tell (oks l) = (l, size l, 0) := by
  have h := tell_oks l []
  rw [List.append_nil] at h
  rw [h]; simp [tell]
theorem tell_why (l : List (List UInt8)) (t : List UInt8) (e : Nat) (he : e ≠ 0) (r : List (List UInt8 × Nat)) : tell (oks l ++ (t, e) :: r) = (l, size l, e) := by
  rw [tell_oks]
  cases e with
  | zero => exact absurd rfl he
  | succ e => simp [tell]
theorem scan_nil : scan [] = ([], 0, 0) := by rw [scan, seq_nil]; rfl
theorem scan_ok {b t : List UInt8} (hb : b ≠ []) (h : first b = (t, 0)) :
    scan b = (t :: (scan (b.drop (12 + t.length))).1, 12 + t.length + (scan (b.drop (12 + t.length))).2.1, (scan (b.drop (12 + t.length))).2.2) := by
  unfold scan
  rw [seq_ok hb h, tell]
theorem scan_why {b t : List UInt8} {e : Nat} (hb : b ≠ []) (h : first b = (t, e)) (he : e ≠ 0) : scan b = ([], 0, e) := by
  unfold scan
  rw [seq_why hb h he]
  cases e with
  | zero => exact absurd rfl he
  | succ e => rfl
/-- A frame's parts, whatever stands behind it. -/
theorem fr_take4 (s r : List UInt8) : (fr s ++ r).take 4 = cnt s := by
  unfold fr
  rw [List.append_assoc, List.take_append_of_le_length (by rw [cnt_len]; omega), List.take_of_length_le (by rw [cnt_len]; omega)]
theorem fr_drop4 (s r : List UInt8) : (fr s ++ r).drop 4 = sum4 (cnt s) ++ (sum4 s ++ (s ++ r)) := by
  unfold fr
  simp only [List.append_assoc]
  rw [List.drop_append_of_le_length (by rw [cnt_len]; omega), List.drop_eq_nil_of_le (by rw [cnt_len]; omega)]; rfl
theorem fr_drop8 (s r : List UInt8) : (fr s ++ r).drop 8 = sum4 s ++ (s ++ r) := by
  have h : (8 : Nat) = 4 + 4 := rfl
  rw [h, ← List.drop_drop, fr_drop4, List.drop_append_of_le_length (by rw [sum4_len]; omega), List.drop_eq_nil_of_le (by rw [sum4_len]; omega)]; rfl
theorem fr_drop12 (s r : List UInt8) : (fr s ++ r).drop 12 = s ++ r := by
  have h : (12 : Nat) = 8 + 4 := rfl
  rw [h, ← List.drop_drop, fr_drop8, List.drop_append_of_le_length (by rw [sum4_len]; omega), List.drop_eq_nil_of_le (by rw [sum4_len]; omega)]; rfl
theorem fr_mid4 (s r : List UInt8) : ((fr s ++ r).take 8).drop 4 = sum4 (cnt s) := by
  rw [List.drop_take, fr_drop4, List.take_append_of_le_length (by rw [sum4_len]; omega), List.take_of_length_le (by rw [sum4_len]; omega)]
theorem fr_mid8 (s r : List UInt8) : ((fr s ++ r).take 12).drop 8 = sum4 s := by
  rw [List.drop_take, fr_drop8, List.take_append_of_le_length (by rw [sum4_len]; omega), List.take_of_length_le (by rw [sum4_len]; omega)]
theorem cnt_num (s : List UInt8) (h : s.length ≤ 4194304) : getL (cnt s) = s.length := by
  unfold cnt
  rw [getL_putN]; omega
theorem first_fr (s r : List UInt8) (h : s.length ≤ 4194304) : first (fr s ++ r) = (s, 0) := by
  have hl : (fr s ++ r).length = 12 + s.length + r.length := by rw [List.length_append, fr_len]
  have hn : num (fr s ++ r) = s.length := by unfold num; rw [fr_take4, cnt_num s h]
  have ht : ((fr s ++ r).take (12 + s.length)).drop 12 = s := by
    rw [List.drop_take, fr_drop12, Nat.add_sub_cancel_left, List.take_append_of_le_length (Nat.le_refl _), List.take_length]
  unfold first
  rw [if_neg (by omega), fr_take4, fr_mid4, if_neg (fun x => x rfl), hn, if_neg (by omega), if_neg (by omega), ht, fr_mid8, if_neg (fun x => x rfl)]
theorem ne_nil_of_len {b : List UInt8} (h : 0 < b.length) : b ≠ [] := fun e => by rw [e] at h; exact absurd h (by simp)
/-- How many frames are whole within so many bytes, and how many bytes these have. -/
def whole : List (List UInt8) → Nat → Nat × Nat
  | [], _ => (0, 0)
  | s :: r, n => if 12 + s.length ≤ n then ((whole r (n - (12 + s.length))).1 + 1, 12 + s.length + (whole r (n - (12 + s.length))).2) else (0, 0)
theorem whole_le (l : List (List UInt8)) : ∀ n, (whole l n).1 ≤ l.length ∧ (whole l n).2 ≤ n := by
  induction l with
  | nil => intro n; exact ⟨Nat.zero_le _, Nat.zero_le _⟩
  | cons s r ih =>
    intro n
    unfold whole
    split
    · have h := ih (n - (12 + s.length))
      exact ⟨Nat.succ_le_succ h.1, by omega⟩
    · exact ⟨Nat.zero_le _, Nat.zero_le _⟩
/-- A beginning of a frame is torn. -/
theorem first_torn (s r : List UInt8) (n : Nat) (h : s.length ≤ 4194304) (hn : n < 12 + s.length) : first ((fr s ++ r).take n) = ([], 70) := by
  have hl : ((fr s ++ r).take n).length = n := by rw [List.length_take, List.length_append, fr_len]; omega
  unfold first
  rw [hl]
  by_cases h8 : n < 8
  · rw [if_pos h8]
  · have e4 : ((fr s ++ r).take n).take 4 = cnt s := by rw [List.take_take, Nat.min_eq_left (by omega), fr_take4]
    have e8 : (((fr s ++ r).take n).take 8).drop 4 = sum4 (cnt s) := by rw [List.take_take, Nat.min_eq_left (by omega), fr_mid4]
    have hm : num ((fr s ++ r).take n) = s.length := by unfold num; rw [e4, cnt_num s h]
    rw [if_neg h8, e4, e8, if_neg (fun x => x rfl), hm, if_neg (by omega), if_pos hn]
/-- Any beginning of frames. -/
theorem scan_torn (l : List (List UInt8)) : ∀ n, (∀ s ∈ l, s.length ≤ 4194304) → n ≤ (frs l).length →
    scan ((frs l).take n) = (l.take (whole l n).1, (whole l n).2, if (whole l n).2 = n then 0 else 70) := by
  induction l with
  | nil =>
    intro n _ hn
    have h0 : n = 0 := by simpa [frs] using hn
    subst h0
    exact scan_nil
  | cons s r ih =>
    intro n hs hn
    have h1 : s.length ≤ 4194304 := hs s (by simp)
    rw [frs, List.length_append, fr_len] at hn
    rw [frs]
    unfold whole
    by_cases hw : 12 + s.length ≤ n
    · have he : (fr s ++ frs r).take n = fr s ++ (frs r).take (n - (12 + s.length)) := by
        rw [List.take_append, fr_len, List.take_of_length_le (by rw [fr_len]; exact hw)]
      have hf := first_fr s ((frs r).take (n - (12 + s.length))) h1
      have hd : (fr s ++ (frs r).take (n - (12 + s.length))).drop (12 + s.length) = (frs r).take (n - (12 + s.length)) := by
        rw [List.drop_append_of_le_length (by rw [fr_len]; omega), List.drop_eq_nil_of_le (by rw [fr_len]; omega)]; rfl
      have hi := ih (n - (12 + s.length)) (fun x hx => hs x (by simp [hx])) (by omega)
      rw [he, scan_ok (ne_nil_of_len (by rw [List.length_append, fr_len]; omega)) hf, hd, hi, if_pos hw]
      simp only [List.take_succ_cons]
      by_cases e : (whole r (n - (12 + s.length))).2 = n - (12 + s.length)
      · rw [if_pos e, if_pos (by omega)]
      · rw [if_neg e, if_neg (by omega)]
    · rw [if_neg hw]
      by_cases h0 : n = 0
      · subst h0
        exact scan_nil
      · have hne : (fr s ++ frs r).take n ≠ [] := ne_nil_of_len (by rw [List.length_take, List.length_append, fr_len]; omega)
        rw [scan_why hne (first_torn s (frs r) n h1 (by omega)) (by omega), if_neg (by omega)]
        rfl
theorem scan_all (l : List (List UInt8)) (hs : ∀ s ∈ l, s.length ≤ 4194304) : scan (frs l) = (l, size l, 0) := by
  induction l with
  | nil => exact scan_nil
  | cons s r ih =>
    have hf := first_fr s (frs r) (hs s (by simp))
    have hd : (fr s ++ frs r).drop (12 + s.length) = frs r := by
      rw [List.drop_append_of_le_length (by rw [fr_len]; omega), List.drop_eq_nil_of_le (by rw [fr_len]; omega)]; rfl
    rw [frs, scan_ok (ne_nil_of_len (by rw [List.length_append, fr_len]; omega)) hf, hd, ih (fun x hx => hs x (by simp [hx])), size]
/-- One byte as another one: another number. -/
theorem getL_other : ∀ (l : List UInt8) (q : Nat) (c : UInt8) (h : q < l.length), getL (l.set q c) = getL l ^^^ 2 ^ (8 * q) * (c.toNat ^^^ (l[q]).toNat)
  | [], _, _, h => by simp at h
  | a :: l, 0, c, _ => by
    simp only [List.getElem_cons_zero]
    rw [List.set_cons_zero, getL_cons, getL_cons, Nat.mul_zero, Nat.pow_zero, Nat.one_mul]
    generalize 2 ^ 8 * getL l = x
    rw [Nat.xor_comm c.toNat a.toNat, Nat.xor_comm a.toNat x, Nat.xor_assoc, ← Nat.xor_assoc a.toNat, Nat.xor_self, Nat.zero_xor, Nat.xor_comm]
  | a :: l, q + 1, c, h => by
    simp only [List.getElem_cons_succ]
    have h' : q < l.length := by simpa using h
    have ih := getL_other l q c h'
    have e : 2 ^ (8 * (q + 1)) = 2 ^ 8 * 2 ^ (8 * q) := by
      rw [← Nat.pow_add]; congr 1; omega
    rw [List.set_cons_succ, getL_cons, getL_cons, ih, mul_xor, e, Nat.xor_assoc, Nat.mul_assoc]
theorem crc_other (l : List UInt8) (q : Nat) (c : UInt8) (h : q < l.length) (hc : c ≠ l[q]) : crc (l.set q c) ≠ crc l := by
  have hb := c.toNat_lt
  have ha := (l[q]).toNat_lt
  refine crc_burst l (l.set q c) (c.toNat ^^^ (l[q]).toNat) (8 * q) (by rw [List.length_set]) ?_ ?_ (by omega) (getL_other l q c h)
  · have := Nat.xor_lt_two_pow (n := 8) (x := c.toNat) (y := (l[q]).toNat) (by omega) (by omega)
    omega
  · intro e
    refine hc (UInt8.toNat_inj.1 ?_)
    have h2 := congrArg (fun x => x ^^^ (l[q]).toNat) e
    simp only [Nat.xor_assoc, Nat.xor_self, Nat.xor_zero, Nat.zero_xor] at h2
    exact h2
theorem sum4_other (l : List UInt8) (q : Nat) (c : UInt8) (h : q < l.length) (hc : c ≠ l[q]) : sum4 (l.set q c) ≠ sum4 l := by
  intro e
  have h2 := congrArg getL e
  unfold sum4 at h2
  rw [getL_putN, getL_putN, Nat.mod_eq_of_lt (by have := crc_lt (l.set q c); omega), Nat.mod_eq_of_lt (by have := crc_lt l; omega)] at h2
  exact crc_other l q c h hc h2
theorem set_ne (l : List UInt8) (q : Nat) (c : UInt8) (h : q < l.length) (hc : c ≠ l[q]) : l.set q c ≠ l := by
  intro e
  have h2 : (l.set q c)[q]? = l[q]? := by rw [e]
  rw [List.getElem?_set_self h, List.getElem?_eq_getElem h] at h2
  exact hc (Option.some.inj h2)
/-- A frame with one byte as another one is bad. -/
theorem first_other (b s r : List UInt8) (n : Nat) (c : UInt8) (hb : b = fr s ++ r) (h : s.length ≤ 4194304) (hn : n < b.length) (hn2 : n < 12 + s.length) (hc : c ≠ b[n]) : first (b.set n c) = ([], 71) := by
  have hl : b.length = 12 + s.length + r.length := by rw [hb, List.length_append, fr_len]
  have t4 : b.take 4 = cnt s := by rw [hb, fr_take4]
  have m4 : (b.take 8).drop 4 = sum4 (cnt s) := by rw [hb, fr_mid4]
  have m8 : (b.take 12).drop 8 = sum4 s := by rw [hb, fr_mid8]
  have hm : num b = s.length := by unfold num; rw [t4, cnt_num s h]
  have tt : (b.take (12 + s.length)).drop 12 = s := by
    rw [hb, List.drop_take, fr_drop12, Nat.add_sub_cancel_left, List.take_append_of_le_length (Nat.le_refl _), List.take_length]
  have low (k : Nat) (hk : k ≤ n) : (b.set n c).take k = b.take k := by rw [List.take_set, List.set_eq_of_length_le (by rw [List.length_take]; omega)]
  have top (i k : Nat) (hi : i ≤ n) : ((b.set n c).take k).drop i = ((b.take k).drop i).set (n - i) c := by rw [List.take_set, List.drop_set, if_neg (by omega)]
  have over (i k : Nat) (hi : n < i) : ((b.set n c).take k).drop i = (b.take k).drop i := by rw [List.take_set, List.drop_set, if_pos hi]
  have get (i k : Nat) (hi : i ≤ n) (hk : n < k) (hx : n - i < ((b.take k).drop i).length) : ((b.take k).drop i)[n - i] = b[n] := by
    simp only [List.getElem_drop, List.getElem_take]
    congr 1
    omega
  unfold first
  rw [List.length_set, if_neg (by omega)]
  by_cases h4 : n < 4
  · have e1 : (b.set n c).take 4 = (b.take 4).set n c := List.take_set
    have hx : n < (b.take 4).length := by rw [List.length_take]; omega
    have hg : c ≠ (b.take 4)[n] := by rw [List.getElem_take]; exact hc
    rw [over 4 8 h4, m4, e1, if_pos (by rw [← t4]; exact sum4_other _ n c hx hg)]
  · rw [low 4 (by omega), t4]
    by_cases h8 : n < 8
    · have hx : n - 4 < ((b.take 8).drop 4).length := by rw [List.length_drop, List.length_take]; omega
      have hg : c ≠ ((b.take 8).drop 4)[n - 4] := by rw [get 4 8 (by omega) h8 hx]; exact hc
      have hs2 := set_ne _ (n - 4) c hx hg
      rw [top 4 8 (by omega), if_pos (by rw [← m4]; exact fun e => hs2 e.symm)]
    · have hm2 : num (b.set n c) = s.length := by
        unfold num
        rw [low 4 (by omega), t4, cnt_num s h]
      rw [low 8 (by omega), m4, if_neg (fun x => x rfl), hm2, if_neg (by omega), if_neg (by omega)]
      by_cases h12 : n < 12
      · have hx : n - 8 < ((b.take 12).drop 8).length := by rw [List.length_drop, List.length_take]; omega
        have hg : c ≠ ((b.take 12).drop 8)[n - 8] := by rw [get 8 12 (by omega) h12 hx]; exact hc
        have hs2 := set_ne _ (n - 8) c hx hg
        rw [over 12 (12 + s.length) h12, tt, top 8 12 (by omega), if_pos (by rw [← m8]; exact fun e => hs2 e.symm)]
      · have hx : n - 12 < ((b.take (12 + s.length)).drop 12).length := by rw [List.length_drop, List.length_take]; omega
        have hg : c ≠ ((b.take (12 + s.length)).drop 12)[n - 12] := by rw [get 12 (12 + s.length) (by omega) hn2 hx]; exact hc
        rw [top 12 (12 + s.length) (by omega), low 12 (by omega), m8, if_pos (fun e => sum4_other _ (n - 12) c hx hg (e.trans (congrArg sum4 tt.symm)))]
/-- Frames with one byte as another one. -/
theorem scan_other (l : List (List UInt8)) : ∀ (n : Nat) (c : UInt8) (hn : n < (frs l).length), (∀ s ∈ l, s.length ≤ 4194304) → c ≠ (frs l)[n] →
    scan ((frs l).set n c) = (l.take (whole l n).1, (whole l n).2, 71) := by
  induction l with
  | nil => intro n c hn; exact absurd hn (by simp [frs])
  | cons s r ih =>
    intro n c hn hs hc
    have h1 : s.length ≤ 4194304 := hs s (by simp)
    unfold whole
    simp only [frs] at hn hc ⊢
    by_cases hw : 12 + s.length ≤ n
    · have hn' : n - (12 + s.length) < (frs r).length := by rw [List.length_append, fr_len] at hn; omega
      have he : (fr s ++ frs r).set n c = fr s ++ (frs r).set (n - (12 + s.length)) c := by
        rw [List.set_append_right n c (by rw [fr_len]; exact hw), fr_len]
      have hc' : c ≠ (frs r)[n - (12 + s.length)] := by
        rw [List.getElem_append_right (by rw [fr_len]; exact hw)] at hc
        simpa [fr_len] using hc
      have hf := first_fr s ((frs r).set (n - (12 + s.length)) c) h1
      have hd : (fr s ++ (frs r).set (n - (12 + s.length)) c).drop (12 + s.length) = (frs r).set (n - (12 + s.length)) c := by
        rw [List.drop_append_of_le_length (by rw [fr_len]; omega), List.drop_eq_nil_of_le (by rw [fr_len]; omega)]; rfl
      have hi := ih (n - (12 + s.length)) c hn' (fun x hx => hs x (by simp [hx])) hc'
      rw [he, scan_ok (ne_nil_of_len (by rw [List.length_append, fr_len]; omega)) hf, hd, hi, if_pos hw]
      rfl
    · rw [if_neg hw, scan_why (ne_nil_of_len (by rw [List.length_set]; omega)) (first_other (fr s ++ frs r) s (frs r) n c rfl h1 hn (by omega) hc) (by omega)]
      rfl
end Go.Proofs.Ytbjemekkpmbhhaa.Fl7
