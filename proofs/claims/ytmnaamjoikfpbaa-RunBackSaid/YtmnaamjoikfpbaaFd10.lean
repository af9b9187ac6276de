/- Runs on plain data: a pair's text, a run's texts and bytes, where each pair's frame stands, what is read where a byte is another one. Nothing of the program. -/
import Derived.Test.YtmnaamjoikfpbaaFb2
import Derived.Test.YtmnaamjoikfpbaaMt9
namespace Go.Proofs.Ytmnaamjoikfpbaa.Fd10
open Go Go.Proofs.Ytmnaamjoikfpbaa.Wm Go.Proofs.Ytmnaamjoikfpbaa.Fl7 Go.Proofs.Ytmnaamjoikfpbaa.Rs7 Go.Proofs.Ytmnaamjoikfpbaa.Pm9
/-- A mark's number. -/
def mk (g : Bool) : Nat := if g then 1 else 0
/-- A pair's text. -/
def tx (x : Pr) : List UInt8 := putN (mk x.g) 1 ++ (putN x.k.size 2 ++ (x.k.data.toList ++ x.v.data.toList))
theorem tx_len (x : Pr) : (tx x).length = 3 + x.k.size + x.v.size := by
  simp only [tx, List.length_append, putN_length]
  have h1 : x.k.data.toList.length = x.k.size := by simp
  have h2 : x.v.data.toList.length = x.v.size := by simp
  omega
/-- A run's texts: how many pairs there are, and the pairs'. -/
def texts (L : List Pr) : List (List UInt8) := putN L.length 8 :: L.map tx
def rb (L : List Pr) : List UInt8 := frs (texts L)
/-- Where a pair's frame stands, and what it is. -/
structure Spot where
  k : ByteArray
  o : Nat
  f : ByteArray
def spots : Nat → List Pr → List Spot
  | _, [] => []
  | o, x :: L => ⟨x.k, o, bs (fr (tx x))⟩ :: spots (o + (12 + (tx x).length)) L
theorem spots_len : ∀ (o : Nat) (L : List Pr), (spots o L).length = L.length
  | _, [] => rfl
  | o, x :: L => by rw [spots, List.length_cons, spots_len, List.length_cons]
theorem spots_append : ∀ (o : Nat) (L M : List Pr), spots o (L ++ M) = spots o L ++ spots (o + Fl7.size (L.map tx)) M
  | o, [], M => by simp [spots, Fl7.size]
  | o, x :: L, M => by
    rw [List.cons_append, spots, spots_append, spots, List.map_cons, Fl7.size, List.cons_append, Nat.add_assoc]
theorem spots_get {o : Nat} {L : List Pr} {i : Nat} (h : i < L.length) (h' : i < (spots o L).length) : (spots o L)[i] = ⟨L[i].k, o + Fl7.size ((L.take i).map tx), bs (fr (tx L[i]))⟩ := by
  have e : L = L.take i ++ L[i] :: L.drop (i + 1) := by rw [← List.drop_eq_getElem_cons h, List.take_append_drop]
  have hl : (spots o (L.take i)).length = i := by rw [spots_len, List.length_take]; omega
  have h2 : (spots o L)[i]? = some ⟨L[i].k, o + Fl7.size ((L.take i).map tx), bs (fr (tx L[i]))⟩ := by
    conv => lhs; rw [e]
    rw [spots_append, List.getElem?_append_right (by rw [hl]; exact Nat.le_refl _), hl, Nat.sub_self]
    rfl
  rw [List.getElem?_eq_getElem h'] at h2
  exact Option.some.inj h2
/-- The place of the pair i's frame. -/
def plc (L : List Pr) (i : Nat) : Nat := 20 + Fl7.size ((L.take i).map tx)
theorem rb_parts (L : List Pr) (i : Nat) (h : i < L.length) : ∃ A B, rb L = A ++ (fr (tx L[i]) ++ B) ∧ A.length = plc L i := by
  have e : L = L.take i ++ L[i] :: L.drop (i + 1) := by rw [← List.drop_eq_getElem_cons h, List.take_append_drop]
  refine ⟨fr (putN L.length 8) ++ frs ((L.take i).map tx), frs ((L.drop (i + 1)).map tx), ?_, ?_⟩
  · have e2 : L.map tx = (L.take i).map tx ++ tx L[i] :: (L.drop (i + 1)).map tx := by
      conv => lhs; rw [e]
      rw [List.map_append, List.map_cons]
    unfold rb texts
    rw [frs, e2, frs_append, frs]
    simp only [List.append_assoc]
  · rw [List.length_append, fr_len, putN_length, frs_len]; rfl
theorem rb_len (L : List Pr) : (rb L).length = 20 + 15 * L.length + Pm9.size L := by
  have h : ∀ M : List Pr, Fl7.size (M.map tx) = 15 * M.length + Pm9.size M := by
    intro M
    induction M with
    | nil => rfl
    | cons x M ih => rw [List.map_cons, Fl7.size, ih, tx_len, Pm9.size, List.length_cons]; omega
  unfold rb texts
  rw [frs_len, Fl7.size, putN_length, h]; omega
theorem size_map (M : List Pr) : Fl7.size (M.map tx) = 15 * M.length + Pm9.size M := by
  have h := rb_len M
  unfold rb texts at h
  rw [frs_len, Fl7.size, putN_length] at h; omega
/-- The frame of pair i stands in bytes B as it was. -/
def fine (B : List UInt8) (L : List Pr) (i : Nat) : Bool := decide ((B.drop (plc L i)).take (fr (tx (L.getD i ⟨⟨#[]⟩, ⟨#[]⟩, false⟩))).length = fr (tx (L.getD i ⟨⟨#[]⟩, ⟨#[]⟩, false⟩)))
theorem fine_iff {B : List UInt8} {L : List Pr} {i : Nat} (h : i < L.length) : fine B L i = true ↔ (B.drop (plc L i)).take (fr (tx L[i])).length = fr (tx L[i]) := by
  have e : L.getD i ⟨⟨#[]⟩, ⟨#[]⟩, false⟩ = L[i] := by simp [List.getD, List.getElem?_eq_getElem h]
  unfold fine
  rw [e, decide_eq_true_iff]
theorem fine_rb (L : List Pr) (i : Nat) (h : i < L.length) : fine (rb L) L i = true := by
  rw [fine_iff h]
  obtain ⟨A, B, e, hA⟩ := rb_parts L i h
  rw [e, ← hA, List.drop_append_of_le_length (Nat.le_refl _), List.drop_length, List.nil_append, List.take_append_of_le_length (Nat.le_refl _), List.take_length]
/-- Where a byte is another one, just the pair in whose frame it stands is not as it was. -/
theorem fine_set {L : List Pr} {i n : Nat} {c : UInt8} (h : i < L.length) (hn : n < (rb L).length) (hc : c ≠ (rb L)[n]) :
    fine ((rb L).set n c) L i = !(decide (plc L i ≤ n) && decide (n < plc L i + (fr (tx L[i])).length)) := by
  obtain ⟨A, B, e, hA⟩ := rb_parts L i h
  have h1 : fine ((rb L).set n c) L i = true ↔ (((rb L).set n c).drop (plc L i)).take (fr (tx L[i])).length = fr (tx L[i]) := fine_iff h
  by_cases hlo : plc L i ≤ n
  · by_cases hhi : n < plc L i + (fr (tx L[i])).length
    · rw [decide_eq_true hlo, decide_eq_true hhi]
      cases hf : fine ((rb L).set n c) L i
      · rfl
      · exfalso
        rw [h1] at hf
        have h2 : ((((rb L).set n c).drop (plc L i)).take (fr (tx L[i])).length)[n - plc L i]? = (((rb L).drop (plc L i)).take (fr (tx L[i])).length)[n - plc L i]? := by
          rw [hf, (fine_iff h).1 (fine_rb L i h)]
        rw [List.getElem?_take, List.getElem?_take, if_pos (by omega), if_pos (by omega), List.getElem?_drop, List.getElem?_drop, show plc L i + (n - plc L i) = n by omega, List.getElem?_set_self hn, List.getElem?_eq_getElem hn] at h2
        exact hc (Option.some.inj h2)
    · rw [decide_eq_false hhi, Bool.and_false, Bool.not_false, h1]
      rw [List.drop_set, if_neg (by omega), List.take_set, List.set_eq_of_length_le (by rw [List.length_take]; omega)]
      exact (fine_iff h).1 (fine_rb L i h)
  · rw [decide_eq_false hlo, Bool.false_and, Bool.not_false, h1]
    rw [List.drop_set, if_pos (by omega)]
    exact (fine_iff h).1 (fine_rb L i h)
theorem plc_next (L : List Pr) (i : Nat) (h : i < L.length) : plc L (i + 1) = plc L i + (fr (tx L[i])).length := by
  unfold plc
  have e : L.take (i + 1) = L.take i ++ [L[i]] := by rw [List.take_succ_eq_append_getElem h]
  rw [e, List.map_append, Fl7.size_append, fr_len]
  simp only [List.map_cons, List.map_nil, Fl7.size]
  omega
theorem plc_mono (L : List Pr) {i j : Nat} (h : i < j) (hj : j ≤ L.length) : plc L (i + 1) ≤ plc L j := by
  induction j with
  | zero => omega
  | succ j ih =>
    by_cases e : i = j
    · rw [e]; exact Nat.le_refl _
    · have := ih (by omega) (by omega)
      rw [plc_next L j (by omega)]; omega
/-- How many of the first k pairs are not as they were. -/
def bads (B : List UInt8) (L : List Pr) : Nat → Nat
  | 0 => 0
  | k + 1 => bads B L k + if fine B L k then 0 else 1
/-- Where a byte is another one, one at most. -/
theorem bads_one {L : List Pr} {n : Nat} {c : UInt8} (hn : n < (rb L).length) (hc : c ≠ (rb L)[n]) : ∀ k, k ≤ L.length → bads ((rb L).set n c) L k ≤ if n < plc L k then 1 else 0
  | 0, _ => by simp [bads]
  | k + 1, hk => by
    have ih := bads_one hn hc k (by omega)
    have hf := fine_set (L := L) (i := k) (by omega) hn hc
    have hp := plc_next L k (by omega)
    rw [bads, hf, hp]
    by_cases h1 : plc L k ≤ n
    · rw [if_neg (show ¬ n < plc L k by omega)] at ih
      by_cases h2 : n < plc L k + (fr (tx L[k])).length
      · rw [decide_eq_true h1, decide_eq_true h2, if_pos h2]
        simp only [Bool.and_self, Bool.not_true, Bool.false_eq_true, if_false]; omega
      · rw [decide_eq_true h1, decide_eq_false h2, if_neg h2]
        simp only [Bool.and_false, Bool.not_false, if_true]; omega
    · rw [if_pos (show n < plc L k by omega)] at ih
      rw [decide_eq_false h1, if_pos (show n < plc L k + (fr (tx L[k])).length by omega)]
      simp only [Bool.false_and, Bool.not_false, if_true]; omega
theorem bads_zero {B : List UInt8} {L : List Pr} : ∀ k, bads B L k = 0 ↔ ∀ i, i < k → fine B L i = true
  | 0 => by simp [bads]
  | k + 1 => by
    have ih := bads_zero (B := B) (L := L) k
    rw [bads]
    constructor
    · intro h i hi
      by_cases e : i = k
      · subst e
        cases hf : fine B L i
        · rw [hf] at h; simp at h
        · rfl
      · exact ih.1 (by omega) i (by omega)
    · intro h
      rw [ih.2 fun i hi => h i (by omega), h k (by omega)]; rfl
/-- What is there behind some puts. -/
def sorted (L : List Pr) : List Pr := L.foldl (fun m x => Pm9.put x m) []
theorem sorted_snoc (L : List Pr) (x : Pr) : sorted (L ++ [x]) = Pm9.put x (sorted L) := by simp [sorted]
theorem put_mem {x q : Pr} {l : List Pr} (h : q ∈ Pm9.put x l) : (q = x ∧ may x = true) ∨ q ∈ l := by
  unfold Pm9.put at h
  split at h
  · next hm =>
    rcases ins_mem h with h | h
    · exact .inl ⟨h, hm⟩
    · exact .inr h
  · exact .inr h
theorem put_size {x : Pr} {l : List Pr} (hs : Sorted l) : (Pm9.put x l).length ≤ l.length + 1 ∧ Pm9.size (Pm9.put x l) ≤ Pm9.size l + (x.k.size + x.v.size) := by
  unfold Pm9.put
  split
  · obtain ⟨h1, h2⟩ := ins_size (p := x) hs
    cases hg : Pm9.get x.k l with
    | none => obtain ⟨h3, h4⟩ := h1 hg; omega
    | some q => obtain ⟨h3, h4⟩ := h2 q hg; omega
  · omega
theorem sorted_ok (L : List Pr) : Sorted (sorted L) ∧ (∀ q ∈ sorted L, may q = true) ∧ (sorted L).length ≤ L.length ∧ Pm9.size (sorted L) ≤ Pm9.size L := by
  suffices h : ∀ (L m : List Pr), Sorted m → (∀ q ∈ m, may q = true) → Sorted (L.foldl (fun m x => Pm9.put x m) m) ∧ (∀ q ∈ L.foldl (fun m x => Pm9.put x m) m, may q = true) ∧
      (L.foldl (fun m x => Pm9.put x m) m).length ≤ L.length + m.length ∧ Pm9.size (L.foldl (fun m x => Pm9.put x m) m) ≤ Pm9.size L + Pm9.size m by
    obtain ⟨h1, h2, h3, h4⟩ := h L [] List.Pairwise.nil (fun q hq => by cases hq)
    exact ⟨h1, h2, (by simpa using h3 : (L.foldl (fun m x => Pm9.put x m) []).length ≤ L.length), (by simpa [Pm9.size] using h4 : Pm9.size (L.foldl (fun m x => Pm9.put x m) []) ≤ Pm9.size L)⟩
  intro L
  induction L with
  | nil => intro m h1 h2; exact ⟨h1, h2, by simp, by simp [Pm9.size]⟩
  | cons x L ih =>
    intro m h1 h2
    obtain ⟨i1, i2, i3, i4⟩ := ih (Pm9.put x m) (put_sorted h1) (fun q hq => by
      rcases put_mem hq with ⟨h, hm⟩ | h
      · rw [h]; exact hm
      · exact h2 q h)
    obtain ⟨s1, s2⟩ := put_size (x := x) h1
    refine ⟨i1, i2, ?_, ?_⟩
    · simp only [List.foldl_cons, List.length_cons] at i3 ⊢; omega
    · simp only [List.foldl_cons, Pm9.size] at i4 ⊢; omega
/-- What may be is not long. -/
theorem may_bound {x : Pr} (h : may x = true) : 1 ≤ x.k.size ∧ x.k.size ≤ 512 ∧ x.v.size ≤ 262144 := by
  unfold may at h
  simp only [Bool.and_eq_true, decide_eq_true_eq] at h
  exact ⟨h.1, h.2.1, h.2.2.1⟩
/-- How many keys stand ahead of k. -/
def posn (k : ByteArray) : List Pr → Nat
  | [] => 0
  | x :: L => if lt x.k k then posn k L + 1 else 0
theorem posn_le (k : ByteArray) : ∀ L : List Pr, posn k L ≤ L.length
  | [] => Nat.le_refl _
  | x :: L => by
    unfold posn
    split
    · have := posn_le k L; simp; omega
    · exact Nat.zero_le _
theorem posn_lt {k : ByteArray} : ∀ {L : List Pr} {i : Nat} (h : i < L.length), Sorted L → lt L[i].k k = decide (i < posn k L)
  | x :: L, i, h, hs => by
    unfold posn
    cases hx : lt x.k k
    · rw [if_neg (by simp), decide_eq_false (by omega)]
      cases i with
      | zero => exact hx
      | succ i =>
        simp only [List.getElem_cons_succ]
        have hil : i < L.length := by simpa using h
        have hm := hs.head _ (List.getElem_mem hil)
        cases hc : lt L[i].k k
        · rfl
        · rw [lt_trans hm hc] at hx; cases hx
    · rw [if_pos rfl]
      cases i with
      | zero => simp [hx]
      | succ i =>
        simp only [List.getElem_cons_succ]
        rw [posn_lt (show i < L.length by simpa using h) hs.tail]
        exact decide_eq_decide.2 (by omega)
/-- What Get finds. -/
theorem get_posn {k : ByteArray} {L : List Pr} (hs : Sorted L) : Pm9.get k L = if h : posn k L < L.length then (if L[posn k L].k.toList == k.toList then some L[posn k L] else none) else none := by
  by_cases h : posn k L < L.length
  · rw [dif_pos h]
    have e : L = L.take (posn k L) ++ L[posn k L] :: L.drop (posn k L + 1) := by rw [← List.drop_eq_getElem_cons h, List.take_append_drop]
    have hlo : ∀ q ∈ L.take (posn k L), q.k ≠ k := by
      intro q hq
      obtain ⟨j, hj, rfl⟩ := List.getElem_of_mem hq
      rw [List.getElem_take]
      have hj2 : j < posn k L := by rw [List.length_take] at hj; omega
      have := posn_lt (show j < L.length by omega) hs (k := k)
      rw [decide_eq_true hj2] at this
      exact lt_ne this
    cases hx : L[posn k L].k.toList == k.toList
    · rw [if_neg (by simp)]
      refine get_of_not fun q hq => ?_
      obtain ⟨j, hj, rfl⟩ := List.getElem_of_mem hq
      intro hc
      have h1 := posn_lt hj hs (k := k)
      rw [hc, lt_irrefl] at h1
      have hjp : ¬ j < posn k L := by simpa using h1.symm
      by_cases hje : j = posn k L
      · subst hje; rw [hc] at hx; simp at hx
      · have h2 : lt L[posn k L].k L[j].k = true := List.pairwise_iff_getElem.1 hs _ _ h hj (by omega)
        have h3 := posn_lt h hs (k := k)
        rw [decide_eq_false (by omega)] at h3
        rw [hc, h3] at h2; cases h2
    · rw [if_pos rfl]
      have hk : L[posn k L].k = k := bytes_ext (by simpa using hx)
      have := get_mid (r := L.drop (posn k L + 1)) hlo hk
      rw [← e] at this
      exact this
  · rw [dif_neg h]
    refine get_of_not fun q hq => ?_
    obtain ⟨j, hj, rfl⟩ := List.getElem_of_mem hq
    have h1 := posn_lt hj hs (k := k)
    rw [decide_eq_true (by omega)] at h1
    exact lt_ne h1
/-- Where the pairs within two bounds end. -/
def stop (b : ByteArray) (L : List Pr) : Nat := if b.size = 0 then L.length else posn b L
theorem stop_le (b : ByteArray) (L : List Pr) : stop b L ≤ L.length := by unfold stop; split; exact Nat.le_refl _; exact posn_le b L
def start (a b : ByteArray) (L : List Pr) : Nat := min (posn a L) (stop b L)
theorem filter_range {α : Type} (p : α → Bool) : ∀ (L : List α) (i j : Nat), j ≤ L.length → (∀ n (h : n < L.length), p L[n] = (decide (i ≤ n) && decide (n < j))) → L.filter p = (L.take j).drop i
  | [], i, j, _, _ => by simp
  | x :: L, i, j, hj, h => by
    have h0 := h 0 (by simp)
    simp only [List.getElem_cons_zero] at h0
    cases j with
    | zero =>
      rw [List.take_zero, List.drop_nil]
      refine List.filter_eq_nil_iff.2 fun q hq => ?_
      obtain ⟨m, hm, rfl⟩ := List.getElem_of_mem hq
      rw [h m hm]; simp
    | succ j =>
      have ih := filter_range p L (i - 1) j (by simpa using hj) (fun n hn => by
        have := h (n + 1) (by simpa using hn)
        simp only [List.getElem_cons_succ] at this
        rw [this]
        congr 1
        · exact decide_eq_decide.2 (by omega)
        · exact decide_eq_decide.2 (by omega))
      rw [List.take_succ_cons, List.filter_cons, h0]
      cases i with
      | zero => simp only [Nat.le_refl, decide_true, Bool.true_and, Nat.zero_lt_succ, if_true, List.drop_zero]; rw [ih]; simp
      | succ i => simp only [List.drop_succ_cons]; rw [ih]; simp
/-- The pairs within two bounds are a piece. -/
theorem within_piece {a b : ByteArray} {L : List Pr} (hs : Sorted L) : L.filter (within a b) = (L.take (stop b L)).drop (start a b L) := by
  have h := filter_range (within a b) L (posn a L) (stop b L) (stop_le b L) (fun n hn => by
    unfold within stop
    rw [posn_lt hn hs, posn_lt hn hs]
    by_cases hb : b.size = 0
    · rw [if_pos hb, decide_eq_true hb, Bool.true_or, decide_eq_true hn, Bool.and_true, Bool.and_true]
      by_cases hp : n < posn a L
      · rw [decide_eq_true hp, decide_eq_false (by omega)]; rfl
      · rw [decide_eq_false hp, decide_eq_true (by omega)]; rfl
    · rw [if_neg hb, decide_eq_false hb, Bool.false_or]
      by_cases hp : n < posn a L
      · rw [decide_eq_true hp, decide_eq_false (p := posn a L ≤ n) (by omega)]; rfl
      · rw [decide_eq_false hp, decide_eq_true (p := posn a L ≤ n) (by omega)]; rfl)
  rw [h]
  unfold start
  by_cases hc : posn a L ≤ stop b L
  · rw [Nat.min_eq_left hc]
  · rw [Nat.min_eq_right (by omega), List.drop_of_length_le (by rw [List.length_take]; omega), List.drop_of_length_le (by rw [List.length_take]; omega)]
/-- How many pairs a scan tells. -/
def many (n : Int) (a b : ByteArray) (L : List Pr) : Nat := min n.toNat (stop b L - start a b L)
theorem scan_piece {a b : ByteArray} {n : Int} {L : List Pr} (hs : Sorted L) : Pm9.scan a b n L = (L.drop (start a b L)).take (many n a b L) := by
  unfold Pm9.scan many
  rw [within_piece hs, List.drop_take]
  rw [List.take_take]
/-- What a scan answers where bytes B lie in the file. -/
def told (B : List UInt8) (L : List Pr) : Nat → Nat → List Pr × Int
  | _, 0 => ([], 0)
  | i, m + 1 => if fine B L i then (L.getD i ⟨⟨#[]⟩, ⟨#[]⟩, false⟩ :: (told B L (i + 1) m).1, (told B L (i + 1) m).2) else ([], 71)
end Go.Proofs.Ytmnaamjoikfpbaa.Fd10
