/- MemScans on plain data: which pair of a key was put last, scans that are cut, scans that are gone on with. -/
import Derived.Test.YtkbjmbllnnghlaaTw9
namespace Go.Proofs.Ytkbjmbllnnghlaa.Sl9
open Go Go.Proofs.Ytkbjmbllnnghlaa.Pm9 Go.Proofs.Ytkbjmbllnnghlaa.Sn9 Go.Proofs.Ytkbjmbllnnghlaa.Tw9
theorem eq_self (k : ByteArray) : (k.toList == k.toList) = true := by simp
theorem eq_of {a b : ByteArray} (h : (a.toList == b.toList) = true) : a = b := bytes_ext (by simpa using h)
theorem ne_of {a b : ByteArray} (h : a ≠ b) : (a.toList == b.toList) = false := by
  cases hc : a.toList == b.toList
  · rfl
  · exact absurd (eq_of hc) h
theorem get_ins (k : ByteArray) (x : Pr) : ∀ {l : List Pr}, Sorted l → Pm9.get k (ins x l) = if x.k.toList == k.toList then some x else Pm9.get k l
  | [], _ => rfl
  | y :: l, h => by
    have ih := get_ins k x h.tail
    cases h1 : lt x.k y.k
    · cases h2 : lt y.k x.k
      · have e := lt_total h1 h2
        rw [ins_here e]
        show (if x.k.toList == k.toList then some x else Pm9.get k l) = if x.k.toList == k.toList then some x else (if y.k.toList == k.toList then some y else Pm9.get k l)
        rw [← e]
        cases x.k.toList == k.toList <;> rfl
      · have hi : ins x (y :: l) = y :: ins x l := by
          show (if lt x.k y.k = true then _ else if lt y.k x.k = true then _ else _) = _
          rw [h1, h2]; rfl
        rw [hi]
        show (if y.k.toList == k.toList then some y else Pm9.get k (ins x l)) = if x.k.toList == k.toList then some x else (if y.k.toList == k.toList then some y else Pm9.get k l)
        rw [ih]
        cases hy : y.k.toList == k.toList
        · rfl
        · have hx : (x.k.toList == k.toList) = false := ne_of fun e => lt_ne h2 ((eq_of hy).trans e.symm)
          rw [hx]; rfl
    · have hi : ins x (y :: l) = x :: y :: l := by
        show (if lt x.k y.k = true then _ else _) = _
        rw [h1]; rfl
      rw [hi]; rfl
theorem get_put (k : ByteArray) (x : Pr) {l : List Pr} (h : Sorted l) : Pm9.get k (Pm9.put x l) = if (x.k.toList == k.toList && may x) then some x else Pm9.get k l := by
  unfold Pm9.put
  cases hm : may x
  · simp
  · simp only [if_true, Bool.and_true]
    exact get_ins k x h
/-- The pair of a key that was put last, of those that may be. -/
def lastOpt (k : ByteArray) : Option Pr → List Pr → Option Pr
  | o, [] => o
  | o, x :: r => lastOpt k (if (x.k.toList == k.toList && may x) then some x else o) r
theorem get_putAll (k : ByteArray) : ∀ (r : List Pr) {l : List Pr}, Sorted l → Pm9.get k (putAll l r) = lastOpt k (Pm9.get k l) r
  | [], _, _ => rfl
  | x :: r, l, h => by
    show Pm9.get k (putAll (Pm9.put x l) r) = lastOpt k _ r
    rw [get_putAll k r (put_sorted h), get_put k x h]
/-- The same with a pair in place of none, as it is reckoned. -/
def lastOf (k : ByteArray) : Pr → List Pr → Pr
  | d, [] => d
  | d, x :: r => lastOf k (if (x.k.toList == k.toList && may x) then x else d) r
theorem lastOf_opt (k : ByteArray) (d : Pr) : ∀ (r : List Pr) (o : Option Pr), lastOf k (o.getD d) r = (lastOpt k o r).getD d
  | [], _ => rfl
  | x :: r, o => by
    show lastOf k (if (x.k.toList == k.toList && may x) then x else o.getD d) r = (lastOpt k (if (x.k.toList == k.toList && may x) then some x else o) r).getD d
    cases x.k.toList == k.toList && may x
    · exact lastOf_opt k d r o
    · exact lastOf_opt k d r (some x)
theorem lastOf_snoc (k : ByteArray) (x : Pr) : ∀ (r : List Pr) (d : Pr), lastOf k d (r ++ [x]) = if (x.k.toList == k.toList && may x) then x else lastOf k d r
  | [], _ => rfl
  | _ :: r, _ => lastOf_snoc k x r _
theorem get_mem {l : List Pr} (h : Sorted l) : ∀ q ∈ l, Pm9.get q.k l = some q := by
  induction l with
  | nil => intro q hq; cases hq
  | cons y l ih =>
    intro q hq
    show (if y.k.toList == q.k.toList then some y else Pm9.get q.k l) = some q
    rcases List.mem_cons.1 hq with rfl | hq
    · rw [eq_self]; rfl
    · rw [ne_of (lt_ne (h.head q hq))]
      exact ih h.tail q hq
/-- What is there of a key is what was put last. -/
theorem last_is {L : List Pr} {q : Pr} (d : Pr) (hq : q ∈ putAll [] L) : lastOf q.k d L = q := by
  have hs : Sorted (putAll [] L) := by
    have := (upto_facts L L.length (Nat.le_refl _)).2.2.2
    rwa [upto, List.take_length] at this
  have h1 := get_mem hs q hq
  rw [get_putAll q.k L List.Pairwise.nil] at h1
  have h2 := lastOf_opt q.k d L none
  have h3 : Pm9.get q.k [] = none := rfl
  rw [h3] at h1
  rw [h1] at h2
  exact h2
theorem lastOpt_some (k : ByteArray) : ∀ (r : List Pr) (o : Option Pr), o.isSome = true → (lastOpt k o r).isSome = true
  | [], _, h => h
  | x :: r, o, h => by
    refine lastOpt_some k r _ ?_
    cases x.k.toList == k.toList && may x
    · exact h
    · rfl
/-- What may be and was put is there. -/
theorem is_there {x : Pr} (hm : may x = true) : ∀ {L : List Pr} {l : List Pr}, Sorted l → x ∈ L → (Pm9.get x.k (putAll l L)).isSome = true
  | y :: L, l, hs, h => by
    rcases List.mem_cons.1 h with rfl | h
    · show (Pm9.get x.k (putAll (Pm9.put x l) L)).isSome = true
      rw [get_putAll x.k L (put_sorted hs), get_put x.k x hs, eq_self, hm]
      exact lastOpt_some _ _ _ rfl
    · exact is_there hm (l := Pm9.put y l) (put_sorted hs) h
/-- A scan that is cut: what stands ahead of the cut, and what does not. -/
theorem cut_parts {b : ByteArray} : ∀ {l : List Pr}, Sorted l → (l.filter fun q => lt q.k b) ++ (l.filter fun q => !lt q.k b) = l
  | [], _ => rfl
  | y :: l, h => by
    have ih := cut_parts (b := b) h.tail
    cases hy : lt y.k b
    · have e1 : l.filter (fun q => lt q.k b) = [] := List.filter_eq_nil_iff.2 fun q hq hc => by
        have := lt_trans (h.head q hq) hc
        rw [hy] at this; cases this
      rw [e1, List.nil_append] at ih
      simp only [List.filter_cons, hy, Bool.false_eq_true, if_false, Bool.not_false, if_true, e1, List.nil_append]
      rw [ih]
    · simp only [List.filter_cons, hy, if_true, Bool.not_true, Bool.false_eq_true, if_false, List.cons_append]
      rw [ih]
theorem lt_empty (k : ByteArray) : lt k ⟨#[]⟩ = false := by
  unfold lt
  have : ByteArray.toList ⟨#[]⟩ = [] := by rw [ByteArray.toList_eq]
  rw [this]
  cases k.toList <;> rfl
theorem scan_cut {b : ByteArray} {n : Int} {l : List Pr} (hs : Sorted l) (hb : b.size ≠ 0) (hn : (l.length : Int) ≤ n) : scan ⟨#[]⟩ b n l ++ scan b ⟨#[]⟩ n l = l := by
  have e1 : l.filter (within ⟨#[]⟩ b) = l.filter fun q => lt q.k b := List.filter_congr fun q _ => by
    unfold within
    rw [lt_empty, decide_eq_false hb]; simp only [Bool.not_false, Bool.true_and, Bool.false_or]
  have e2 : l.filter (within b ⟨#[]⟩) = l.filter fun q => !lt q.k b := List.filter_congr fun q _ => by
    unfold within
    rw [show decide ((⟨#[]⟩ : ByteArray).size = 0) = true from rfl]; simp only [Bool.true_or, Bool.and_true]
  unfold scan
  rw [e1, e2, List.take_of_length_le (by have := List.length_filter_le (fun q : Pr => lt q.k b) l; omega), List.take_of_length_le (by have := List.length_filter_le (fun q : Pr => !lt q.k b) l; omega)]
  exact cut_parts hs
/-- The text behind a key: with a byte 0 more. -/
theorem bl_next : ∀ (a k : List UInt8), Op.bytesLess a (k ++ [0]) = !Op.bytesLess k a
  | [], [] => rfl
  | [], _ :: _ => rfl
  | a :: x, [] => by
    have h : Op.bytesLess (a :: x) [0] = false := by
      simp only [Op.bytesLess, Bool.or_eq_false_iff, decide_eq_false_iff_not, Bool.and_eq_false_iff]
      refine ⟨fun h => ?_, .inr (by cases x <;> simp [Op.bytesLess])⟩
      rw [UInt8.lt_iff_toNat_lt] at h
      exact absurd h (by simp)
    show Op.bytesLess (a :: x) [0] = !Op.bytesLess [] (a :: x)
    rw [h]; rfl
  | a :: x, c :: y => by
    show (decide (a < c) || (a == c && Op.bytesLess x (y ++ [0]))) = !(decide (c < a) || (c == a && Op.bytesLess y x))
    rw [bl_next x y]
    by_cases h1 : a < c
    · have h2 : ¬ c < a := by rw [UInt8.lt_iff_toNat_lt] at h1 ⊢; omega
      have h3 : (c == a) = false := by
        cases hc : c == a
        · rfl
        · rw [beq_iff_eq] at hc; rw [hc, UInt8.lt_iff_toNat_lt] at h1; omega
      rw [decide_eq_true h1, decide_eq_false h2, h3]; rfl
    · by_cases h2 : c < a
      · have h3 : (a == c) = false := by
          cases hc : a == c
          · rfl
          · rw [beq_iff_eq] at hc; rw [hc, UInt8.lt_iff_toNat_lt] at h2; omega
        rw [decide_eq_false h1, decide_eq_true h2, h3]; rfl
      · have e : a = c := by
          rw [UInt8.lt_iff_toNat_lt] at h1 h2
          exact UInt8.toNat_inj.1 (by omega)
        subst e
        rw [decide_eq_false h1]; simp
/-- Behind the first pairs: the rest is what does not stand ahead of the text behind the last one's key. -/
theorem drop_next {A R : List Pr} {y : Pr} {k : ByteArray} (hs : Sorted (A ++ y :: R)) (hk : k.toList = y.k.toList ++ [0]) : ((A ++ y :: R).filter fun q => !lt q.k k) = R := by
  obtain ⟨_, _, h3, h4⟩ := Sorted.parts hs
  have e : ∀ q : Pr, lt q.k k = !lt y.k q.k := fun q => by unfold lt; rw [hk]; exact bl_next _ _
  rw [List.filter_append, List.filter_cons]
  have e1 : A.filter (fun q => !lt q.k k) = [] := List.filter_eq_nil_iff.2 fun q hq => by rw [e, lt_asymm (h3 q hq)]; simp
  have e2 : R.filter (fun q => !lt q.k k) = R := List.filter_eq_self.2 fun q hq => by rw [e, h4 q hq]; rfl
  rw [e1, e2, e, lt_irrefl]
  simp
theorem scan_from {a : ByteArray} {n : Int} {l : List Pr} : scan a ⟨#[]⟩ n l = (l.filter fun q => !lt q.k a).take n.toNat := by
  have e2 : l.filter (within a ⟨#[]⟩) = l.filter fun q => !lt q.k a := List.filter_congr fun q _ => by
    unfold within
    rw [show decide ((⟨#[]⟩ : ByteArray).size = 0) = true from rfl]; simp only [Bool.true_or, Bool.and_true]
  unfold scan
  rw [e2]
end Go.Proofs.Ytkbjmbllnnghlaa.Sl9
