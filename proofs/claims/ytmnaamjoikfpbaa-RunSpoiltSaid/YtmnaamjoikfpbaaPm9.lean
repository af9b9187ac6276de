/- Pairs on plain data: their order, what is put, got, scanned; trees of pairs, and what is laid into them. -/
import Derived.Test.YtmnaamjoikfpbaaProg
import Derived.WalkKit
import Derived.Lib.Hide
namespace Go.Proofs.Ytmnaamjoikfpbaa.Pm9
open Go Go.RowKit
structure Pr where
  k : ByteArray
  v : ByteArray
  g : Bool
def pv (p : Pr) : Value := .agg #[.string p.k, .string p.v, .bool p.g]
def cells3 (p : Pr) : List Value := [.string p.k, .string p.v, .bool p.g]
def cellsP (L : List Pr) : List Value := L.flatMap cells3
theorem cellsP_len : ∀ L : List Pr, (cellsP L).length = 3 * L.length
  | [] => rfl
  | p :: L => by
    show (cells3 p ++ cellsP L).length = _
    rw [List.length_append, cellsP_len L]
    show 3 + _ = 3 * (L.length + 1)
    omega
theorem cellsP_append (L M : List Pr) : cellsP (L ++ M) = cellsP L ++ cellsP M := List.flatMap_append ..
theorem cellsP_get (L : List Pr) (k j : Nat) (hk : k < L.length) (hj : j < 3) : (cellsP L)[3 * k + j]? = (cells3 L[k])[j]? := by
  induction L generalizing k with
  | nil => simp at hk
  | cons p L ih =>
    show (cells3 p ++ cellsP L)[3 * k + j]? = _
    cases k with
    | zero => rw [List.getElem?_append_left (by show 3 * 0 + j < 3; omega)]; simp
    | succ k =>
      rw [List.getElem?_append_right (by show 3 ≤ 3 * (k + 1) + j; omega)]
      have e : 3 * (k + 1) + j - (cells3 p).length = 3 * k + j := by show 3 * (k + 1) + j - 3 = _; omega
      rw [e, ih k (by simpa using hk)]
      rfl
/-- Texts' order. -/
theorem bl_irrefl : ∀ l : List UInt8, Op.bytesLess l l = false
  | [] => rfl
  | a :: x => by
    simp only [Op.bytesLess, beq_self_eq_true, Bool.true_and, bl_irrefl x, Bool.or_false]
    exact decide_eq_false (by simp)
theorem bl_asymm : ∀ l m : List UInt8, Op.bytesLess l m = true → Op.bytesLess m l = false
  | [], [], h => by simp [Op.bytesLess] at h
  | [], b :: y, _ => rfl
  | a :: x, [], h => by simp [Op.bytesLess] at h
  | a :: x, b :: y, h => by
    simp only [Op.bytesLess, Bool.or_eq_true, decide_eq_true_eq, Bool.and_eq_true, beq_iff_eq, Bool.or_eq_false_iff, decide_eq_false_iff_not] at h ⊢
    rcases h with h | ⟨rfl, h⟩
    · refine ⟨fun hc => ?_, ?_⟩
      · rw [UInt8.lt_iff_toNat_lt] at h hc; omega
      · have : b ≠ a := fun e => by rw [e, UInt8.lt_iff_toNat_lt] at h; omega
        simp [this]
    · refine ⟨fun hc => by rw [UInt8.lt_iff_toNat_lt] at hc; omega, ?_⟩
      rw [bl_asymm x y h, Bool.and_false]
theorem bl_trans : ∀ l m n : List UInt8, Op.bytesLess l m = true → Op.bytesLess m n = true → Op.bytesLess l n = true
  | [], [], n, h, _ => by simp [Op.bytesLess] at h
  | [], b :: y, [], _, h => by simp [Op.bytesLess] at h
  | [], b :: y, c :: z, _, _ => rfl
  | a :: x, [], n, h, _ => by simp [Op.bytesLess] at h
  | a :: x, b :: y, [], _, h => by simp [Op.bytesLess] at h
  | a :: x, b :: y, c :: z, h, k => by
    simp only [Op.bytesLess, Bool.or_eq_true, decide_eq_true_eq, Bool.and_eq_true, beq_iff_eq] at h k ⊢
    simp only [UInt8.lt_iff_toNat_lt] at h k ⊢
    rcases h with h | ⟨rfl, h⟩
    · rcases k with k | ⟨rfl, k⟩
      · exact .inl (by omega)
      · exact .inl h
    · rcases k with k | ⟨rfl, k⟩
      · exact .inl k
      · exact .inr ⟨rfl, bl_trans x y z h k⟩
theorem bl_total : ∀ l m : List UInt8, Op.bytesLess l m = false → Op.bytesLess m l = false → l = m
  | [], [], _, _ => rfl
  | [], b :: y, h, _ => by simp [Op.bytesLess] at h
  | a :: x, [], _, h => by simp [Op.bytesLess] at h
  | a :: x, b :: y, h, k => by
    simp only [Op.bytesLess, Bool.or_eq_false_iff, decide_eq_false_iff_not, Bool.and_eq_false_iff, beq_eq_false_iff_ne] at h k
    have e : a = b := by
      have h1 := h.1
      have k1 := k.1
      rw [UInt8.lt_iff_toNat_lt] at h1 k1
      exact UInt8.toNat_inj.1 (by omega)
    subst e
    have h2 : Op.bytesLess x y = false := by rcases h.2 with h | h; exact absurd rfl h; exact h
    have k2 : Op.bytesLess y x = false := by rcases k.2 with h | h; exact absurd rfl h; exact h
    rw [bl_total x y h2 k2]
theorem bytes_ext {a b : ByteArray} (h : a.toList = b.toList) : a = b := by
  rw [ByteArray.toList_eq, ByteArray.toList_eq] at h
  have h2 : a.data = b.data := Array.toList_inj.1 h
  cases a; cases b; simp at h2; rw [h2]
/-- Does a stand ahead of b? -/
def lt (a b : ByteArray) : Bool := Op.bytesLess a.toList b.toList
theorem lt_irrefl (a : ByteArray) : lt a a = false := bl_irrefl _
theorem lt_asymm {a b : ByteArray} (h : lt a b = true) : lt b a = false := bl_asymm _ _ h
theorem lt_trans {a b c : ByteArray} (h : lt a b = true) (k : lt b c = true) : lt a c = true := bl_trans _ _ _ h k
theorem lt_total {a b : ByteArray} (h : lt a b = false) (k : lt b a = false) : a = b := bytes_ext (bl_total _ _ h k)
theorem lt_ne {a b : ByteArray} (h : lt a b = true) : a ≠ b := fun e => by rw [e, lt_irrefl] at h; cases h
/-- a is ahead of b, b is not behind c: a is ahead of c. -/
theorem lt_le {a b c : ByteArray} (h : lt a b = true) (k : lt c b = false) : lt a c = true := by
  cases hc : lt b c
  · rw [← lt_total k hc] at h; exact h
  · exact lt_trans h hc
theorem le_lt {a b c : ByteArray} (h : lt b a = false) (k : lt b c = true) : lt a c = true := by
  cases hc : lt a b
  · rw [lt_total hc h]; exact k
  · exact lt_trans hc k
/-- In order, each key once. -/
def Sorted (l : List Pr) : Prop := l.Pairwise fun p q => lt p.k q.k = true
theorem Sorted.tail {p : Pr} {l : List Pr} (h : Sorted (p :: l)) : Sorted l := (List.pairwise_cons.1 h).2
theorem Sorted.head {p : Pr} {l : List Pr} (h : Sorted (p :: l)) : ∀ q ∈ l, lt p.k q.k = true := (List.pairwise_cons.1 h).1
/-- What is there when p is put. -/
def ins (p : Pr) : List Pr → List Pr
  | [] => [p]
  | q :: l => if lt p.k q.k = true then p :: q :: l else if lt q.k p.k = true then q :: ins p l else p :: l
def may (p : Pr) : Bool := decide (1 ≤ p.k.size) && (decide (p.k.size ≤ 512) && (decide (p.v.size ≤ 262144) && (!p.g || decide (p.v.size = 0))))
def put (p : Pr) (l : List Pr) : List Pr := if may p = true then ins p l else l
def get (k : ByteArray) : List Pr → Option Pr
  | [] => none
  | q :: l => if q.k.toList == k.toList then some q else get k l
def size : List Pr → Nat
  | [] => 0
  | q :: l => q.k.size + q.v.size + size l
def within (a b : ByteArray) (q : Pr) : Bool := !lt q.k a && (decide (b.size = 0) || lt q.k b)
def scan (a b : ByteArray) (n : Int) (l : List Pr) : List Pr := (l.filter (within a b)).take n.toNat
theorem size_append : ∀ l m : List Pr, size (l ++ m) = size l + size m
  | [], m => by simp [size]
  | p :: l, m => by simp only [List.cons_append, size, size_append l m]; omega
theorem ins_mem {p : Pr} : ∀ {l : List Pr} {q : Pr}, q ∈ ins p l → q = p ∨ q ∈ l
  | [], q, h => by simp [ins] at h; exact .inl h
  | a :: l, q, h => by
    unfold ins at h
    split at h
    · rcases List.mem_cons.1 h with h | h
      · exact .inl h
      · exact .inr h
    · split at h
      · rcases List.mem_cons.1 h with h | h
        · exact .inr (by rw [h]; exact List.mem_cons_self)
        · rcases ins_mem h with h | h
          · exact .inl h
          · exact .inr (List.mem_cons_of_mem _ h)
      · rcases List.mem_cons.1 h with h | h
        · exact .inl h
        · exact .inr (List.mem_cons_of_mem _ h)
theorem ins_sorted {p : Pr} : ∀ {l : List Pr}, Sorted l → Sorted (ins p l)
  | [], _ => by simp [ins, Sorted]
  | a :: l, h => by
    unfold ins
    cases h1 : lt p.k a.k
    · cases h2 : lt a.k p.k
      · simp only [Bool.false_eq_true, if_false]
        have e := lt_total h1 h2
        refine List.pairwise_cons.2 ⟨fun q hq => by rw [e]; exact h.head q hq, h.tail⟩
      · simp only [Bool.false_eq_true, if_false, if_true]
        refine List.pairwise_cons.2 ⟨fun q hq => ?_, ins_sorted h.tail⟩
        rcases ins_mem hq with hq | hq
        · rw [hq]; exact h2
        · exact h.head q hq
    · simp only [if_true]
      refine List.pairwise_cons.2 ⟨fun q hq => ?_, h⟩
      rcases List.mem_cons.1 hq with hq | hq
      · rw [hq]; exact h1
      · exact lt_trans h1 (h.head q hq)
theorem put_sorted {p : Pr} {l : List Pr} (h : Sorted l) : Sorted (put p l) := by
  unfold put; split
  · exact ins_sorted h
  · exact h
theorem get_none {k : ByteArray} : ∀ {l : List Pr}, get k l = none → ∀ q ∈ l, q.k ≠ k
  | [], _, q, hq => by cases hq
  | a :: l, h, q, hq => by
    unfold get at h
    split at h
    · cases h
    · next hn =>
      rcases List.mem_cons.1 hq with hq | hq
      · rw [hq]; intro e; rw [e] at hn; simp at hn
      · exact get_none h q hq
theorem get_some {k : ByteArray} : ∀ {l : List Pr} {q : Pr}, get k l = some q → q ∈ l ∧ q.k = k
  | [], q, h => by simp [get] at h
  | a :: l, q, h => by
    unfold get at h
    split at h
    · next he =>
      cases h
      exact ⟨List.mem_cons_self, bytes_ext (by simpa using he)⟩
    · obtain ⟨h1, h2⟩ := get_some h
      exact ⟨List.mem_cons_of_mem _ h1, h2⟩
theorem get_of_not {k : ByteArray} : ∀ {l : List Pr}, (∀ q ∈ l, q.k ≠ k) → get k l = none
  | [], _ => rfl
  | a :: l, h => by
    have h1 : (a.k.toList == k.toList) = false := by
      cases hc : a.k.toList == k.toList
      · rfl
      · exact absurd (bytes_ext (by simpa using hc)) (h a List.mem_cons_self)
    unfold get
    rw [h1]
    simp only [Bool.false_eq_true, if_false]
    exact get_of_not fun q hq => h q (List.mem_cons_of_mem _ hq)
/-- Between what stands ahead and what stands behind. -/
theorem get_mid {k : ByteArray} {l r : List Pr} {p : Pr} (hl : ∀ q ∈ l, q.k ≠ k) (hp : p.k = k) : get k (l ++ p :: r) = some p := by
  induction l with
  | nil => show (if p.k.toList == k.toList then some p else get k r) = _; rw [hp]; simp
  | cons a l ih =>
    have h1 : (a.k.toList == k.toList) = false := by
      cases hc : a.k.toList == k.toList
      · rfl
      · exact absurd (bytes_ext (by simpa using hc)) (hl a List.mem_cons_self)
    show (if a.k.toList == k.toList then some a else get k (l ++ p :: r)) = _
    rw [h1]
    simp only [Bool.false_eq_true, if_false]
    exact ih fun q hq => hl q (List.mem_cons_of_mem _ hq)
theorem get_append_left {k : ByteArray} {l r : List Pr} (hr : ∀ q ∈ r, q.k ≠ k) : get k (l ++ r) = get k l := by
  induction l with
  | nil => exact get_of_not hr
  | cons a l ih => show (if a.k.toList == k.toList then some a else get k (l ++ r)) = (if a.k.toList == k.toList then some a else get k l); rw [ih]
theorem get_append_right {k : ByteArray} {l r : List Pr} (hl : ∀ q ∈ l, q.k ≠ k) : get k (l ++ r) = get k r := by
  induction l with
  | nil => rfl
  | cons a l ih =>
    have h1 : (a.k.toList == k.toList) = false := by
      cases hc : a.k.toList == k.toList
      · rfl
      · exact absurd (bytes_ext (by simpa using hc)) (hl a List.mem_cons_self)
    show (if a.k.toList == k.toList then some a else get k (l ++ r)) = _
    rw [h1]
    simp only [Bool.false_eq_true, if_false]
    exact ih fun q hq => hl q (List.mem_cons_of_mem _ hq)
theorem ins_right {p : Pr} {l r : List Pr} (hl : ∀ q ∈ l, lt q.k p.k = true) : ins p (l ++ r) = l ++ ins p r := by
  induction l with
  | nil => rfl
  | cons a l ih =>
    have h1 := hl a List.mem_cons_self
    show (if lt p.k a.k = true then _ else if lt a.k p.k = true then _ else _) = _
    rw [lt_asymm h1, h1]
    exact congrArg (a :: ·) (ih fun q hq => hl q (List.mem_cons_of_mem _ hq))
theorem ins_left {p a : Pr} {l r : List Pr} (ha : lt p.k a.k = true) : ins p (l ++ a :: r) = ins p l ++ a :: r := by
  induction l with
  | nil => show (if lt p.k a.k = true then _ else _) = _; rw [if_pos ha]; rfl
  | cons b l ih =>
    show (if lt p.k b.k = true then _ else if lt b.k p.k = true then _ else _) = (if lt p.k b.k = true then _ else if lt b.k p.k = true then _ else _) ++ _
    cases lt p.k b.k
    · cases lt b.k p.k
      · rfl
      · exact congrArg (b :: ·) ih
    · rfl
theorem ins_here {p a : Pr} {r : List Pr} (h : p.k = a.k) : ins p (a :: r) = p :: r := by
  show (if lt p.k a.k = true then _ else if lt a.k p.k = true then _ else _) = _
  rw [h, lt_irrefl]; rfl
/-- How many there are, and how many bytes, behind an insert. -/
theorem ins_size {p : Pr} : ∀ {l : List Pr}, Sorted l → (get p.k l = none → (ins p l).length = l.length + 1 ∧ size (ins p l) = size l + (p.k.size + p.v.size)) ∧
    (∀ q, get p.k l = some q → (ins p l).length = l.length ∧ size (ins p l) + q.v.size = size l + p.v.size)
  | [], _ => ⟨fun _ => ⟨rfl, by simp only [ins, size]; omega⟩, fun q h => by cases h⟩
  | a :: l, h => by
    obtain ⟨i1, i2⟩ := ins_size (p := p) h.tail
    cases h1 : lt p.k a.k
    · cases h2 : lt a.k p.k
      · have e := lt_total h1 h2
        have hg : get p.k (a :: l) = some a := by unfold get; rw [e]; simp
        rw [hg]
        refine ⟨(fun h => (by cases h)), fun q hq => ?_⟩
        cases hq
        rw [ins_here e]
        refine ⟨rfl, ?_⟩
        simp only [size]
        rw [e]; omega
      · have hg : get p.k (a :: l) = get p.k l := by
          conv => lhs; unfold get
          rw [if_neg]
          intro hc
          exact lt_ne h2 (bytes_ext (by simpa using hc))
        have hi : ins p (a :: l) = a :: ins p l := by
          show (if lt p.k a.k = true then _ else if lt a.k p.k = true then _ else _) = _
          rw [h1, h2]; rfl
        rw [hg, hi]
        refine ⟨fun h => ?_, fun q hq => ?_⟩
        · obtain ⟨j1, j2⟩ := i1 h
          simp only [List.length_cons, size]
          exact ⟨by omega, by omega⟩
        · obtain ⟨j1, j2⟩ := i2 q hq
          simp only [List.length_cons, size]
          exact ⟨by omega, by omega⟩
    · have hn : get p.k (a :: l) = none := by
        refine get_of_not fun q hq => ?_
        rcases List.mem_cons.1 hq with hq | hq
        · rw [hq]; exact (lt_ne h1).symm
        · exact (lt_ne (lt_trans h1 (h.head q hq))).symm
      rw [hn]
      have hi : ins p (a :: l) = p :: a :: l := by
        show (if lt p.k a.k = true then _ else if lt a.k p.k = true then _ else _) = _
        rw [h1]; rfl
      rw [hi]
      refine ⟨fun _ => ⟨rfl, ?_⟩, fun q hq => by cases hq⟩
      simp only [size]; omega
/-- In order: what stands ahead of a node, and behind it. -/
theorem Sorted.parts {l r : List Pr} {p : Pr} (h : Sorted (l ++ p :: r)) : Sorted l ∧ Sorted r ∧ (∀ q ∈ l, lt q.k p.k = true) ∧ (∀ q ∈ r, lt p.k q.k = true) := by
  unfold Sorted at h
  rw [List.pairwise_append, List.pairwise_cons] at h
  exact ⟨h.1, h.2.1.2, fun q hq => h.2.2 q hq p List.mem_cons_self, h.2.1.1⟩
end Go.Proofs.Ytmnaamjoikfpbaa.Pm9
