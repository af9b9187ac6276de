/- A man: its three fields, which may be, and what a row of its numbers in order tells of that. -/
import Derived.Test.YtaoneiicoaiehaaGreatNu11
import Derived.Test.YtaoneiicoaiehaaGreatSx11
namespace Go.Proofs.YtaoneiicoaiehaaGreat.Ma11
open Go Go.RowKit Go.Lib Go.Proofs.YtaoneiicoaiehaaGreat.Dh Go.Proofs.YtaoneiicoaiehaaGreat.Nu11
structure Man where
  wal : Nat
  runs : List Nat
  next : Nat
/-- Its numbers: the log's, then the runs'. -/
def Man.all (m : Man) : List Nat := m.wal :: m.runs
def may (m : Man) : Bool := decide (m.runs.length ≤ 256) && decide (m.next ≤ 1099511627776) && decide (∀ n ∈ m.all, 1 ≤ n ∧ n < m.next) && decide m.all.Nodup
theorem may_iff {m : Man} : may m = true ↔ m.runs.length ≤ 256 ∧ m.next ≤ 1099511627776 ∧ (∀ n ∈ m.all, 1 ≤ n ∧ n < m.next) ∧ m.all.Nodup := by
  unfold may
  simp only [Bool.and_eq_true, decide_eq_true_eq, and_assoc]
/-- Numbers in order. -/
def Asc (l : List Nat) : Prop := ∀ i j (hj : j < l.length) (hij : i < j), l[i] ≤ l[j]
theorem asc_first {l : List Nat} (h : Asc l) (h0 : 0 < l.length) : ∀ n ∈ l, l[0] ≤ n := by
  intro n hn
  obtain ⟨i, hi, rfl⟩ := List.getElem_of_mem hn
  cases i with
  | zero => exact Nat.le_refl _
  | succ i => exact h 0 (i + 1) hi (by omega)
theorem asc_last {l : List Nat} (h : Asc l) (h0 : 0 < l.length) : ∀ n ∈ l, n ≤ l[l.length - 1] := by
  intro n hn
  obtain ⟨i, hi, rfl⟩ := List.getElem_of_mem hn
  by_cases e : i = l.length - 1
  · subst e; exact Nat.le_refl _
  · exact h i (l.length - 1) (by omega) (by omega)
/-- The two ends tell of all. -/
theorem ends_iff {l l' : List Nat} (hp : l'.Perm l) (ha : Asc l') (h0 : 0 < l'.length) (x : Nat) : (∀ n ∈ l, 1 ≤ n ∧ n < x) ↔ ¬ (l'[0] = 0 ∨ x ≤ l'[l'.length - 1]) := by
  constructor
  · intro h hc
    rcases hc with hc | hc
    · have := (h _ (hp.mem_iff.1 (List.getElem_mem h0))).1; omega
    · have := (h _ (hp.mem_iff.1 (List.getElem_mem (show l'.length - 1 < l'.length by omega)))).2; omega
  · intro h n hn
    have hn' := hp.mem_iff.2 hn
    have h1 := asc_first ha h0 n hn'
    have h2 := asc_last ha h0 n hn'
    omega
/-- Neighbours tell of all. -/
theorem nodup_iff {l l' : List Nat} (hp : l'.Perm l) (ha : Asc l') : l.Nodup ↔ ∀ i (h : i + 1 < l'.length), l'[i + 1] ≠ l'[i] := by
  rw [← hp.nodup_iff]
  show List.Pairwise _ l' ↔ _
  rw [List.pairwise_iff_getElem]
  constructor
  · intro h i hi e
    exact h i (i + 1) (by omega) hi (by omega) e.symm
  · intro h
    have hlt : ∀ d i (hj : i + d + 1 < l'.length), l'[i] < l'[i + d + 1] := by
      intro d
      induction d with
      | zero =>
        intro i hj
        have h1 := ha i (i + 1) hj (by omega)
        have h2 := h i hj
        show l'[i] < l'[i + 1]
        omega
      | succ d ih =>
        intro i hj
        have h1 := ih i (by omega)
        have h2 := ha (i + d + 1) (i + (d + 1) + 1) hj (by omega)
        omega
    intro i j hi hj hij e
    obtain ⟨d, rfl⟩ : ∃ d, j = i + d + 1 := ⟨j - i - 1, by omega⟩
    have := hlt d i hj
    omega
/-- A man that came in: what its slice reads as, and that its numbers fit. -/
structure ManAt (w : World) (m : Man) (A : Option Addr) (c : Nat) : Prop where
  nums : Nums w A m.runs
  none : m.runs = [] → A = none ∧ c = 0 ∨ A ≠ none
  wal : m.wal < 18446744073709551616
  next : m.next < 18446744073709551616
  runs : ∀ n ∈ m.runs, n < 18446744073709551616
def manV (m : Man) (A : Option Addr) (c : Nat) : Value := .agg #[.int .u64 (m.wal : Int), .slice A m.runs.length c, .int .u64 (m.next : Int)]
theorem ManAt.keep {B : Nat} {w w' : World} {m : Man} {A : Option Addr} {c : Nat} (h : ManAt w m A c) (hB : w.heap.size ≤ B) (hb : Below B w w') : ManAt w' m A c := ⟨h.nums.keep hB hb, h.none, h.wal, h.next, h.runs⟩
/-- What slices.Sort does to a row of the call's own. -/
def Sorts : Prop := ∀ {w : World} {B : Nat} {l : List Nat} {v : Value}, Own B l v w → l ≠ [] → l.length ≤ 1099511627776 →
  ∃ A c, v = .slice A l.length c ∧ Calls Tryz.prog 41 #[v] w fun e w' => e = .returned (.tuple #[]) ∧ ∃ l' : List Nat, l'.Perm l ∧ Asc l' ∧ Nums w' A l' ∧ Below B w w'
end Go.Proofs.YtaoneiicoaiehaaGreat.Ma11
