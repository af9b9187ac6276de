/- Heaps: what a call leaves of what lay there; nodes of trees as cells. -/
import Derived.Test.YtmnaamjoikfpbaaPm9
import Derived.Below
namespace Go.Proofs.Ytmnaamjoikfpbaa.Wd9
open Go Go.RowKit Go.Proofs.Ytmnaamjoikfpbaa.Pm9
/-- The block numbers that are own behind a step. -/
def grow (S : Nat → Prop) (w w' : World) (b : Nat) : Prop := S b ∨ (w.heap.size ≤ b ∧ b < w'.heap.size)
structure Tread (S : Nat → Prop) (w w' : World) : Prop where
  os : w'.os = w.os
  tape : w'.tape = w.tape
  output : w'.output = w.output
  size : w.heap.size ≤ w'.heap.size
  block : ∀ b, b < w.heap.size → ¬ S b → w'.heap[b]? = w.heap[b]?
theorem Tread.refl (S : Nat → Prop) (w : World) : Tread S w w := ⟨rfl, rfl, rfl, Nat.le_refl _, fun _ _ _ => rfl⟩
theorem Tread.trans {S : Nat → Prop} {a b c : World} (h : Tread S a b) (k : Tread (grow S a b) b c) : Tread S a c :=
  ⟨k.os.trans h.os, k.tape.trans h.tape, k.output.trans h.output, Nat.le_trans h.size k.size, fun i hi hn =>
    (k.block i (Nat.lt_of_lt_of_le hi h.size) (fun x => by rcases x with x | x; exact hn x; omega)).trans (h.block i hi hn)⟩
theorem Tread.mono {S S' : Nat → Prop} {a b : World} (h : Tread S a b) (hs : ∀ b, S b → S' b) : Tread S' a b :=
  ⟨h.os, h.tape, h.output, h.size, fun i hi hn => h.block i hi (fun x => hn (hs i x))⟩
theorem Tread.drew {S : Nat → Prop} {a b : World} (h : Tread S a b) : Tread S a b.drew := ⟨h.os, h.tape, h.output, h.size, h.block⟩
theorem Tread.of_drew {S : Nat → Prop} {a b : World} (h : Tread S a.drew b) : Tread S a b := ⟨h.os, h.tape, h.output, h.size, h.block⟩
theorem Tread.of_below {S : Nat → Prop} {a b : World} (h : Below a.heap.size a b) : Tread S a b := ⟨h.os, h.tape, h.output, h.size, fun i hi _ => h.block i hi⟩
theorem Tread.below {S : Nat → Prop} {B : Nat} {a b : World} (h : Tread S a b) (hB : B ≤ a.heap.size) (hs : ∀ i, S i → B ≤ i) : Below B a b :=
  ⟨h.os, h.tape, h.output, h.size, fun i hi => h.block i (by omega) fun x => by have := hs i x; omega⟩
theorem heap_alloc (w : World) (o : Obj) (k : Nat) (h : k < w.heap.size) : (w.alloc o).heap[k]? = w.heap[k]? := Below.heap_alloc w o k h
theorem heap_new (w : World) (o : Obj) : (w.alloc o).heap[w.heap.size]? = some o := by
  show (w.heap.push o)[w.heap.size]? = _
  simp
theorem size_alloc (w : World) (o : Obj) : (w.alloc o).heap.size = w.heap.size + 1 := by
  show (w.heap.push o).size = _
  simp
theorem Tread.alloc (S : Nat → Prop) (w : World) (o : Obj) : Tread S w (w.alloc o) := ⟨rfl, rfl, rfl, by rw [size_alloc]; omega, fun k hk _ => heap_alloc w o k hk⟩
theorem Tread.setCell {S : Nat → Prop} (w : World) (a : Addr) (v : Value) (h : S a.block) : Tread S w (w.setCell a v) :=
  ⟨rfl, rfl, rfl, by simp [World.setCell], fun k _ hn => Below.heap_setCell w a v k (fun e => hn (e ▸ h))⟩
theorem setCell_size (w : World) (a : Addr) (v : Value) : (w.setCell a v).heap.size = w.heap.size := by simp [World.setCell]
theorem setCell_ne (w : World) (a : Addr) (v : Value) (k : Nat) (h : k ≠ a.block) : (w.setCell a v).heap[k]? = w.heap[k]? := Below.heap_setCell w a v k h
theorem lt_of_at {w : World} {b : Nat} {o : Obj} (h : w.heap[b]? = some o) : b < w.heap.size := (Array.getElem?_eq_some_iff.1 h).1
theorem cell_of {w : World} {b : Nat} {cs : Array Value} {t : TypeId} {fr : Nat × Nat} (h : w.heap[b]? = some (.cells cs t fr)) (i : Nat) : w.cell? ⟨b, i, none⟩ = cs[i]? := by
  simp [World.cell?, h]
theorem free_of {w : World} {b : Nat} {cs : Array Value} {t : TypeId} (h : w.heap[b]? = some (.cells cs t (0, 0))) (i : Nat) : w.frozen? ⟨b, i, none⟩ = false := by
  simp [World.frozen?, h]
theorem setCell_heap {w : World} {b : Nat} {cs : Array Value} {t : TypeId} {fr : Nat × Nat} (h : w.heap[b]? = some (.cells cs t fr)) (i : Nat) (v : Value) :
    (w.setCell ⟨b, i, none⟩ v).heap[b]? = some (.cells (cs.setIfInBounds i v) t fr) := by
  simp [World.setCell, Array.getElem?_modify, h]
end Go.Proofs.Ytmnaamjoikfpbaa.Wd9
