/- Heaps: what a call leaves of what lay there; nodes of trees as cells. -/
import Derived.Test.YtkbjmbllnnghlaaPm9
import Derived.Below
namespace Go.Proofs.Ytkbjmbllnnghlaa.Wd9
open Go Go.RowKit Go.Proofs.Ytkbjmbllnnghlaa.Pm9
/-- The block numbers that are own behind a step. -/
def grow (S : Nat → Prop) (w w' : World) (b : Nat) : Prop := S b ∨ (w.heap.size ≤ b ∧ b < w'.heap.size)
structure Tread (S : Nat → Prop) (w w' : World) : Prop where
  os : w'.os = w.os
  tape : w'.tape = w.tape
  output : w'.output = w.output
  size : w.heap.size ≤ w'.heap.size
  block : ∀ b, b < w.heap.size → ¬ S b → w'.heap[b]? = w.heap[b]?
theorem Tread.refl (S : Nat → Prop) (w : World) : Tread S w w := ⟨rfl, rfl, rfl, Nat.le_refl _, fun _ _ _ => rfl⟩
theorem Tread.trans {S : Nat → Prop} {a b c : World} (h : Tread S a b) (k : Tread (grow S a b) b c) : Tread S a c :=
  ⟨k.os.trans h.os, k.tape.trans h.tape, k.output.trans h.output, Nat.le_trans h.size k.size, fun i hi hn =>
    (k.block i (Nat.lt_of_lt_of_le hi h.size) (fun x => by rcases x with x | x; exact hn x; omega)).trans (h.block i hi hn)⟩
theorem Tread.mono {S S' : Nat → Prop} {a b : World} (h : Tread S a b) (hs : ∀ b, S b → S' b) : Tread S' a b :=
  ⟨h.os, h.tape, h.output, h.size, fun i hi hn => h.block i hi (fun x => hn (hs i x))⟩
theorem Tread.drew {S : Nat → Prop} {a b : World} (h : Tread S a b) : Tread S a b.drew := ⟨h.os, h.tape, h.output, h.size, h.block⟩
theorem Tread.of_drew {S : Nat → Prop} {a b : World} (h : Tread S a.drew b) : Tread S a b := ⟨h.os, h.tape, h.output, h.size, h.block⟩
theorem Tread.of_below {S : Nat → Prop} {a b : World} (h : Below a.heap.size a b) : Tread S a b := ⟨h.os, h.tape, h.output, h.size, fun i hi _ => h.block i hi⟩
theorem Tread.below {S : Nat → Prop} {B : Nat} {a b : World} (h : Tread S a b) (hB : B ≤ a.heap.size) (hs : ∀ i, S i → B ≤ i) : Below B a b :=
  ⟨h.os, h.tape, h.output, h.size, fun i hi => h.block i (by omega) fun x => by have := hs i x; omega⟩
theorem heap_alloc (w : World) (o : Obj) (k : Nat) (h : k < w.heap.size) : (w.alloc o).heap[k]? = w.heap[k]? := Below.heap_alloc w o k h
theorem heap_new (w : World) (o : Obj) : (w.alloc o).heap[w.heap.size]? = some o := by
  show (w.heap.push o)[w.heap.size]? = _
  simp
theorem size_alloc (w : World) (o : Obj) : (w.alloc o).heap.size = w.heap.size + 1 := by
  show (w.heap.push o).size = _
  simp
theorem Tread.alloc (S : Nat → Prop) (w : World) (o : Obj) : Tread S w (w.alloc o) := ⟨rfl, rfl, rfl, by rw [size_alloc]; omega, fun k hk _ => heap_alloc w o k hk⟩
theorem Tread.setCell {S : Nat → Prop} (w : World) (a : Addr) (v : Value) (h : S a.block) : Tread S w (w.setCell a v) :=
  ⟨rfl, rfl, rfl, by simp [World.setCell], fun k _ hn => Below.heap_setCell w a v k (fun e => hn (e ▸ h))⟩
theorem setCell_size (w : World) (a : Addr) (v : Value) : (w.setCell a v).heap.size = w.heap.size := by simp [World.setCell]
theorem setCell_ne (w : World) (a : Addr) (v : Value) (k : Nat) (h : k ≠ a.block) : (w.setCell a v).heap[k]? = w.heap[k]? := Below.heap_setCell w a v k h
theorem lt_of_at {w : World} {b : Nat} {o : Obj} (h : w.heap[b]? = some o) : b < w.heap.size := (Array.getElem?_eq_some_iff.1 h).1
theorem cell_of {w : World} {b : Nat} {cs : Array Value} {t : TypeId} {fr : Nat × Nat} (h : w.heap[b]? = some (.cells cs t fr)) (i : Nat) : w.cell? ⟨b, i, none⟩ = cs[i]? := by
  simp [World.cell?, h]
theorem free_of {w : World} {b : Nat} {cs : Array Value} {t : TypeId} (h : w.heap[b]? = some (.cells cs t (0, 0))) (i : Nat) : w.frozen? ⟨b, i, none⟩ = false := by
  simp [World.frozen?, h]
theorem setCell_heap {w : World} {b : Nat} {cs : Array Value} {t : TypeId} {fr : Nat × Nat} (h : w.heap[b]? = some (.cells cs t fr)) (i : Nat) (v : Value) :
    (w.setCell ⟨b, i, none⟩ v).heap[b]? = some (.cells (cs.setIfInBounds i v) t fr) := by
  simp [World.setCell, Array.getElem?_modify, h]
theorem Tr.ptr_shape (t : Tr) : ∃ a, t.ptr = .pointer a := by cases t; exact ⟨_, rfl⟩; exact ⟨_, rfl⟩
/-- What a node's block holds, cell by cell. -/
theorem node_cells {w : World} {b : Nat} {p : Pr} {n : Int} {x y : Value} (h : w.heap[b]? = some (nodeO p n x y)) :
    w.cell? ⟨b, 0, none⟩ = some (.string p.k) ∧ w.cell? ⟨b, 1, none⟩ = some (.string p.v) ∧ w.cell? ⟨b, 2, none⟩ = some (.bool p.g) ∧ w.cell? ⟨b, 3, none⟩ = some (.int .i64 n) ∧ w.cell? ⟨b, 4, none⟩ = some x ∧ w.cell? ⟨b, 5, none⟩ = some y ∧ ∀ i, w.frozen? ⟨b, i, none⟩ = false :=
  ⟨cell_of h 0, cell_of h 1, cell_of h 2, cell_of h 3, cell_of h 4, cell_of h 5, free_of h⟩
/-- Which tree lies at a pointer. -/
theorem In.uniq {w : World} : ∀ {t t' : Tr}, t.In w → t'.In w → t.ptr = t'.ptr → t = t'
  | .nil, .nil, _, _, _ => rfl
  | .nil, .node .., _, _, h => by cases h
  | .node .., .nil, _, _, h => by cases h
  | .node b p n l r, .node b' p' n' l' r', h, h', e => by
    obtain ⟨h0, h1, h2⟩ := h
    obtain ⟨k0, k1, k2⟩ := h'
    injection e with e
    injection e with e
    injection e with e
    subst e
    rw [h0] at k0
    injection k0 with k0
    simp only [nodeO, Obj.cells.injEq, and_true] at k0
    have e0 : Value.string p.k = .string p'.k := congrArg (fun a : Array Value => a[0]!) k0
    have e1 : Value.string p.v = .string p'.v := congrArg (fun a : Array Value => a[1]!) k0
    have e2 : Value.bool p.g = .bool p'.g := congrArg (fun a : Array Value => a[2]!) k0
    have e3 : Value.int .i64 n = .int .i64 n' := congrArg (fun a : Array Value => a[3]!) k0
    have e4 : l.ptr = l'.ptr := congrArg (fun a : Array Value => a[4]!) k0
    have e5 : r.ptr = r'.ptr := congrArg (fun a : Array Value => a[5]!) k0
    injection e0 with e0
    injection e1 with e1
    injection e2 with e2
    injection e3 with _ e3
    rw [In.uniq h1 k1 e4, In.uniq h2 k2 e5, e3]
    cases p; cases p'; simp only at e0 e1 e2; rw [e0, e1, e2]
def Tr.count : Tr → Nat
  | .nil => 0
  | .node _ _ _ l r => Tr.count l + Tr.count r + 1
open Classical in
/-- How many nodes there are at a pointer. -/
noncomputable def below (w : World) (v : Value) : Nat := if h : ∃ t : Tr, t.ptr = v ∧ t.In w then Tr.count h.choose else 0
theorem below_of {w : World} {t : Tr} (h : t.In w) : below w t.ptr = Tr.count t := by
  have hx : ∃ s : Tr, s.ptr = t.ptr ∧ s.In w := ⟨t, rfl, h⟩
  unfold below
  rw [dif_pos hx]
  rw [In.uniq hx.choose_spec.2 h hx.choose_spec.1]
end Go.Proofs.Ytkbjmbllnnghlaa.Wd9
