/- Bytes that a call appends to a slice of its own, and values that it has made. -/
import Derived.Test.YtbkaphcipbhmhaaDoorCm0
import Derived.Test.YtbkaphcipbhmhaaDoorProg
import Derived.Test.YtbkaphcipbhmhaaDoorVr
import Derived.WalkKit
import Derived.Lib.AppendStr
import Derived.Maps.AppendAt
import Derived.OwnWalk
import Derived.OneCell
import Derived.Lib.Hide
import Derived.Deep.OwnRows
import Derived.Laws.BytesArg
namespace Go.Proofs.YtbkaphcipbhmhaaDoor.Bu6
open Go Go.RowKit Go.Proofs.YtbkaphcipbhmhaaDoor.Wm Go.Proofs.YtbkaphcipbhmhaaDoor.Cm Go.Proofs.YtbkaphcipbhmhaaDoor.Vm
theorem undL : Tryd.prog.underlying 40 = some (.slice 5) := by kernel_rfl
theorem undE : Tryd.prog.underlying 5 = some (.int .u8) := by kernel_rfl
theorem undS : Tryd.prog.underlying 9 = some .string := by kernel_rfl
theorem infoE : (Tryd.prog.info? 5).map (fun i => (i.zero, i.size, i.bytes)) = some (some (.int .u8 0), 1, 1) := by kernel_rfl
theorem addr_add (b j : Nat) : Addr.add ⟨b, 0, none⟩ j = ⟨b, j, none⟩ := by cases j <;> simp [Addr.add]
/-- v is a slice of the call's own, of bytes l. -/
def Buf (w : World) (B : Nat) (v : Value) (l : List UInt8) : Prop := w.ownsRow B 5 1 v l.length (Lib.strCells (bs l)) ∧ B ≤ w.heap.size
theorem Buf.nil (w : World) : Buf w w.heap.size (.slice none 0 0) [] := ⟨⟨rfl, .inl ⟨rfl, rfl⟩⟩, Nat.le_refl _⟩
theorem Buf.keep {w w' : World} {B : Nat} {v : Value} {l : List UInt8} (h : Buf w B v l) (hb : Below w.heap.size w w') : Buf w' B v l := by
  obtain ⟨⟨h1, h2⟩, h3⟩ := h
  refine ⟨⟨h1, ?_⟩, Nat.le_trans h3 hb.size⟩
  rcases h2 with h2 | ⟨g, cap, cur, a, b, c, d⟩
  · exact .inl h2
  · exact .inr ⟨g, cap, cur, a, b, (hb.block g (lt_of_block c)).trans c, d⟩
theorem strCells_app (l m : List UInt8) : Lib.strCells (bs l) ++ Lib.strCells (bs m) = Lib.strCells (bs (l ++ m)) := by
  simp [Lib.strCells, bs]
theorem Buf.more {w' : World} {B : Nat} {v' : Value} {l m : List UInt8} (h : w'.ownsRow B 5 1 v' (l.length + (bs m).size) (Lib.strCells (bs l) ++ Lib.strCells (bs m))) (hb : B ≤ w'.heap.size) : Buf w' B v' (l ++ m) := by
  refine ⟨?_, hb⟩
  rw [List.length_append, ← strCells_app]
  exact h
theorem Buf.own {w : World} {B : Nat} {v : Value} {l : List UInt8} (h : Buf w B v l) : ∀ k, v.ownBlock = some k → B ≤ k := by
  obtain ⟨⟨_, h2⟩, _⟩ := h
  rcases h2 with ⟨rfl, _⟩ | ⟨g, cap, cur, rfl, b, _⟩
  · intro k hk; cases hk
  · intro k hk; cases hk; exact b
theorem nb_none : Value.ownBlock (.slice none 0 0) = none := rfl
/-- Behind an append: the row is where it was, or new. -/
def Moved (w : World) (v v' : Value) : Prop := v'.ownBlock = v.ownBlock ∨ ∃ g, v'.ownBlock = some g ∧ w.heap.size ≤ g
def Grew (w : World) (B : Nat) (u : Value) (l : List UInt8) (e : Ending) (w' : World) : Prop := ∃ v, e = .returned v ∧ Buf w' B v l ∧ w.grownBy w' u.ownBlock ∧ Moved w u v
theorem Buf.small {w : World} {B : Nat} {v : Value} {l : List UInt8} (h : Buf w B v l) : ∀ k, v.ownBlock = some k → k < w.heap.size := by
  obtain ⟨⟨_, h2⟩, _⟩ := h
  rcases h2 with ⟨rfl, _⟩ | ⟨g, cap, cur, rfl, b, c, _⟩
  · intro k hk; cases hk
  · intro k hk; cases hk; exact lt_of_block c
theorem grown_of {w w1 : World} (hb : Below w.heap.size w w1) (r : Option Nat) : w.grownBy w1 r := ⟨hb.os, hb.tape, hb.output, hb.size, fun k hk _ => hb.block k hk⟩
theorem grown_trans {a b c : World} {r r' : Option Nat} (h : a.grownBy b r) (k : b.grownBy c r') (hr : ∀ x, r' = some x → r = some x ∨ a.heap.size ≤ x) : a.grownBy c r :=
  ⟨k.os.trans h.os, k.tape.trans h.tape, k.output.trans h.output, Nat.le_trans h.size k.size, fun i hi hn => (k.block i (Nat.lt_of_lt_of_le hi h.size) (fun e => by rcases hr i e.symm with e' | e'; exact hn e'.symm; omega)).trans (h.block i hi hn)⟩
theorem Moved.at {w : World} {u v : Value} (h : Moved w u v) : ∀ x, v.ownBlock = some x → u.ownBlock = some x ∨ w.heap.size ≤ x := by
  intro x hx
  rcases h with h | ⟨g, h1, h2⟩
  · left; rw [← h]; exact hx
  · right; rw [h1] at hx; cases hx; exact h2
theorem Moved.trans {a b : World} {u v x : Value} (h : Moved a u v) (k : Moved b v x) (hs : a.heap.size ≤ b.heap.size) : Moved a u x := by
  rcases k with k | ⟨g, h1, h2⟩
  · rcases h with h | ⟨g, h1, h2⟩
    · left; rw [k, h]
    · right; exact ⟨g, by rw [k, h1], h2⟩
  · right; exact ⟨g, h1, Nat.le_trans hs h2⟩
theorem Buf.shape {w : World} {B : Nat} {v : Value} {l : List UInt8} (h : Buf w B v l) : ∃ a c, v = .slice a l.length c := by
  obtain ⟨⟨_, h2⟩, _⟩ := h
  rcases h2 with ⟨rfl, h0⟩ | ⟨g, cap, cur, rfl, _⟩
  · exact ⟨none, 0, by rw [h0]⟩
  · exact ⟨_, _, rfl⟩
theorem Buf.alloc {w : World} {B : Nat} {v : Value} {l : List UInt8} (h : Buf w B v l) (o : Obj) : Buf (w.alloc o) B v l := h.keep ((Below.refl _ _).alloc (Nat.le_refl _) _)
/-- A value of four cells that the call has made stays. -/
def Box (w : World) (b : Nat) (k n : Int) (r : Int) (t : ByteArray) : Prop := w.heap[b]? = some (.cells #[.int .u8 k, .int .i64 n, .int .u64 r, .string t] 38 (0, 0))
theorem Box.cells {w : World} {b : Nat} {k n r : Int} {t : ByteArray} (h : Box w b k n r t) : w.cell? ⟨b, 0, none⟩ = some (.int .u8 k) ∧ w.cell? ⟨b, 1, none⟩ = some (.int .i64 n) ∧ w.cell? ⟨b, 2, none⟩ = some (.int .u64 r) ∧ w.cell? ⟨b, 3, none⟩ = some (.string t) := by
  unfold Box at h
  simp [World.cell?, h]
theorem Box.new (w : World) (k n r : Int) (t : ByteArray) : Box (w.alloc (.cells #[.int .u8 k, .int .i64 n, .int .u64 r, .string t] 38)) w.heap.size k n r t := heap_alloc_new w _
theorem Box.grown {w w1 : World} {b : Nat} {k n r : Int} {t : ByteArray} (h : Box w b k n r t) {u : Value} (hg : w.grownBy w1 u.ownBlock) (hu : u.ownBlock ≠ some b) : Box w1 b k n r t :=
  (hg.block b (lt_of_block h) (fun e => hu e.symm)).trans h
theorem apart {w : World} {u : Value} {B : Nat} {l : List UInt8} (h : Buf w B u l) : u.ownBlock ≠ some w.heap.size := fun e => by have := h.small _ e; omega
theorem Box.apart {w : World} {b : Nat} {k n r : Int} {t : ByteArray} (h : Box w b k n r t) {u v : Value} (hu : u.ownBlock ≠ some b) (hm : Moved w u v) : v.ownBlock ≠ some b := fun e => by
  rcases hm.at _ e with e' | e'
  · exact hu e'
  · have := lt_of_block h; omega
theorem undrew {w1 w2 : World} {r : Option Nat} (h : w1.drew.grownBy w2 r) : w1.grownBy w2 r := ⟨h.os, h.tape, h.output, h.size, h.block⟩
theorem Buf.text {w : World} {B : Nat} {v : Value} {l : List UInt8} (h : Buf w B v l) (hl : l ≠ []) :
    (convert 40 9 v).run Tryd.prog w = .ok (.string (bs l)) w := by
  obtain ⟨h1, _⟩ := h
  rcases h1.2 with ⟨rfl, h0⟩ | ⟨g, cap, cur, rfl, _⟩
  · exact absurd (List.eq_nil_of_length_eq_zero h0) hl
  · refine run_convert_bytes_back w _ _ _ ⟨g, 0, none⟩ cap l undL undE undS (fun j hj => ?_)
    refine h1.cells (g := g) rfl j _ ?_
    simp [Lib.strCells, bs, hj]
theorem Buf.str {w : World} {B : Nat} {v : Value} {l : List UInt8} (h : Buf w B v l) :
    (convert 40 9 v).run Tryd.prog w = .ok (.string (bs l)) w := by
  by_cases hl : l = []
  · subst hl
    rcases h.1.2 with ⟨rfl, h0⟩ | ⟨g, cap, cur, rfl, _⟩
    · exact run_convert_bytes_nil (P := Tryd.prog) (w := w) 40 5 undL undE 0 0 9 undS
    · exact run_convert_bytes_back w _ _ _ ⟨g, 0, none⟩ cap [] undL undE undS (fun j hj => by simp at hj)
  · exact h.text hl
theorem none_below {w w1 : World} (h : w.grownBy w1 none) : Below w.heap.size w w1 := ⟨h.os, h.tape, h.output, h.size, fun k hk => h.block k hk (by simp)⟩
/-- Behind appends: the slice is v, of bytes l; nothing else was touched but u's own row. -/
def Mid (w : World) (B : Nat) (u v : Value) (l : List UInt8) (w' : World) : Prop := Buf w' B v l ∧ w.grownBy w' u.ownBlock ∧ Moved w u v
theorem grown_refl (w : World) (r : Option Nat) : w.grownBy w r := ⟨rfl, rfl, rfl, Nat.le_refl _, fun _ _ _ => rfl⟩
theorem Mid.refl {w : World} {B : Nat} {u : Value} {l : List UInt8} (h : Buf w B u l) : Mid w B u u l w := ⟨h, grown_refl _ _, .inl rfl⟩
theorem Mid.trans {w w1 w2 : World} {B : Nat} {u v x : Value} {l m : List UInt8} (h : Mid w B u v l w1) (k : Mid w1 B v x m w2) : Mid w B u x m w2 :=
  ⟨k.1, grown_trans h.2.1 k.2.1 h.2.2.at, h.2.2.trans k.2.2 h.2.1.size⟩
theorem Mid.grew {w w' : World} {B : Nat} {u v : Value} {l : List UInt8} (h : Mid w B u v l w') : Grew w B u l (.returned v) w' := ⟨v, rfl, h.1, h.2.1, h.2.2⟩
/-- From a world that only has more. -/
theorem Mid.ahead {w w0 w' : World} {B : Nat} {u v : Value} {m : List UInt8} (hb : Below w.heap.size w w0) (h : Mid w0 B u v m w') : Mid w B u v m w' :=
  ⟨h.1, grown_trans (grown_of hb _) h.2.1 (fun x hx => .inl hx), by
    rcases h.2.2 with e | ⟨g, e1, e2⟩
    · exact .inl e
    · exact .inr ⟨g, e1, Nat.le_trans hb.size e2⟩⟩
theorem Mid.below {w w1 : World} {u v : Value} {l : List UInt8} (h : Mid w w.heap.size u v l w1) (hu : u = .slice none 0 0) : Below w.heap.size w w1 := by
  subst hu; exact none_below h.2.1
theorem run_append_row {w : World} {B : Nat} {v : Value} {l : List UInt8} (h : Buf w B v l) (m : List UInt8) (ad : Addr) (c : Nat)
    (hn : ∀ j u, (Lib.strCells (bs m))[j]? = some u → w.cell? (ad.add j) = some u) (hlen : l.length + m.length ≤ 140737488351232) (ty : TypeId) :
    ∃ v' w', (Builtin.append_ #[40, 40] ty #[v, .slice (some ad) m.length c]).run Tryd.prog w = .ok v' w' ∧ Mid w B v v' (l ++ m) w' := by
  obtain ⟨i0, hi, hz0, hz1, hz2⟩ := info_parts infoE
  have hl1 : (Lib.strCells (bs m)).length = m.length * 1 := by simp [Lib.strCells, bs]
  obtain ⟨v', w', hr, h2, h3, _, h5⟩ := run_append_own_at (P := Tryd.prog) w B 40 ty 5 i0 (.int .u8 0) 1 1 undL hi hz0 hz1 hz2 rfl (by decide) v l.length _ h.1 ad m.length c (Lib.strCells (bs m)) hl1 hn (by simp [Lib.strCells]; intro a _; rfl) (by unfold maxLen; omega) (by omega) h.2
  refine ⟨v', w', hr, ⟨?_, Nat.le_trans h.2 h3.size⟩, h3, ?_⟩
  · rw [List.length_append, ← strCells_app]; exact h2
  · rcases h5 with e | e
    · exact .inl e
    · exact .inr ⟨_, e, Nat.le_refl _⟩
theorem new_cells (w : World) (m : List UInt8) (T : TypeId) (cs : List Value) (hcs : cs = Lib.strCells (bs m)) : ∀ j u, (Lib.strCells (bs m))[j]? = some u → (w.alloc (.cells cs.toArray T)).cell? ((⟨w.heap.size, 0, none⟩ : Addr).add j) = some u := by
  intro j u hj
  subst hcs
  rw [addr_add, World.cell?, heap_alloc_new]
  simpa using hj
theorem small1 (c : UInt8) (X : Int) (h : X = (c.toNat : Int)) : [Value.int .u8 X] = Lib.strCells (bs [c]) := by subst h; rfl
/-- append of bytes that were just laid in a block of their own. -/
theorem append_new {w : World} {ops : Array Oper} {rest : List Oper} {o : Oper} {a : Act} {Q : Exit → Act → World → Prop} (hgd : o.guard = none) (sl x : Operand)
    (ho : o.op = .call { callee := .builtin .append, args := #[sl, x], argTypes := #[40, 40] })
    {B : Nat} {v : Value} {l : List UInt8} {T : TypeId} {k b : Nat} (cs : Array Value) (m : List UInt8) (hs : a.eval sl = v) (hx : a.eval x = .slice (some ⟨b, 0, none⟩) k k) (hb : b = w.heap.size) (hk : k = m.length) (hcs : cs.toList = Lib.strCells (bs m)) (h : Buf w B v l) (hlen : l.length + m.length ≤ 140737488351232)
    (hK : ∀ v' w', Mid w B v v' (l ++ m) w' → wpList Tryd.prog ops Q rest (a.put o.dst v') w') : wpList Tryd.prog ops Q (o :: rest) a (w.alloc (.cells cs T)) := by
  refine wpList_plain hgd fun K hK' => ?_
  subst hk hb
  obtain ⟨v', w', hr, hm⟩ := run_append_row (h.alloc (.cells cs T)) m ⟨w.heap.size, 0, none⟩ m.length (by have := new_cells w m T cs.toList hcs; simpa using this) hlen o.type
  unfold Oper.wp execOp
  simp only [ho, resolve, invoke, builtin, Sem.run_bind, Sem.run_pure, Result.andThen_ok, List.map_toArray, List.map_cons, List.map_nil, hs, hx, hr]
  exact hK' _ _ (hK v' w' (Mid.ahead ((Below.refl _ w).alloc (Nat.le_refl _) _) hm))
end Go.Proofs.YtbkaphcipbhmhaaDoor.Bu6
