/- A mem as it lies in the world, and its steps. -/
import Derived.Test.YtkbjmbllnnghlaaTa9
namespace Go.Proofs.Ytkbjmbllnnghlaa.Mt9
open Go Go.RowKit Go.Proofs.Ytkbjmbllnnghlaa.Pm9 Go.Proofs.Ytkbjmbllnnghlaa.Wd9 Go.Proofs.Ytkbjmbllnnghlaa.Tf9 Go.Proofs.Ytkbjmbllnnghlaa.Ta9
def memO (r : Value) (c s : Int) : Obj := .cells #[r, .int .i64 c, .int .i64 s] 44 (0, 0)
def pairO (x : Pr) : Obj := .cells #[.string x.k, .string x.v, .bool x.g] 33 (0, 0)
/-- A mem at block p: the pairs l, in order. S: all its blocks. -/
structure MemAt (w : World) (S : Nat → Prop) (p : Nat) (l : List Pr) (t : Tr) : Prop where
  mem : w.heap[p]? = some (memO t.ptr (l.length : Int) (size l : Int))
  tree : t.In w
  once : t.Once
  out : p ∉ t.ids
  own : S p ∧ ∀ i ∈ t.ids, S i
  flat : t.flat = l
  sorted : Sorted l
theorem MemAt.keep {w w' : World} {S : Nat → Prop} {p : Nat} {l : List Pr} {t : Tr} (h : MemAt w S p l t) (hk : ∀ b, S b → b < w.heap.size → w'.heap[b]? = w.heap[b]?) : MemAt w' S p l t :=
  ⟨(hk p h.own.1 (lt_of_at h.mem)).trans h.mem, h.tree.keep fun b hb => hk b (h.own.2 b hb) (h.tree.lt b hb), h.once, h.out, h.own, h.flat, h.sorted⟩
theorem MemAt.up {w : World} {S S' : Nat → Prop} {p : Nat} {l : List Pr} {t : Tr} (h : MemAt w S p l t) (hs : ∀ b, S b → S' b) : MemAt w S' p l t :=
  ⟨h.mem, h.tree, h.once, h.out, ⟨hs _ h.own.1, fun i hi => hs i (h.own.2 i hi)⟩, h.flat, h.sorted⟩
/-- What stands within Put: the mem, a box with the pair. -/
structure St9 (w : World) (ids : List Nat) (p bx : Nat) (x : Pr) (t : Tr) (c s : Int) (W : World) : Prop where
  mem : W.heap[p]? = some (memO t.ptr c s)
  tree : t.In W
  box : W.heap[bx]? = some (pairO x)
  once : t.Once
  out : p ∉ t.ids
  bxp : bx ≠ p
  bxt : bx ∉ t.ids
  sub : ∀ i ∈ t.ids, i ∈ ids ∨ w.heap.size ≤ i
  tread : Tread (fun b => b = p ∨ b ∈ ids) w W
theorem tread_join {S : Nat → Prop} {a b c : World} (h : Tread S a b) (k : Tread (fun i => S i ∨ a.heap.size ≤ i) b c) : Tread S a c :=
  ⟨k.os.trans h.os, k.tape.trans h.tape, k.output.trans h.output, Nat.le_trans h.size k.size, fun i hi hn =>
    (k.block i (Nat.lt_of_lt_of_le hi h.size) (fun x => by rcases x with x | x; exact hn x; omega)).trans (h.block i hi hn)⟩
section
variable {w : World} {ids : List Nat} {p bx : Nat} {x : Pr} {t : Tr} {c s : Int} {W W' : World}
theorem St9.next (h : St9 w ids p bx x t c s W) (hk : ∀ b, b < W.heap.size → W'.heap[b]? = W.heap[b]?) (ht : Tread (fun _ => False) W W') : St9 w ids p bx x t c s W' :=
  ⟨(hk _ (lt_of_at h.mem)).trans h.mem, h.tree.keep fun b hb => hk b (h.tree.lt b hb), (hk _ (lt_of_at h.box)).trans h.box, h.once, h.out, h.bxp, h.bxt, h.sub, tread_join h.tread (ht.mono fun i h => h.elim)⟩
theorem St9.below (h : St9 w ids p bx x t c s W) (hb : Below W.heap.size W W') : St9 w ids p bx x t c s W' := h.next (fun b hl => hb.block b hl) (Tread.of_below hb)
theorem St9.drewN (h : St9 w ids p bx x t c s W) (n : Nat) : St9 w ids p bx x t c s (W.drewN n) := h.next (fun b hl => by rw [heap_drewN]) (tread_drewN _ W n)
theorem St9.drew (h : St9 w ids p bx x t c s W) : St9 w ids p bx x t c s W.drew := h.next (fun b hl => rfl) (Tread.refl _ W).drew
theorem St9.cells (h : St9 w ids p bx x t c s W) : W.cell? ⟨p, 0, none⟩ = some t.ptr ∧ W.cell? ⟨p, 1, none⟩ = some (.int .i64 c) ∧ W.cell? ⟨p, 2, none⟩ = some (.int .i64 s) ∧ (∀ i, W.frozen? ⟨p, i, none⟩ = false) ∧
    W.cell? ⟨bx, 0, none⟩ = some (.string x.k) ∧ W.cell? ⟨bx, 1, none⟩ = some (.string x.v) ∧ W.cell? ⟨bx, 2, none⟩ = some (.bool x.g) :=
  ⟨cell_of h.mem 0, cell_of h.mem 1, cell_of h.mem 2, free_of h.mem, cell_of h.box 0, cell_of h.box 1, cell_of h.box 2⟩
theorem St9.set (h : St9 w ids p bx x t c s W) (i : Nat) (v : Value) (c' s' : Int) (hv : (memO t.ptr c s) = .cells #[t.ptr, .int .i64 c, .int .i64 s] 44 (0, 0) → (.cells ((#[t.ptr, .int .i64 c, .int .i64 s] : Array Value).setIfInBounds i v) 44 (0, 0) : Obj) = memO t.ptr c' s') : St9 w ids p bx x t c' s' (W.setCell ⟨p, i, none⟩ v) := by
  refine ⟨?_, In.set h.tree _ _ h.out, ?_, h.once, h.out, h.bxp, h.bxt, h.sub, ?_⟩
  · rw [← hv rfl]; exact setCell_heap h.mem i v
  · rw [setCell_ne _ _ _ _ h.bxp]; exact h.box
  · exact tread_join h.tread ((Tread.setCell W ⟨p, i, none⟩ v (.inl (.inl rfl))))
theorem St9.count (h : St9 w ids p bx x t c s W) (m : Int) : St9 w ids p bx x t m s (W.setCell ⟨p, 1, none⟩ (.int .i64 m)) := h.set 1 _ m s fun _ => rfl
theorem St9.sz (h : St9 w ids p bx x t c s W) (m : Int) : St9 w ids p bx x t c m (W.setCell ⟨p, 2, none⟩ (.int .i64 m)) := h.set 2 _ c m fun _ => rfl
theorem In.upd {k v : ByteArray} {g : Bool} {b : Nat} {q : Pr} {n : Int} {l r : Tr} (hb : W'.heap[b]? = some (nodeO ⟨q.k, v, g⟩ n l.ptr r.ptr)) (hk : ∀ i, i ≠ b → W'.heap[i]? = W.heap[i]?) :
    ∀ {t : Tr}, t.In W → t.Once → t.find k = .node b q n l r → (t.upd k v g).In W'
  | .nil, _, _, h => by cases h
  | .node d y m l' r', h, ho, hf => by
    obtain ⟨h0, h1, h2⟩ := h
    obtain ⟨o1, o2, o3, o4, o5⟩ := ho.parts
    unfold Tr.find at hf
    unfold Tr.upd
    cases he : y.k.toList == k.toList
    · rw [he] at hf
      simp only [Bool.false_eq_true, if_false] at hf ⊢
      have mem : ∀ {t : Tr}, t.find k = .node b q n l r → b ∈ t.ids := by
        intro t
        induction t with
        | nil => intro h; cases h
        | node a z j u v iu iv =>
          intro h
          unfold Tr.find at h
          split at h
          · injection h with e _; rw [e]; exact List.mem_cons_self
          · split at h
            · exact List.mem_cons_of_mem _ (List.mem_append_left _ (iu h))
            · exact List.mem_cons_of_mem _ (List.mem_append_right _ (iv h))
      cases hl : lt k y.k
      · rw [hl] at hf
        simp only [Bool.false_eq_true, if_false] at hf ⊢
        have hbr := mem hf
        refine ⟨?_, h1.keep fun i hi => hk i fun e => o5 i hi (e ▸ hbr), In.upd hb hk h2 o4 hf⟩
        rw [Tr.upd_ptr, hk d fun e => o2 (e ▸ hbr)]; exact h0
      · rw [hl] at hf
        simp only [if_true] at hf ⊢
        have hbl := mem hf
        refine ⟨?_, In.upd hb hk h1 o3 hf, h2.keep fun i hi => hk i fun e => o5 b hbl (e ▸ hi)⟩
        rw [Tr.upd_ptr, hk d fun e => o1 (e ▸ hbl)]; exact h0
    · rw [he] at hf
      simp only [if_true] at hf ⊢
      cases hf
      refine ⟨hb, h1.keep fun i hi => hk i fun e => o1 (e ▸ hi), h2.keep fun i hi => hk i fun e => o2 (e ▸ hi)⟩
theorem find_in {k : ByteArray} {b : Nat} {q : Pr} {n : Int} {l r : Tr} : ∀ {t : Tr}, t.In W → t.find k = .node b q n l r → W.heap[b]? = some (nodeO q n l.ptr r.ptr) ∧ b ∈ t.ids
  | .nil, _, h => by cases h
  | .node d y m l' r', h, hf => by
    obtain ⟨h0, h1, h2⟩ := h
    unfold Tr.find at hf
    split at hf
    · cases hf; exact ⟨h0, List.mem_cons_self⟩
    · split at hf
      · obtain ⟨a, c⟩ := find_in h1 hf; exact ⟨a, List.mem_cons_of_mem _ (List.mem_append_left _ c)⟩
      · obtain ⟨a, c⟩ := find_in h2 hf; exact ⟨a, List.mem_cons_of_mem _ (List.mem_append_right _ c)⟩
/-- The node that was found holds another value. -/
theorem St9.upd {k v : ByteArray} {g : Bool} {b : Nat} {q : Pr} {n : Int} {l r : Tr} (h : St9 w ids p bx x t c s W) (hf : t.find k = .node b q n l r) (hb : W'.heap[b]? = some (nodeO ⟨q.k, v, g⟩ n l.ptr r.ptr)) (hk : ∀ i, i ≠ b → W'.heap[i]? = W.heap[i]?)
    (ht : Tread (· = b) W W') : St9 w ids p bx x (t.upd k v g) c s W' := by
  obtain ⟨f1, f2⟩ := find_in h.tree hf
  refine ⟨?_, In.upd hb hk h.tree h.once hf, ?_, by unfold Tr.Once; rw [Tr.upd_ids]; exact h.once, by rw [Tr.upd_ids]; exact h.out, h.bxp, by rw [Tr.upd_ids]; exact h.bxt, by rw [Tr.upd_ids]; exact h.sub, ?_⟩
  · rw [hk p fun e => h.out (e ▸ f2), Tr.upd_ptr]; exact h.mem
  · rw [hk bx fun e => h.bxt (e ▸ f2)]; exact h.box
  · refine tread_join h.tread (ht.mono fun i e => ?_)
    rw [e]
    rcases h.sub b f2 with e | e
    · exact .inl (.inr e)
    · exact .inr e
/-- A new node. -/
theorem St9.add {y : Pr} {i : Nat} {a : Option Addr} (h : St9 w ids p bx x t c s W) (hi : W.heap.size ≤ i) (ha : (t.add i y).ptr = .pointer a) (hn : (t.add i y).In W') (ht : Tread (· ∈ t.ids) W W') : St9 w ids p bx x (t.add i y) c s (W'.setCell ⟨p, 0, none⟩ (.pointer a)) := by
  have hp := lt_of_at h.mem
  have hbx := lt_of_at h.box
  have ho : p ∉ (t.add i y).ids := fun e => by rcases mem_add e with e | e; omega; exact h.out e
  have hm : W'.heap[p]? = some (memO t.ptr c s) := (ht.block p hp h.out).trans h.mem
  refine ⟨?_, In.set hn _ _ ho, ?_, once_add y h.once fun e => by have := h.tree.lt i e; omega, ho, h.bxp, fun e => by rcases mem_add e with e | e; omega; exact h.bxt e, fun j hj => ?_, ?_⟩
  · rw [ha]; exact setCell_heap hm 0 _
  · rw [setCell_ne _ _ _ _ h.bxp]; exact (ht.block bx hbx h.bxt).trans h.box
  · have := h.tread.size
    rcases mem_add hj with rfl | hj
    · exact .inr (by omega)
    · exact h.sub j hj
  · have t1 := tread_join h.tread (ht.mono fun j hj => by
      rcases h.sub j hj with e | e
      · exact .inl (.inr e)
      · exact .inr e)
    exact tread_join t1 (Tread.setCell W' ⟨p, 0, none⟩ _ (.inl (.inl rfl)))
end
/-- What Put begins with. -/
theorem St9.start {w : World} {S : Nat → Prop} {p : Nat} {l : List Pr} {t : Tr} (h : MemAt w S p l t) (x : Pr) : St9 w t.ids p w.heap.size x t (l.length : Int) (size l : Int) (w.alloc (.cells #[.string x.k, .string x.v, .bool x.g] 33)) := by
  have hp := lt_of_at h.mem
  exact ⟨(heap_alloc _ _ _ hp).trans h.mem, h.tree.keep fun b hb => heap_alloc _ _ _ (h.tree.lt b hb), heap_new _ _, h.once, h.out, by omega, fun e => by have := h.tree.lt _ e; omega, fun i hi => .inl hi, Tread.alloc _ _ _⟩
/-- What Put ends with. -/
theorem St9.finish {w W : World} {S : Nat → Prop} {p bx : Nat} {x : Pr} {l l' : List Pr} {t t' : Tr} {c s : Int} (h : MemAt w S p l t) (k : St9 w t.ids p bx x t' c s W) (hc : c = (l'.length : Int)) (hs : s = (size l' : Int)) (hf : t'.flat = l') (hl : Sorted l') :
    MemAt W (grow S w W) p l' t' ∧ Tread S w W := by
  subst hc hs
  refine ⟨⟨k.mem, k.tree, k.once, k.out, ⟨.inl h.own.1, fun i hi => ?_⟩, hf, hl⟩, k.tread.mono fun b hb => ?_⟩
  · rcases k.sub i hi with e | e
    · exact .inl (h.own.2 i e)
    · exact .inr ⟨e, k.tree.lt i hi⟩
  · rcases hb with rfl | hb
    · exact h.own.1
    · exact h.own.2 b hb
end Go.Proofs.Ytkbjmbllnnghlaa.Mt9
