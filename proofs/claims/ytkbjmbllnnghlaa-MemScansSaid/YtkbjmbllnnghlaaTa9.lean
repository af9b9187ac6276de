/- node.add: a pair of a new key is laid into a tree. -/
import Derived.Test.YtkbjmbllnnghlaaTf9
import Derived.Deep.RegionWith
import Derived.Laws.EntriesVeiled
namespace Go.Proofs.Ytkbjmbllnnghlaa.Ta9
open Go Go.RowKit Go.Proofs.Ytkbjmbllnnghlaa.Pm9 Go.Proofs.Ytkbjmbllnnghlaa.Wd9 Go.Proofs.Ytkbjmbllnnghlaa.Tf9
/-- What add leaves: the tree with a new node, nothing else touched. -/
def Added (p : Pr) (t : Tr) (w : World) (e : Ending) (w' : World) : Prop :=
  ∃ i a, w.heap.size ≤ i ∧ (t.add i p).ptr = .pointer a ∧ e = .returned (.pointer a) ∧ (t.add i p).In w' ∧ Tread (· ∈ t.ids) w w'
theorem In.move {S : Nat → Prop} {w w' : World} {t : Tr} (h : t.In w) (ht : Tread S w w') (hS : ∀ i ∈ t.ids, ¬ S i) : t.In w' := h.keep fun b hb => ht.block b (h.lt b hb) (hS b hb)
theorem once_add {t : Tr} {i : Nat} (p : Pr) (h : t.Once) (hi : i ∉ t.ids) : (t.add i p).Once := (Tr.add_ids i p t).nodup_iff.2 (List.nodup_cons.2 ⟨hi, h⟩)
theorem mem_add {t : Tr} {i : Nat} {p : Pr} {b : Nat} (h : b ∈ (t.add i p).ids) : b = i ∨ b ∈ t.ids := by
  have := (Tr.add_ids i p t).mem_iff.1 h
  exact List.mem_cons.1 this
theorem split_at (t : Tr) (w : World) (hn : t ≠ .nil) (h : t.In w) (ho : t.Once) :
    Calls Try.prog 30 #[t.ptr] w fun e w' => e = .returned t.split.ptr ∧ Left9 t t.split w w' := by
  cases t with
  | nil => exact absurd rfl hn
  | node b p n l r => exact split_any w b p n l r h ho
theorem skew_some (b : Nat) (p : Pr) (n : Int) (l r : Tr) : (Tr.node b p n l r).skew ≠ .nil := by
  unfold Tr.skew
  split
  · split <;> exact fun h => by cases h
  · next h => exact fun e => by cases e
theorem skew_once {t : Tr} (h : t.Once) : t.skew.Once := (Tr.skew_ids t).nodup_iff.2 h
/-- The tree behind the call on one side. -/
structure Mid9 (t' : Tr) (ids : List Nat) (w W : World) : Prop where
  tree : t'.In W
  once : t'.Once
  tread : Tread (· ∈ ids) w W
  sub : ∀ i ∈ t'.ids, i ∈ ids ∨ w.heap.size ≤ i
theorem mid_left {w w1 w2 : World} {b i : Nat} {p q : Pr} {n : Int} {l r : Tr} (h : (Tr.node b q n l r).In w) (ho : (Tr.node b q n l r).Once) (hB : Below w.heap.size w w1) (hi : w1.heap.size ≤ i) (hl : (l.add i p).In w2)
    (ht : Tread (· ∈ l.ids) w1 w2) : Mid9 (.node b q n (l.add i p) r) (Tr.node b q n l r).ids w (w2.setCell ⟨b, 4, none⟩ (l.add i p).ptr) := by
  obtain ⟨o1, o2, o3, o4, o5⟩ := ho.parts
  obtain ⟨h0, h1, h2⟩ := id h
  have hlt := h.lt
  have hb := lt_of_at h0
  have hs := hB.size
  have hnew : ∀ k ∈ (Tr.node b q n l r).ids, k ≠ i := fun k hk e => by have := hlt k hk; omega
  have hbi := hnew b List.mem_cons_self
  have hbl : b ∉ (l.add i p).ids := fun e => by rcases mem_add e with e | e; exact hbi e; exact o1 e
  have h0' : w2.heap[b]? = some (nodeO q n l.ptr r.ptr) := ((ht.block b (by omega) o1).trans (hB.block b hb)).trans h0
  have hr1 : r.In w2 := h2.keep fun k hk => (ht.block k (by have := h2.lt k hk; omega) (fun e => o5 k e hk)).trans (hB.block k (h2.lt k hk))
  refine ⟨⟨set_left h0' _, In.set hl _ _ hbl, In.set hr1 _ _ o2⟩, Tr.Once.mk hbl o2 (once_add p o3 fun e => hnew i (List.mem_cons_of_mem _ (List.mem_append_left _ e)) rfl) o4 ?_, ?_, ?_⟩
  · intro k hk hkr
    rcases mem_add hk with rfl | hk
    · exact hnew k (List.mem_cons_of_mem _ (List.mem_append_right _ hkr)) rfl
    · exact o5 k hk hkr
  · have t1 : Tread (· ∈ (Tr.node b q n l r).ids) w w1 := Tread.of_below hB
    have t2 := t1.trans (ht.mono fun k hk => .inl (List.mem_cons_of_mem _ (List.mem_append_left _ hk)))
    exact t2.trans (Tread.setCell _ _ _ (.inl List.mem_cons_self))
  · intro k hk
    rcases List.mem_cons.1 hk with rfl | hk
    · exact .inl List.mem_cons_self
    · rcases List.mem_append.1 hk with hk | hk
      · rcases mem_add hk with rfl | hk
        · exact .inr (by omega)
        · exact .inl (List.mem_cons_of_mem _ (List.mem_append_left _ hk))
      · exact .inl (List.mem_cons_of_mem _ (List.mem_append_right _ hk))
theorem mid_right {w w1 w2 : World} {b i : Nat} {p q : Pr} {n : Int} {l r : Tr} (h : (Tr.node b q n l r).In w) (ho : (Tr.node b q n l r).Once) (hB : Below w.heap.size w w1) (hi : w1.heap.size ≤ i) (hl : (r.add i p).In w2)
    (ht : Tread (· ∈ r.ids) w1 w2) : Mid9 (.node b q n l (r.add i p)) (Tr.node b q n l r).ids w (w2.setCell ⟨b, 5, none⟩ (r.add i p).ptr) := by
  obtain ⟨o1, o2, o3, o4, o5⟩ := ho.parts
  obtain ⟨h0, h1, h2⟩ := id h
  have hlt := h.lt
  have hb := lt_of_at h0
  have hs := hB.size
  have hnew : ∀ k ∈ (Tr.node b q n l r).ids, k ≠ i := fun k hk e => by have := hlt k hk; omega
  have hbi := hnew b List.mem_cons_self
  have hbl : b ∉ (r.add i p).ids := fun e => by rcases mem_add e with e | e; exact hbi e; exact o2 e
  have h0' : w2.heap[b]? = some (nodeO q n l.ptr r.ptr) := ((ht.block b (by omega) o2).trans (hB.block b hb)).trans h0
  have hr1 : l.In w2 := h1.keep fun k hk => (ht.block k (by have := h1.lt k hk; omega) (fun e => o5 k hk e)).trans (hB.block k (h1.lt k hk))
  refine ⟨⟨set_right h0' _, In.set hr1 _ _ o1, In.set hl _ _ hbl⟩, Tr.Once.mk o1 hbl o3 (once_add p o4 fun e => hnew i (List.mem_cons_of_mem _ (List.mem_append_right _ e)) rfl) ?_, ?_, ?_⟩
  · intro k hkl hk
    rcases mem_add hk with rfl | hk
    · exact hnew k (List.mem_cons_of_mem _ (List.mem_append_left _ hkl)) rfl
    · exact o5 k hkl hk
  · have t1 : Tread (· ∈ (Tr.node b q n l r).ids) w w1 := Tread.of_below hB
    have t2 := t1.trans (ht.mono fun k hk => .inl (List.mem_cons_of_mem _ (List.mem_append_right _ hk)))
    exact t2.trans (Tread.setCell _ _ _ (.inl List.mem_cons_self))
  · intro k hk
    rcases List.mem_cons.1 hk with rfl | hk
    · exact .inl List.mem_cons_self
    · rcases List.mem_append.1 hk with hk | hk
      · exact .inl (List.mem_cons_of_mem _ (List.mem_append_left _ hk))
      · rcases mem_add hk with rfl | hk
        · exact .inr (by omega)
        · exact .inl (List.mem_cons_of_mem _ (List.mem_append_right _ hk))
theorem Mid9.next {t s : Tr} {ids : List Nat} {w W W' : World} (h : Mid9 t ids w W) (hs : s.ids.Perm t.ids) (hl : Left9 t s W W') : Mid9 s ids w W' := by
  refine ⟨hl.tree, hs.nodup_iff.2 h.once, ⟨hl.tread.os.trans h.tread.os, hl.tread.tape.trans h.tread.tape, hl.tread.output.trans h.tread.output, Nat.le_trans h.tread.size hl.tread.size, fun k hk hn => ?_⟩, fun i hi => h.sub i (hs.mem_iff.1 hi)⟩
  refine (hl.tread.block k (by have := h.tread.size; omega) fun e => ?_).trans (h.tread.block k hk hn)
  rcases h.sub k e with e | e
  · exact hn e
  · omega
theorem skew_mid {b : Nat} {p : Pr} {n : Int} {l r : Tr} {ids : List Nat} {w W : World} (h : Mid9 (.node b p n l r) ids w W) (s : Tr) (hs : s = (Tr.node b p n l r).skew) :
    Calls Try.prog 29 #[.pointer (some ⟨b, 0, none⟩)] W fun e w' => e = .returned s.ptr ∧ Mid9 s ids w w' := by
  subst hs
  exact (skew_any W b p n l r h.tree h.once).mono fun e w' x => ⟨x.1, h.next (Tr.skew_ids _) x.2⟩
theorem split_mid {s : Tr} {ids : List Nat} {w W : World} (hn : s ≠ .nil) (h : Mid9 s ids w W) :
    Calls Try.prog 30 #[s.ptr] W fun e w' => ∃ a, s.split.ptr = .pointer a ∧ e = .returned (.pointer a) ∧ Mid9 s.split ids w w' := by
  refine (split_at s W hn h.tree h.once).mono fun e w' x => ?_
  obtain ⟨a, ha⟩ := Tr.ptr_shape s.split
  exact ⟨a, ha, by rw [← ha]; exact x.1, h.next (Tr.split_ids _) x.2⟩
set_option maxRecDepth 20000 in
set_option maxHeartbeats 2000000 in
theorem add_any (p : Pr) : ∀ (t : Tr) (w : World), t.In w → t.Once →
    Calls Try.prog 23 #[t.ptr, .agg #[.string p.k, .string p.v, .bool p.g]] w (Added p t w)
  | .nil, w, _, _ => by
    go_enter Try.func23, Try.ntmps23
    dsimp only [Tr.ptr]
    go_wp2
    go_ret
    have hx := heap_new (w.alloc (.cells #[.string p.k, .string p.v, .bool p.g] 33)) (nodeO p 1 (.pointer none) (.pointer none))
    rw [size_alloc] at hx
    refine ⟨w.heap.size + 1, _, by omega, rfl, rfl, ⟨hx, trivial, trivial⟩, ?_⟩
    exact Tread.of_below (((Below.refl w.heap.size w).alloc (Nat.le_refl _) _).alloc (by simp) _)
  | .node b q n l r, w, h, ho => by
    have il := add_any p l
    have ir := add_any p r
    obtain ⟨h0, h1, h2⟩ := id h
    obtain ⟨o1, o2, o3, o4, o5⟩ := ho.parts
    go_enter Try.func23, Try.ntmps23
    dsimp only [Tr.ptr]
    have hb : b < w.heap.size := lt_of_at h0
    have h0' : (w.alloc (.cells #[.string p.k, .string p.v, .bool p.g] 33)).heap[b]? = some (nodeO q n l.ptr r.ptr) := (heap_alloc w _ b hb).trans h0
    have hB : ∀ nq, Below w.heap.size w ((w.alloc (.cells #[.string p.k, .string p.v, .bool p.g] 33)).drewN nq) := fun nq => by
      have t := tread_drewN (fun _ => False) (w.alloc (.cells #[.string p.k, .string p.v, .bool p.g] 33)) nq
      exact ((Below.refl w.heap.size w).alloc (Nat.le_refl _) _).trans (t.below (by simp) fun i h => h.elim)
    obtain ⟨c0, c1, c2, c3, c4, c5, cf⟩ := node_cells h0'
    obtain ⟨al, hal⟩ := Tr.ptr_shape l
    obtain ⟨ar, har⟩ := Tr.ptr_shape r
    have HB := Lib.hid hB
    have H := Lib.hid h
    have HO := Lib.hid ho
    have H1 := Lib.hid h1
    have H2 := Lib.hid h2
    have H0 := Lib.hid h0'
    have IL := Lib.hid il
    have IR := Lib.hid ir
    clear il ir hB h ho h1 h2 h0 h0' o1 o2 o5
    cases hl : Op.bytesLess p.k.toList q.k.toList
    · go_wp2
      go_quiet (fail)
      rename_i nq
      obtain ⟨w1, hw1⟩ : ∃ w1, w1 = (w.alloc (.cells #[.string p.k, .string p.v, .bool p.g] 33)).drewN nq := ⟨_, rfl⟩
      have hB1 := HB.out nq
      have x0 : w1.heap[b]? = some (nodeO q n l.ptr r.ptr) := by rw [hw1, heap_drewN]; exact H0.out
      have xb : w1.heap[w.heap.size]? = some (.cells #[.string p.k, .string p.v, .bool p.g] 33 (0, 0)) := by rw [hw1, heap_drewN]; exact heap_new _ _
      rw [← hw1] at hB1 ⊢
      clear hw1 c0 c1 c2 c3 c4 c5 cf
      obtain ⟨c0, c1, c2, c3, c4, c5, cf⟩ := node_cells x0
      have d0 := cell_of xb 0
      have d1 := cell_of xb 1
      have d2 := cell_of xb 2
      have hc : Calls Try.prog 23 #[r.ptr, .agg #[.string p.k, .string p.v, .bool p.g]] w1.drew (Added p r w1.drew) := IR.out w1.drew ((H2.out.keep fun k hk => hB1.block k (H2.out.lt k hk)).keep fun k hk => rfl) o4
      rw [har] at hc c5
      have HC := Lib.hid hc
      have XB := Lib.hid hB1.drew
      have hbl := Lib.hid (HO.out.parts.2.1)
      have X0 := Lib.hid x0
      clear hc x0 xb hB1 c0 c1 c2 c3 cf c4
      go_wp2
      go_region_with (go_at_call 23; (with_reducible refine HC.out.mono ?_); rintro e w3 ⟨i, ai, hi, hai, rfl, ht, hT⟩
                      have x3 : w3.heap[b]? = some (nodeO q n l.ptr r.ptr) := (hT.block b (lt_of_at X0.out) hbl.out).trans X0.out
                      rw [har] at x3
                      have c3 := cell_of x3 5
                      have f3 := free_of x3 5
                      have hM := mid_right H.out HO.out XB.out hi ht hT
                      rw [hai] at hM
                      have HI := Lib.hid (Nat.le_trans XB.out.size hi)
                      have HM := Lib.hid hM
                      clear hi ht hT x3 hM hai)
      all_goals
        obtain ⟨W, hW⟩ : ∃ W, W = w3.setCell ⟨b, 5, none⟩ (.pointer ai) := ⟨_, rfl⟩
        have hm := HM.out
        rw [← hW] at hm ⊢
        obtain ⟨s, hs⟩ : ∃ s, s = (Tr.node b q n l (r.add i p)).skew := ⟨_, rfl⟩
        have hsk := skew_mid hm s hs
        have hsn : s ≠ .nil := by rw [hs]; exact skew_some _ _ _ _ _
        have hres : (Tr.node b q n l r).add i p = s.split := by rw [hs]; show (if lt p.k q.k = true then _ else _ : Tr).skew.split = _; unfold lt; rw [hl]; rfl
        have HSK := Lib.hid hsk
        have HSN := Lib.hid hsn
        have HRES := Lib.hid hres
        clear hW hm hs hsk hsn hres HM HC IL IR HB H0
        go_wp2_with (first
          | (go_at_call 29; (with_reducible refine HSK.out.mono ?_); rintro e w4 ⟨rfl, hm4⟩; have HM4 := Lib.hid hm4; clear hm4)
          | (go_at_call 30; refine (split_mid HSN.out HM4.out).mono ?_; rintro e w5 ⟨a5, ha5, rfl, hm5⟩; have HM5 := Lib.hid hm5; have HA5 := Lib.hid ha5; clear hm5 ha5))
        go_ret
        exact ⟨i, a5, HI.out, by rw [HRES.out]; exact HA5.out, rfl, by rw [HRES.out]; exact HM5.out.tree, HM5.out.tread⟩
    · go_wp2
      go_quiet (fail)
      rename_i nq
      obtain ⟨w1, hw1⟩ : ∃ w1, w1 = (w.alloc (.cells #[.string p.k, .string p.v, .bool p.g] 33)).drewN nq := ⟨_, rfl⟩
      have hB1 := HB.out nq
      have x0 : w1.heap[b]? = some (nodeO q n l.ptr r.ptr) := by rw [hw1, heap_drewN]; exact H0.out
      have xb : w1.heap[w.heap.size]? = some (.cells #[.string p.k, .string p.v, .bool p.g] 33 (0, 0)) := by rw [hw1, heap_drewN]; exact heap_new _ _
      rw [← hw1] at hB1 ⊢
      clear hw1 c0 c1 c2 c3 c4 c5 cf
      obtain ⟨c0, c1, c2, c3, c4, c5, cf⟩ := node_cells x0
      have d0 := cell_of xb 0
      have d1 := cell_of xb 1
      have d2 := cell_of xb 2
      have hc : Calls Try.prog 23 #[l.ptr, .agg #[.string p.k, .string p.v, .bool p.g]] w1.drew (Added p l w1.drew) := IL.out w1.drew ((H1.out.keep fun k hk => hB1.block k (H1.out.lt k hk)).keep fun k hk => rfl) o3
      rw [hal] at hc c4
      have HC := Lib.hid hc
      have XB := Lib.hid hB1.drew
      have hbl := Lib.hid (HO.out.parts.1)
      have X0 := Lib.hid x0
      clear hc x0 xb hB1 c0 c1 c2 c3 cf c5
      go_wp2
      go_region_with (go_at_call 23; (with_reducible refine HC.out.mono ?_); rintro e w3 ⟨i, ai, hi, hai, rfl, ht, hT⟩
                      have x3 : w3.heap[b]? = some (nodeO q n l.ptr r.ptr) := (hT.block b (lt_of_at X0.out) hbl.out).trans X0.out
                      rw [hal] at x3
                      have c3 := cell_of x3 4
                      have f3 := free_of x3 4
                      have hM := mid_left H.out HO.out XB.out hi ht hT
                      rw [hai] at hM
                      have HI := Lib.hid (Nat.le_trans XB.out.size hi)
                      have HM := Lib.hid hM
                      clear hi ht hT x3 hM hai)
      all_goals
        obtain ⟨W, hW⟩ : ∃ W, W = w3.setCell ⟨b, 4, none⟩ (.pointer ai) := ⟨_, rfl⟩
        have hm := HM.out
        rw [← hW] at hm ⊢
        obtain ⟨s, hs⟩ : ∃ s, s = (Tr.node b q n (l.add i p) r).skew := ⟨_, rfl⟩
        have hsk := skew_mid hm s hs
        have hsn : s ≠ .nil := by rw [hs]; exact skew_some _ _ _ _ _
        have hres : (Tr.node b q n l r).add i p = s.split := by rw [hs]; show (if lt p.k q.k = true then _ else _ : Tr).skew.split = _; unfold lt; rw [hl]; rfl
        have HSK := Lib.hid hsk
        have HSN := Lib.hid hsn
        have HRES := Lib.hid hres
        clear hW hm hs hsk hsn hres HM HC IL IR HB H0
        go_wp2_with (first
          | (go_at_call 29; (with_reducible refine HSK.out.mono ?_); rintro e w4 ⟨rfl, hm4⟩; have HM4 := Lib.hid hm4; clear hm4)
          | (go_at_call 30; refine (split_mid HSN.out HM4.out).mono ?_; rintro e w5 ⟨a5, ha5, rfl, hm5⟩; have HM5 := Lib.hid hm5; have HA5 := Lib.hid ha5; clear hm5 ha5))
        go_ret
        exact ⟨i, a5, HI.out, by rw [HRES.out]; exact HA5.out, rfl, by rw [HRES.out]; exact HM5.out.tree, HM5.out.tread⟩
end Go.Proofs.Ytkbjmbllnnghlaa.Ta9
