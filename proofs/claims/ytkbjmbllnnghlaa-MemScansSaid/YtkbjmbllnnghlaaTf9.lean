/- node.find, skew, split: what they answer, and what they leave. -/
import Derived.Test.YtkbjmbllnnghlaaWd9
import Derived.Deep.QuietTactic
import Derived.BigQuiet
import Derived.Deep.RegionHeld3
import Derived.Deep.DrawnRows
namespace Go.Proofs.Ytkbjmbllnnghlaa.Tf9
open Go Go.RowKit Go.Proofs.Ytkbjmbllnnghlaa.Pm9 Go.Proofs.Ytkbjmbllnnghlaa.Wd9
set_option maxRecDepth 20000 in
set_option maxHeartbeats 2000000 in
theorem find_any (w : World) (k : ByteArray) (t : Tr) (h : t.In w) :
    Calls Try.prog 22 #[t.ptr, .string k] w fun e w' => e = .returned (t.find k).ptr ∧ w' = w := by
  go_enter Try.func22, Try.ntmps22
  go_wp2
  go_loopw [0, 5, 6, 7, 8, 9, 10, 11, 12, 13, 14, 15, 16, 17, 18, 19, 20, 21, 22, 23, 24, 25, 26, 27, 28, 29, 30] (fun p _ _ _ _ _ _ _ _ _ _ _ _ _ _ _ _ _ _ _ _ _ _ _ _ _ _ wr => ∃ s : Tr, p = s.ptr ∧ s.In w ∧ Hid (s.find k = t.find k) ∧ wr = w) (fun p _ _ _ _ _ _ _ _ _ _ _ _ _ _ _ _ _ _ _ _ _ _ _ _ _ _ wr => below wr p)
  case atStart => exact ⟨t, rfl, h, Lib.hid rfl, rfl⟩
  case round =>
    obtain ⟨s, rfl, hs, hf, rfl⟩ := hrel
    cases s with
    | nil =>
      have hr : Tr.nil = t.find k := hf.out
      have HR := Lib.hid hr
      clear hr hf
      dsimp only [Tr.ptr]
      go_wp2
      go_ret
      exact ⟨by rw [← HR.out]; rfl, rfl⟩
    | node b p n l r =>
      have hm := below_of hs
      obtain ⟨h0, h1, h2⟩ := hs
      have hml := below_of h1
      have hmr := below_of h2
      obtain ⟨c0, c1, c2, c3, c4, c5, cf⟩ := node_cells h0
      obtain ⟨al, hal⟩ := Tr.ptr_shape l
      obtain ⟨ar, har⟩ := Tr.ptr_shape r
      have HM := Lib.hid hm
      have HL := Lib.hid hml
      have HRR := Lib.hid hmr
      clear hm hml hmr h0
      dsimp only [Tr.ptr]
      cases he : p.k.toList == k.toList
      · have he' : (p.k.toList != k.toList) = true := by simp [bne, he]
        cases hl : Op.bytesLess k.toList p.k.toList
        · have hf2 : (Tr.node b p n l r).find k = r.find k := by simp [Tr.find, he, Pm9.lt, hl]
          have HF := Lib.hid (hf2.symm.trans hf.out)
          clear hf hf2
          rw [har] at c5
          go_wp2
          refine ⟨⟨r, har.symm, h2, HF, trivial⟩, ?_⟩
          rw [← har, HRR.out, show below wr (Value.pointer (some ⟨b, 0, none⟩)) = _ from HM.out]
          simp only [Wd9.Tr.count]; omega
        · have hf2 : (Tr.node b p n l r).find k = l.find k := by simp [Tr.find, he, Pm9.lt, hl]
          have HF := Lib.hid (hf2.symm.trans hf.out)
          clear hf hf2
          rw [hal] at c4
          go_wp2
          refine ⟨⟨l, hal.symm, h1, HF, trivial⟩, ?_⟩
          rw [← hal, HL.out, show below wr (Value.pointer (some ⟨b, 0, none⟩)) = _ from HM.out]
          simp only [Wd9.Tr.count]; omega
      · have he' : (p.k.toList != k.toList) = false := by simp [bne, he]
        have hf2 : (Tr.node b p n l r).find k = Tr.node b p n l r := by simp [Tr.find, he]
        have HF := Lib.hid (hf2.symm.trans hf.out)
        clear hf hf2
        go_wp2
        go_ret
        exact ⟨by rw [← HF.out]; rfl, rfl⟩
theorem heap_drewN (w : World) : ∀ n, (w.drewN n).heap = w.heap
  | 0 => rfl
  | n + 1 => heap_drewN w n
theorem tread_drewN (S : Nat → Prop) (w : World) : ∀ n, Tread S w (w.drewN n)
  | 0 => Tread.refl _ _
  | n + 1 => (tread_drewN S w n).drew
theorem In.drewN {w : World} {t : Tr} (h : t.In w) (n : Nat) : t.In (w.drewN n) := h.keep fun b _ => by rw [heap_drewN]
theorem set_left {w : World} {b : Nat} {p : Pr} {n : Int} {x y : Value} (h : w.heap[b]? = some (nodeO p n x y)) (v : Value) : (w.setCell ⟨b, 4, none⟩ v).heap[b]? = some (nodeO p n v y) := setCell_heap h 4 v
theorem set_right {w : World} {b : Nat} {p : Pr} {n : Int} {x y : Value} (h : w.heap[b]? = some (nodeO p n x y)) (v : Value) : (w.setCell ⟨b, 5, none⟩ v).heap[b]? = some (nodeO p n x v) := setCell_heap h 5 v
theorem set_level {w : World} {b : Nat} {p : Pr} {n : Int} {x y : Value} (h : w.heap[b]? = some (nodeO p n x y)) (m : Int) : (w.setCell ⟨b, 3, none⟩ (.int .i64 m)).heap[b]? = some (nodeO p m x y) := setCell_heap h 3 (.int .i64 m)
theorem In.set {w : World} {t : Tr} (h : t.In w) (a : Addr) (v : Value) (ha : a.block ∉ t.ids) : t.In (w.setCell a v) := h.keep fun b hb => setCell_ne w a v b fun e => ha (e ▸ hb)
/-- What a step on a tree leaves: the tree that it answers, nothing else touched. -/
structure Left9 (t t' : Tr) (w w' : World) : Prop where
  tree : t'.In w'
  tread : Tread (· ∈ t.ids) w w'
theorem skew_left {w : World} {b c : Nat} {p q : Pr} {n m : Int} {x y r : Tr} (h : (Tr.node b p n (.node c q m x y) r).In w) (ho : (Tr.node b p n (.node c q m x y) r).Once) (nq : Nat) :
    Left9 (.node b p n (.node c q m x y) r) (.node c q m x (.node b p n y r)) w (((w.drewN nq).setCell ⟨b, 4, none⟩ y.ptr).setCell ⟨c, 5, none⟩ (.pointer (some ⟨b, 0, none⟩))) := by
  obtain ⟨o1, o2, o3, o4, o5⟩ := ho.parts
  obtain ⟨u1, u2, u3, u4, u5⟩ := o3.parts
  have hbc : b ≠ c := fun e => o1 (by rw [e]; exact List.mem_cons_self)
  have hbx : b ∉ x.ids := fun e => o1 (List.mem_cons_of_mem _ (List.mem_append_left _ e))
  have hby : b ∉ y.ids := fun e => o1 (List.mem_cons_of_mem _ (List.mem_append_right _ e))
  have hcr : c ∉ r.ids := o5 c List.mem_cons_self
  obtain ⟨h0, ⟨k0, k1, k2⟩, h2⟩ := h
  have h0' : (w.drewN nq).heap[b]? = some (nodeO p n (Tr.node c q m x y).ptr r.ptr) := by rw [heap_drewN]; exact h0
  have k0' : (w.drewN nq).heap[c]? = some (nodeO q m x.ptr y.ptr) := by rw [heap_drewN]; exact k0
  refine ⟨⟨?_, ?_, ?_, ?_, ?_⟩, ?_⟩
  · exact set_right (by rw [setCell_ne _ _ _ _ hbc.symm]; exact k0') _
  · exact In.set (In.set (In.drewN k1 nq) _ _ hbx) _ _ u1
  · rw [setCell_ne _ _ _ _ hbc]
    exact set_left h0' _
  · exact In.set (In.set (In.drewN k2 nq) _ _ hby) _ _ u2
  · exact In.set (In.set (In.drewN h2 nq) _ _ o2) _ _ hcr
  · have h1 : Tread (· ∈ (Tr.node b p n (.node c q m x y) r).ids) (w.drewN nq) (((w.drewN nq).setCell ⟨b, 4, none⟩ y.ptr).setCell ⟨c, 5, none⟩ (.pointer (some ⟨b, 0, none⟩))) :=
      (Tread.setCell _ ⟨b, 4, none⟩ _ List.mem_cons_self).trans (Tread.setCell _ ⟨c, 5, none⟩ _ (.inl (List.mem_cons_of_mem _ (List.mem_append_left _ List.mem_cons_self))))
    exact (tread_drewN _ w nq).trans (h1.mono fun i hi => .inl hi)
theorem left_same {w : World} {t : Tr} (h : t.In w) (nq : Nat) : Left9 t t w (w.drewN nq) := ⟨In.drewN h nq, tread_drewN _ w nq⟩
set_option maxRecDepth 20000 in
set_option maxHeartbeats 2000000 in
theorem skew_any (w : World) (b : Nat) (p : Pr) (n : Int) (l r : Tr) (h : (Tr.node b p n l r).In w) (ho : (Tr.node b p n l r).Once) :
    Calls Try.prog 29 #[.pointer (some ⟨b, 0, none⟩)] w fun e w' => e = .returned (Tr.node b p n l r).skew.ptr ∧ Left9 (Tr.node b p n l r) (Tr.node b p n l r).skew w w' := by
  have h0 := h.1
  obtain ⟨c0, c1, c2, c3, c4, c5, cf⟩ := node_cells h0
  have cf4 := cf 4
  go_enter Try.func29, Try.ntmps29
  cases l with
  | nil =>
    dsimp only [Tr.ptr] at c4
    have hs := fun nq => left_same h nq
    have HS := Lib.hid hs
    clear hs h ho h0
    go_wp2
    go_quiet (fail)
    go_wp2
    go_ret
    exact ⟨rfl, HS.out _⟩
  | node c q m x y =>
    obtain ⟨d0, d1, d2, d3, d4, d5, df⟩ := node_cells h.2.1.1
    have df5 := df 5
    dsimp only [Tr.ptr] at c4
    obtain ⟨ay, hay⟩ := Tr.ptr_shape y
    by_cases hm : m < n
    · have hs := fun nq => left_same h nq
      have HS := Lib.hid hs
      have hsk : (Tr.node b p n (.node c q m x y) r).skew = .node b p n (.node c q m x y) r := if_pos hm
      rw [hsk]
      clear hs h ho h0 hsk
      go_wp2
      go_quiet (fail)
      go_wp2
      go_ret
      exact ⟨rfl, HS.out _⟩
    · have hs := fun nq => skew_left h ho nq
      rw [hay] at hs d5
      have HS := Lib.hid hs
      have hsk : (Tr.node b p n (.node c q m x y) r).skew = .node c q m x (.node b p n y r) := if_neg hm
      rw [hsk]
      clear hs h ho h0 hsk
      go_wp2
      go_quiet (fail)
      go_wp2
      go_ret
      exact ⟨rfl, HS.out _⟩
theorem split_right {w : World} {b c : Nat} {p q : Pr} {n m : Int} {l x z : Tr} (h : (Tr.node b p n l (.node c q m x z)).In w) (ho : (Tr.node b p n l (.node c q m x z)).Once) (nq : Nat) :
    Left9 (.node b p n l (.node c q m x z)) (.node c q (wrap64 (m + 1)) (.node b p n l x) z) w ((((w.drewN nq).setCell ⟨b, 5, none⟩ x.ptr).setCell ⟨c, 4, none⟩ (.pointer (some ⟨b, 0, none⟩))).setCell ⟨c, 3, none⟩ (.int .i64 (wrap64 (m + 1)))) := by
  obtain ⟨o1, o2, o3, o4, o5⟩ := ho.parts
  obtain ⟨u1, u2, u3, u4, u5⟩ := o4.parts
  have hbc : b ≠ c := fun e => o2 (by rw [e]; exact List.mem_cons_self)
  have hbx : b ∉ x.ids := fun e => o2 (List.mem_cons_of_mem _ (List.mem_append_left _ e))
  have hbz : b ∉ z.ids := fun e => o2 (List.mem_cons_of_mem _ (List.mem_append_right _ e))
  have hcl : c ∉ l.ids := fun e => o5 c e List.mem_cons_self
  obtain ⟨h0, h1, ⟨k0, k1, k2⟩⟩ := h
  have h0' : (w.drewN nq).heap[b]? = some (nodeO p n l.ptr (Tr.node c q m x z).ptr) := by rw [heap_drewN]; exact h0
  have k0' : (w.drewN nq).heap[c]? = some (nodeO q m x.ptr z.ptr) := by rw [heap_drewN]; exact k0
  refine ⟨⟨?_, ⟨?_, ?_, ?_⟩, ?_⟩, ?_⟩
  · refine set_level (n := m) (set_left (x := x.ptr) ?_ _) _
    rw [setCell_ne _ _ _ _ hbc.symm]; exact k0'
  · rw [setCell_ne _ _ _ _ hbc, setCell_ne _ _ _ _ hbc]
    exact set_right h0' _
  · exact In.set (In.set (In.set (In.drewN h1 nq) _ _ o1) _ _ hcl) _ _ hcl
  · exact In.set (In.set (In.set (In.drewN k1 nq) _ _ hbx) _ _ u1) _ _ u1
  · exact In.set (In.set (In.set (In.drewN k2 nq) _ _ hbz) _ _ u2) _ _ u2
  · have hc : c ∈ (Tr.node b p n l (.node c q m x z)).ids := List.mem_cons_of_mem _ (List.mem_append_right _ List.mem_cons_self)
    have h1 := ((Tread.setCell (S := (· ∈ (Tr.node b p n l (.node c q m x z)).ids)) (w.drewN nq) ⟨b, 5, none⟩ x.ptr List.mem_cons_self).trans (Tread.setCell _ ⟨c, 4, none⟩ (.pointer (some ⟨b, 0, none⟩)) (.inl hc))).trans (Tread.setCell _ ⟨c, 3, none⟩ (.int .i64 (wrap64 (m + 1))) (.inl hc))
    exact (tread_drewN _ w nq).trans (h1.mono fun i hi => .inl hi)
set_option maxRecDepth 20000 in
set_option maxHeartbeats 2000000 in
theorem split_any (w : World) (b : Nat) (p : Pr) (n : Int) (l r : Tr) (h : (Tr.node b p n l r).In w) (ho : (Tr.node b p n l r).Once) :
    Calls Try.prog 30 #[.pointer (some ⟨b, 0, none⟩)] w fun e w' => e = .returned (Tr.node b p n l r).split.ptr ∧ Left9 (Tr.node b p n l r) (Tr.node b p n l r).split w w' := by
  have h0 := h.1
  obtain ⟨c0, c1, c2, c3, c4, c5, cf⟩ := node_cells h0
  have cf5 := cf 5
  go_enter Try.func30, Try.ntmps30
  cases r with
  | nil =>
    dsimp only [Tr.ptr] at c5
    have hs := fun nq => left_same h nq
    have HS := Lib.hid hs
    clear hs h ho h0
    go_wp2
    go_quiet (fail)
    go_wp2
    go_ret
    exact ⟨rfl, HS.out _⟩
  | node c q m x z =>
    obtain ⟨d0, d1, d2, d3, d4, d5, df⟩ := node_cells h.2.2.1
    have df4 := df 4
    have df3 := df 3
    dsimp only [Tr.ptr] at c5
    obtain ⟨ax, hax⟩ := Tr.ptr_shape x
    cases z with
    | nil =>
      dsimp only [Tr.ptr] at d5
      have hs := fun nq => left_same h nq
      have HS := Lib.hid hs
      clear hs h ho h0
      go_wp2
      go_quiet (fail)
      go_wp2
      go_ret
      exact ⟨rfl, HS.out _⟩
    | node d s o y z =>
      obtain ⟨e0, e1, e2, e3, e4, e5, ef⟩ := node_cells h.2.2.2.2.1
      dsimp only [Tr.ptr] at d5
      by_cases hm : o < n
      · have hs := fun nq => left_same h nq
        have HS := Lib.hid hs
        have hsk : (Tr.node b p n l (.node c q m x (.node d s o y z))).split = .node b p n l (.node c q m x (.node d s o y z)) := if_pos hm
        rw [hsk]
        clear hs h ho h0 hsk
        go_wp2
        go_quiet (fail)
        go_wp2
        go_ret
        exact ⟨rfl, HS.out _⟩
      · have hs := fun nq => split_right h ho nq
        have hbc : ¬ b = c := fun e => ho.parts.2.1 (by rw [e]; exact List.mem_cons_self)
        rw [hax] at hs d4
        have HS := Lib.hid hs
        have hsk : (Tr.node b p n l (.node c q m x (.node d s o y z))).split = .node c q (wrap64 (m + 1)) (.node b p n l x) (.node d s o y z) := if_neg hm
        rw [hsk]
        clear hs h ho h0 hsk
        go_wp2
        go_quiet (fail)
        go_wp2
        go_ret
        exact ⟨rfl, HS.out _⟩
end Go.Proofs.Ytkbjmbllnnghlaa.Tf9
