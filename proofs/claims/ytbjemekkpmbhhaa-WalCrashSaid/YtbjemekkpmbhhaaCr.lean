/- A disk behind a clone of its sure files. -/
import Derived.Test.YtbjemekkpmbhhaaSy
namespace Go.Proofs.Ytbjemekkpmbhhaa.Cr
open Go Go.RowKit Go.Lib Go.Proofs.Ytbjemekkpmbhhaa.Mp Go.Proofs.Ytbjemekkpmbhhaa.Dh Go.Proofs.Ytbjemekkpmbhhaa.Ext Go.Proofs.Ytbjemekkpmbhhaa.Fm Go.Proofs.Ytbjemekkpmbhhaa.Dk Go.Proofs.Ytbjemekkpmbhhaa.Cl Go.Proofs.Ytbjemekkpmbhhaa.Bu Go.Proofs.Ytbjemekkpmbhhaa.Ch Go.Proofs.Ytbjemekkpmbhhaa.La Go.Proofs.Ytbjemekkpmbhhaa.Co Go.Proofs.Ytbjemekkpmbhhaa.Se Go.Proofs.Ytbjemekkpmbhhaa.Nm Go.Proofs.Ytbjemekkpmbhhaa.St Go.Proofs.Ytbjemekkpmbhhaa.Ap Go.Proofs.Ytbjemekkpmbhhaa.Tr Go.Proofs.Ytbjemekkpmbhhaa.Kl
theorem clipv_apart (a b : Value) : Apart (clipv a) (clipv b) := by
  intro x n c n' c' e e'
  have h1 : n = c := by
    cases a <;> simp [clipv] at e
    exact e.2.1.symm.trans e.2.2
  have h2 : n' = c' := by
    cases b <;> simp [clipv] at e'
    exact e'.2.1.symm.trans e'.2.2
  exact ⟨fun h => by omega, fun h => by omega⟩
theorem clipv_apart_of (a b : Value) (h : Apart a b) : Apart (clipv a) b := by
  intro x n c n' c' e e'
  cases a <;> simp [clipv] at e
  obtain ⟨e1, e2, e3⟩ := e
  rename_i ad m k
  subst e1 e2 e3
  refine ⟨fun h => by omega, fun hlt => ?_⟩
  have := h x m k n' c' rfl e'
  exact ⟨(this.2 hlt).1, rfl⟩
theorem clipv_apart_self (a : Value) : Apart (clipv a) a := by
  intro x n c n' c' e e'
  subst e'
  simp [clipv] at e
  obtain ⟨e1, e2⟩ := e
  subst e1 e2
  exact ⟨fun h => by omega, fun _ => ⟨Nat.le_refl _, rfl⟩⟩
theorem clipv_text {w : World} {S : Nat → Prop} {v : Value} {t : List UInt8} (h : TextAt w S v t) : TextAt w S (clipv v) t := by
  rcases h with ⟨rfl, rfl⟩ | ⟨b, cap, cs, rfl, ha, h1, h2, h3, h4⟩
  · exact .inl ⟨rfl, rfl⟩
  · exact .inr ⟨b, t.length, cs, rfl, ha, Nat.le_refl _, by omega, by omega, h4⟩
theorem clip_texts {w : World} {S : Nat → Prop} : ∀ {l : List Ent}, Texts w S l → Texts w S (l.map clip ++ l)
  | [], h => h
  | x :: l, h => by
    have ih := clip_texts h.tail
    have h1 : Texts w S (x :: (l.map clip ++ l)) := by
      refine ⟨fun e he => ?_, List.pairwise_cons.2 ⟨fun y hy => ?_, ih.2⟩⟩
      · rcases List.mem_cons.1 he with rfl | he
        · exact h.head.1
        · exact ih.1 e he
      · rcases List.mem_append.1 hy with hy | hy
        · obtain ⟨z, hz, rfl⟩ := List.mem_map.1 hy
          exact (clipv_apart_of _ _ (h.head.2 z hz).symm).symm
        · exact h.head.2 y hy
    have h2 : Texts w S (clip x :: x :: (l.map clip ++ l)) := by
      refine ⟨fun e he => ?_, List.pairwise_cons.2 ⟨fun y hy => ?_, h1.2⟩⟩
      · rcases List.mem_cons.1 he with rfl | he
        · exact clipv_text h.head.1
        · exact h1.1 e he
      · rcases List.mem_cons.1 hy with rfl | hy
        · exact clipv_apart_self _
        · rcases List.mem_append.1 hy with hy | hy
          · obtain ⟨z, hz, rfl⟩ := List.mem_map.1 hy
            exact clipv_apart _ _
          · exact clipv_apart_of _ _ (h.head.2 y hy)
    refine h2.perm ?_
    show (clip x :: x :: (l.map clip ++ l)).Perm (clip x :: (l.map clip ++ x :: l))
    exact (List.perm_middle.symm).cons _
theorem view_clip (es : List Ent) : view (es.map clip) = view es := by
  unfold view
  rw [List.map_map]
  exact List.map_congr_left fun e _ => rfl
theorem wf_clip {es : List Ent} {c : Nat} (h : Wf es c) : Wf (es.map clip) c := by
  have e1 : (es.map clip).map Ent.key = es.map Ent.key := by rw [List.map_map]; exact List.map_congr_left fun e _ => rfl
  have e2 : (es.map clip).map Ent.born = es.map Ent.born := by rw [List.map_map]; exact List.map_congr_left fun e _ => rfl
  refine ⟨by rw [e1]; exact h.keys, by rw [e2]; exact h.bornN, fun x hx => ?_⟩
  obtain ⟨y, hy, rfl⟩ := List.mem_map.1 hx
  exact h.born y hy
/-- Other files are laid as those that are now. -/
theorem setMap {S : Nat → Prop} {w : World} {p : Nat} {d : Dsk} (h : DskAt w S p d) (mb : Nat) (es : List Ent) (c : Nat) (hm : At w S mb (obj es c)) (hne : mb ≠ d.m2) (hwf : Wf es c) (htx : Texts w S (es ++ d.es2)) :
    Ran S w ((w.setCell ⟨p, 1, none⟩ (.map (some mb))).setCell ⟨p, 2, none⟩ (.int .i64 (used (view es)))) p { d with m1 := mb, es1 := es, c1 := c } := by
  have hb1 := setCell_heap h.blk.2 1 (.map (some mb))
  have hb2 := setCell_heap hb1 2 (.int .i64 (used (view es)))
  have hko : ∀ x o, x ≠ p → At w S x o → At ((w.setCell ⟨p, 1, none⟩ (.map (some mb))).setCell ⟨p, 2, none⟩ (.int .i64 (used (view es)))) (grow S w ((w.setCell ⟨p, 1, none⟩ (.map (some mb))).setCell ⟨p, 2, none⟩ (.int .i64 (used (view es))))) x o := fun x o hx ha =>
    ⟨.inl ha.1, by rw [Below.heap_setCell _ _ _ _ hx, Below.heap_setCell _ _ _ _ hx]; exact ha.2⟩
  have hmp : mb ≠ p := fun e => by have := hm.2; rw [e, h.blk.2] at this; cases this
  have hm2 : d.m2 ≠ p := fun e => by have := h.sure.2; rw [e, h.blk.2] at this; cases this
  refine ⟨(Tread.setCell w ⟨p, 1, none⟩ _ h.blk.1).trans ((Tread.setCell _ ⟨p, 2, none⟩ _ h.blk.1).mono grow_up), ⟨⟨.inl h.blk.1, ?_⟩, hko _ _ hmp hm, hko _ _ hm2 h.sure, hne, hwf, h.wf2, ?_⟩, ?_⟩
  · rw [hb2]; rfl
  · refine htx.keep fun x o hxt ha => hko x o ?_ ha
    rintro rfl
    obtain ⟨cs, fr, rfl⟩ := hxt
    have := ha.2
    rw [h.blk.2] at this; cases this
  · rintro x o ⟨cs, T, fr, rfl, hT1, hT2⟩ hx
    have hxp : x ≠ p := by
      rintro rfl
      rw [h.blk.2] at hx; cases hx; exact hT2 rfl
    rw [Below.heap_setCell _ _ _ _ hxp, Below.heap_setCell _ _ _ _ hxp]; exact hx
theorem ran_below {S : Nat → Prop} {w w' : World} {p : Nat} {d : Dsk} (h : DskAt w S p d) (hb : Below w.heap.size w w') : Ran S w w' p d := by
  have hk : ∀ b o, At w S b o → At w' (grow S w w') b o := fun b o ha => ⟨.inl ha.1, by rw [hb.block b (lt_of_at ha.2)]; exact ha.2⟩
  exact ⟨⟨hb.os, hb.tape, hb.output, hb.size, fun b hlt _ => hb.block b hlt⟩, ⟨hk _ _ h.blk, hk _ _ h.now, hk _ _ h.sure, h.ne, h.wf1, h.wf2, h.texts.keep fun b o _ ha => hk b o ha⟩, fun b o _ ho => by rw [hb.block b (lt_of_at ho)]; exact ho⟩
/-- The sure files are cloned, and laid as those that are now. -/
theorem cloned {S : Nat → Prop} {w w2 w3 : World} {p : Nat} {d : Dsk} (h : Ran S w w2 p d) (hb : Below w2.heap.size w2 w3) (hm : w3.heap[w2.heap.size + 1]? = some (obj (d.es2.map clip) d.c2)) (hs : w3.heap.size = w2.heap.size + 3) :
    Ran S w ((w3.setCell ⟨p, 1, none⟩ (.map (some (w2.heap.size + 1)))).setCell ⟨p, 2, none⟩ (.int .i64 (used (view d.es2)))) p { d with m1 := w2.heap.size + 1, es1 := d.es2.map clip, c1 := d.c2 } := by
  have r3 : Ran S w w3 p d := Ran.trans h (ran_below h.at_ hb)
  have hlt := lt_of_at h.at_.sure.2
  have ht2 : Texts w3 (grow S w w3) d.es2 := Cm.Texts.sub r3.at_.texts (List.sublist_append_right _ _)
  have := setMap r3.at_ (w2.heap.size + 1) (d.es2.map clip) d.c2 ⟨.inr ⟨by have := h.tread.size; omega, by omega⟩, hm⟩ (by omega) (wf_clip r3.at_.wf2) (clip_texts ht2)
  rw [view_clip] at this
  exact Ran.trans r3 this
end Go.Proofs.Ytbjemekkpmbhhaa.Cr
