/- The four calls on files, done to a disk's files as they are now, or to those that are sure. -/
import Derived.Test.YtbjemekkpmbhhaaDk
namespace Go.Proofs.Ytbjemekkpmbhhaa.Cm
open Go Go.RowKit Go.Lib Go.Proofs.Ytbjemekkpmbhhaa.Mp Go.Proofs.Ytbjemekkpmbhhaa.Dh Go.Proofs.Ytbjemekkpmbhhaa.Ext Go.Proofs.Ytbjemekkpmbhhaa.Bc Go.Proofs.Ytbjemekkpmbhhaa.Fm Go.Proofs.Ytbjemekkpmbhhaa.Dk
open Go.ChangeMaps (setBlock)
theorem TD_ne : (49 : TypeId) ≠ 5 := by decide
/-- A file's bytes as they lie. -/
theorem DskAt.file {w : World} {S : Nat → Prop} {p : Nat} {d : Dsk} (h : DskAt w S p d) (b : Bool) (k : ByteArray) :
    TextAt w S (((find (d.es b) k).map Ent.val).getD (.slice none 0 0)) (txt (view (d.es b)) k) := by
  unfold txt
  rw [get_view]
  rcases hf : find (d.es b) k with _ | e
  · exact .inl ⟨rfl, rfl⟩
  · exact (h.tx b).1 e (List.mem_append_left _ (find_key k _ e hf).2)
theorem ext_any {S : Nat → Prop} {w : World} {p : Nat} {d : Dsk} (b : Bool) (h : DskAt w S p d) (k s : ByteArray) (hok : Cmd.ok (view (d.es b)) (.app k s)) :
    Calls Try.prog 51 #[.pointer (some ⟨p, off b, none⟩), .string k, .string s] w fun e w' => e = .returned (.tuple #[]) ∧
      ∃ es' c', view es' = Cmd.run (view (d.es b)) (.app k s) ∧ Ran S w w' p (d.put es' c' b) := by
  have htl := txt_le k (view (d.es b))
  simp only [Cmd.ok] at hok
  have hmb := h.map b
  have hmp : p ≠ d.m b := fun e => by have := hmb.2; rw [← e, h.blk.2] at this; cases this
  refine (Ext.walk S w p (off b) (d.m b) d.cells 49 (d.es b) (d.c b) (used (view (d.es b))) k s _ (txt (view (d.es b)) k) TD_ne h.blk.2 (cells_off d b) (cells_used d b) hmb.2 rfl (DskAt.file h b k) (by omega) (by omega)).mono ?_
  rintro e w' ⟨rfl, v', w1, happ, hal⟩
  refine ⟨rfl, put (d.es b) k v' (txt (view (d.es b)) k ++ s.data.toList) (d.c b), clockOf (d.es b) k (d.c b), view_put .., ?_⟩
  obtain ⟨hh, ho1, ho2, ho3⟩ := hal
  have hp1 : w1.heap[p]? = some (.cells d.cells 49 (0, 0)) := happ.plain p _ (fun ⟨_, _, hx⟩ => by cases hx) h.blk.2
  have hm1 : w1.heap[d.m b]? = some (obj (d.es b) (d.c b)) := happ.plain _ _ (fun ⟨_, _, hx⟩ => by cases hx) hmb.2
  have hp2 : (setBlock w1 (d.m b) (obj (put (d.es b) k v' (txt (view (d.es b)) k ++ s.data.toList) (d.c b)) (clockOf (d.es b) k (d.c b)))).heap[p]? = some (.cells d.cells 49 (0, 0)) := (setBlock_ne _ _ _ _ hmp).trans hp1
  refine mkRan b h happ.touch (fun x o hx _ hb => happ.plain x o hx hb) _ _ ?_ ((h.wf b).put ..) ⟨_, hp1⟩ ?_ ?_ ?_ ?_ ⟨ho1, ho2, ho3⟩
  · have htx := h.tx b
    rcases hf : find (d.es b) k with _ | e
    · rw [put_miss k _ _ _ _ hf]
      simp only [hf, Option.map_none, Option.getD_none] at happ
      exact (Texts.step htx (fun y _ => Apart.nil _) happ k (d.c b)).perm (perm_end ..).symm
    · obtain ⟨pre, post, h1, h2, _⟩ := put_split k v' (txt (view (d.es b)) k ++ s.data.toList) (d.c b) (d.es b) e hf
      rw [h2]
      simp only [hf, Option.map_some, Option.getD_some] at happ
      have htx' : Texts w S (e :: (pre ++ post ++ d.es (!b))) := by rw [h1] at htx; exact htx.perm (perm_mid ..)
      exact (Texts.step htx'.tail htx'.head.2 happ k e.born).perm (perm_mid ..).symm
  · rw [hh, setCell_heap hp2, ← cells_put, view_put]
    have hu := used_put k (txt (view (d.es b)) k ++ s.data.toList) (view (d.es b))
    simp only [List.length_append] at hu
    have hs : s.data.toList.length = s.size := by simp
    have he : ((used (view (d.es b)) : Int) + s.size) = ((used (Fm.put (view (d.es b)) k (txt (view (d.es b)) k ++ s.data.toList)) : Nat) : Int) := by omega
    rw [he]
  · rw [hh, Below.heap_setCell _ _ _ _ (Ne.symm hmp)]
    exact setBlock_at _ _ _ _ hm1
  · intro x hxp hxm
    rw [hh, Below.heap_setCell _ _ _ _ hxp, setBlock_ne _ _ _ _ hxm]
  · rw [hh, setCell_size, setBlock_size]
theorem Fresh.notText {S : Nat → Prop} {w w1 : World} {v' : Value} {t' : List UInt8} (hf : Fresh S w w1 v' t') : ∀ (x : Nat) (o : Obj), w.heap[x]? = some o → w1.heap[x]? = some o := hf.plain
theorem cut_any {S : Nat → Prop} {w : World} {p : Nat} {d : Dsk} (b : Bool) (h : DskAt w S p d) (k : ByteArray) (n : Nat) (hok : Cmd.ok (view (d.es b)) (.cut k n)) (hu : used (view (d.es b)) ≤ 16777216) :
    Calls Try.prog 43 #[.pointer (some ⟨p, off b, none⟩), .string k, .int .i64 n] w fun e w' => e = .returned (.tuple #[]) ∧
      ∃ es' c', view es' = Cmd.run (view (d.es b)) (.cut k n) ∧ Ran S w w' p (d.put es' c' b) := by
  have htl := txt_le k (view (d.es b))
  simp only [Cmd.ok] at hok
  have hmb := h.map b
  have hmp : p ≠ d.m b := fun e => by have := hmb.2; rw [← e, h.blk.2] at this; cases this
  refine (Cut.cut_walk S w p (off b) (d.m b) d.cells 49 (d.es b) (d.c b) (used (view (d.es b))) k _ (txt (view (d.es b)) k) n TD_ne h.blk.2 (cells_off d b) (cells_used d b) hmb.2 rfl (DskAt.file h b k) (by omega) hok (by omega)).mono ?_
  rintro e w' ⟨rfl, v', w1, hf, hal⟩
  refine ⟨rfl, put (d.es b) k v' ((txt (view (d.es b)) k).take n) (d.c b), clockOf (d.es b) k (d.c b), view_put .., ?_⟩
  obtain ⟨hh, ho1, ho2, ho3⟩ := hal
  obtain ⟨w0, hw0⟩ : ∃ w0, w0 = w.setCell ⟨p, off b + 1, none⟩ (.int .i64 (used (view (d.es b)) - ((txt (view (d.es b)) k).length - n))) := ⟨_, rfl⟩
  rw [← hw0] at hf
  have h0 : ∀ x, x ≠ p → w0.heap[x]? = w.heap[x]? := fun x hx => by rw [hw0, Below.heap_setCell _ _ _ _ hx]
  have hs0 : w0.heap.size = w.heap.size := by rw [hw0, setCell_size]
  have hgg : grow S w w1 = grow S w0 w1 := by funext x; simp [grow, hs0]
  have hp0 := setCell_heap h.blk.2 (off b + 1) (.int .i64 (used (view (d.es b)) - ((txt (view (d.es b)) k).length - n)))
  rw [← hw0] at hp0
  have hp1 := hf.plain p _ hp0
  have hm1 : w1.heap[d.m b]? = some (obj (d.es b) (d.c b)) := hf.plain _ _ (by rw [h0 _ (Ne.symm hmp)]; exact hmb.2)
  have t0 : Tread S w w0 := by rw [hw0]; exact Tread.setCell _ _ _ h.blk.1
  have ht : Tread S w w1 := t0.trans (hf.touch.mono grow_up)
  have htx0 : Texts w0 S (d.es b ++ d.es (!b)) := (h.tx b).keep fun x o hxt ha => ⟨ha.1, by
    rw [h0 x ?_]
    · exact ha.2
    · rintro rfl
      obtain ⟨cs', fr, rfl⟩ := hxt
      have := ha.2
      rw [h.blk.2] at this
      cases this⟩
  refine mkRan b h ht (fun x o _ hxp hb => hf.plain x o (by rw [h0 x hxp]; exact hb)) _ _ ?_ ((h.wf b).put ..) ⟨_, hp1⟩ ?_ ?_ ?_ ?_ ⟨ho1, ho2, ho3⟩
  · rw [hgg]
    rcases hfd : find (d.es b) k with _ | e
    · rw [put_miss k _ _ _ _ hfd]
      exact (Texts.fresh htx0 hf k (d.c b)).perm (perm_end ..).symm
    · obtain ⟨pre, post, h1, h2, _⟩ := put_split k v' ((txt (view (d.es b)) k).take n) (d.c b) (d.es b) e hfd
      rw [h2]
      have htx' : Texts w0 S (e :: (pre ++ post ++ d.es (!b))) := by rw [h1] at htx0; exact htx0.perm (perm_mid ..)
      exact (Texts.fresh htx'.tail hf k e.born).perm (perm_mid ..).symm
  · rw [hh, setBlock_ne _ _ _ _ hmp, hp1, ← cells_put, view_put]
    have hu' := used_put k ((txt (view (d.es b)) k).take n) (view (d.es b))
    have hl : ((txt (view (d.es b)) k).take n).length = n := by simp; omega
    rw [hl] at hu'
    have he : ((used (view (d.es b)) : Int) - ((txt (view (d.es b)) k).length - n)) = ((used (Fm.put (view (d.es b)) k ((txt (view (d.es b)) k).take n)) : Nat) : Int) := by omega
    rw [he]
  · rw [hh]
    exact setBlock_at _ _ _ _ hm1
  · intro x hxp hxm
    rw [hh, setBlock_ne _ _ _ _ hxm]
  · rw [hh, setBlock_size]
theorem rem_any {S : Nat → Prop} {w : World} {p : Nat} {d : Dsk} (b : Bool) (h : DskAt w S p d) (k : ByteArray) (hu : used (view (d.es b)) ≤ 16777216) :
    Calls Try.prog 67 #[.pointer (some ⟨p, off b, none⟩), .string k] w fun e w' => e = .returned (.tuple #[]) ∧
      ∃ es' c', view es' = Cmd.run (view (d.es b)) (.rem k) ∧ Ran S w w' p (d.put es' c' b) := by
  have htl := txt_le k (view (d.es b))
  have hmb := h.map b
  have hmp : p ≠ d.m b := fun e => by have := hmb.2; rw [← e, h.blk.2] at this; cases this
  refine (Cut.drop_walk S w p (off b) (d.m b) d.cells 49 (d.es b) (d.c b) (used (view (d.es b))) k _ (txt (view (d.es b)) k) h.blk.2 (cells_off d b) (cells_used d b) hmb.2 rfl (DskAt.file h b k) (by omega) (by omega)).mono ?_
  rintro e w' ⟨rfl, hh, ho1, ho2, ho3⟩
  refine ⟨rfl, del (d.es b) k, d.c b, view_del .., ?_⟩
  have hp2 := setCell_heap h.blk.2 (off b + 1) (.int .i64 (used (view (d.es b)) - (txt (view (d.es b)) k).length))
  refine mkRan b h (Tread.refl S w) (fun x o _ _ hb => hb) _ _ ?_ ((h.wf b).del ..) ⟨_, h.blk.2⟩ ?_ ?_ ?_ ?_ ⟨ho1, ho2, ho3⟩
  · have hg : ∀ x, S x → grow S w w x := grow_up
    have htx := (h.tx b).keep (w' := w) (S' := grow S w w) fun x o _ ha => ha.up hg
    rcases hfd : find (d.es b) k with _ | e
    · rw [del_miss k _ hfd]; exact htx
    · obtain ⟨pre, post, h1, _, h3⟩ := put_split k .nilFunc [] 0 (d.es b) e hfd
      rw [h3]
      have htx' : Texts w (grow S w w) (e :: (pre ++ post ++ d.es (!b))) := by rw [h1] at htx; exact htx.perm (perm_mid ..)
      exact htx'.tail
  · rw [hh, setBlock_ne _ _ _ _ hmp, hp2, ← cells_put, view_del]
    have hu' := used_del k (view (d.es b))
    have he : ((used (view (d.es b)) : Int) - (txt (view (d.es b)) k).length) = ((used (Fm.del (view (d.es b)) k) : Nat) : Int) := by omega
    rw [he]
  · rw [hh]
    exact setBlock_at _ _ _ (obj (d.es b) (d.c b)) (by rw [Below.heap_setCell _ _ _ _ (Ne.symm hmp)]; exact hmb.2)
  · intro x hxp hxm
    rw [hh, setBlock_ne _ _ _ _ hxm, Below.heap_setCell _ _ _ _ hxp]
  · rw [hh, setBlock_size, setCell_size]
theorem find_put_ne (j k : ByteArray) (v : Value) (t : List UInt8) (c : Nat) (hne : j ≠ k) : ∀ es : List Ent, find (Mp.put es k v t c) j = find es j
  | [] => by simp [Mp.put, find, Ne.symm hne]
  | e :: es => by
    have ih := find_put_ne j k v t c hne es
    by_cases h : e.key = k
    · have h' : ¬ e.key = j := fun x => hne (x.symm.trans h)
      rw [Mp.put, if_pos h]; simp only [find, h', if_false, Ne.symm hne]
    · rw [Mp.put, if_neg h]
      simp only [find, ih]
theorem find_del_ne (j k : ByteArray) (hne : j ≠ k) : ∀ es : List Ent, find (Mp.del es k) j = find es j
  | [] => rfl
  | e :: es => by
    have ih := find_del_ne j k hne es
    by_cases h : e.key = k
    · have h' : ¬ e.key = j := fun x => hne (x.symm.trans h)
      rw [Mp.del, if_pos h]; simp only [find, h', if_false]
    · rw [Mp.del, if_neg h]
      simp only [find, ih]
theorem put_perm (es : List Ent) (k : ByteArray) (v : Value) (t : List UInt8) (c : Nat) : ∃ b, (put es k v t c).Perm (⟨k, v, t, b⟩ :: del es k) := by
  rcases hf : find es k with _ | e
  · rw [put_miss k v t c es hf, del_miss k es hf]
    exact ⟨c, List.perm_append_comm⟩
  · obtain ⟨pre, post, _, h2, h3⟩ := put_split k v t c es e hf
    rw [h2, h3]
    exact ⟨e.born, List.perm_middle⟩
theorem del_perm (es : List Ent) (k : ByteArray) (e : Ent) (hf : find es k = some e) : es.Perm (e :: del es k) := by
  obtain ⟨pre, post, h1, _, h3⟩ := put_split k .nilFunc [] 0 es e hf
  rw [h3]
  rw [h1]
  exact List.perm_middle
theorem del_sub (es : List Ent) (k : ByteArray) : (del es k).Sublist es := by
  rcases hf : find es k with _ | e
  · rw [del_miss k es hf]; exact List.Sublist.refl _
  · obtain ⟨pre, post, h1, _, h3⟩ := put_split k .nilFunc [] 0 es e hf
    rw [h3]
    have : (pre ++ post).Sublist (pre ++ e :: post) := List.Sublist.append_left (List.sublist_cons_self e post) pre
    rw [← h1] at this; exact this
theorem Texts.sub {w : World} {S : Nat → Prop} {l l' : List Ent} (h : Texts w S l) (hs : l'.Sublist l) : Texts w S l' := ⟨fun e he => h.1 e (hs.subset he), h.2.sublist hs⟩
theorem mov_texts {w : World} {S : Nat → Prop} {es os : List Ent} (h : Texts w S (es ++ os)) (j k : ByteArray) (hne : j ≠ k) (e : Ent) (hj : find es j = some e) (c : Nat) :
    Texts w S (del (put es k e.val e.text c) j ++ os) := by
  obtain ⟨b, hp⟩ := put_perm es k e.val e.text c
  have h1 := del_perm (put es k e.val e.text c) j e ((find_put_ne j k _ _ _ hne es).trans hj)
  have h2 := del_perm (del es k) j e ((find_del_ne j k hne es).trans hj)
  have h3 : (e :: del (put es k e.val e.text c) j).Perm (e :: ⟨k, e.val, e.text, b⟩ :: del (del es k) j) :=
    (h1.symm.trans hp).trans ((h2.cons _).trans (List.Perm.swap ..))
  have h4 := h3.cons_inv
  have h5 : Texts w S (e :: (del (del es k) j ++ os)) := (Texts.sub h (List.Sublist.append_right (del_sub es k) os)).perm (h2.append_right os)
  have h6 : Texts w S (⟨k, e.val, e.text, b⟩ :: (del (del es k) j ++ os)) :=
    ⟨fun x hx => by
      rcases List.mem_cons.1 hx with rfl | hx
      · exact h5.head.1
      · exact h5.1 x (List.mem_cons_of_mem _ hx), List.pairwise_cons.2 ⟨h5.head.2, h5.tail.2⟩⟩
  exact h6.perm (h4.append_right os).symm
end Go.Proofs.Ytbjemekkpmbhhaa.Cm
