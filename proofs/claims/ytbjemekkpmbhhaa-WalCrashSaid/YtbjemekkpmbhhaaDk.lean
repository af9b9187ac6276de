/- A disk as it lies in memory, and the calls on its files: what each leaves. -/
import Derived.Test.YtbjemekkpmbhhaaFm
import Derived.Test.YtbjemekkpmbhhaaCut
namespace Go.Proofs.Ytbjemekkpmbhhaa.Dk
open Go Go.RowKit Go.Lib Go.Proofs.Ytbjemekkpmbhhaa.Mp Go.Proofs.Ytbjemekkpmbhhaa.Dh Go.Proofs.Ytbjemekkpmbhhaa.Ext Go.Proofs.Ytbjemekkpmbhhaa.Bc Go.Proofs.Ytbjemekkpmbhhaa.Fm
open Go.ChangeMaps (setBlock)
def Texts (w : World) (S : Nat → Prop) (l : List Ent) : Prop := (∀ e ∈ l, TextAt w S e.val e.text) ∧ l.Pairwise fun a b => Apart a.val b.val
theorem Texts.perm {w : World} {S : Nat → Prop} {l l' : List Ent} (h : Texts w S l) (hp : l.Perm l') : Texts w S l' :=
  ⟨fun e he => h.1 e (hp.mem_iff.2 he), (hp.pairwise_iff (fun h => h.symm)).1 h.2⟩
theorem Texts.tail {w : World} {S : Nat → Prop} {e : Ent} {l : List Ent} (h : Texts w S (e :: l)) : Texts w S l :=
  ⟨fun x hx => h.1 x (List.mem_cons_of_mem _ hx), (List.pairwise_cons.1 h.2).2⟩
theorem Texts.head {w : World} {S : Nat → Prop} {e : Ent} {l : List Ent} (h : Texts w S (e :: l)) : TextAt w S e.val e.text ∧ ∀ y ∈ l, Apart e.val y.val :=
  ⟨h.1 e (List.mem_cons_self ..), fun y hy => (List.pairwise_cons.1 h.2).1 y hy⟩
theorem Texts.keep {w w' : World} {S S' : Nat → Prop} {l : List Ent} (h : Texts w S l) (hk : ∀ b o, isText o → At w S b o → At w' S' b o) : Texts w' S' l :=
  ⟨fun e he => (h.1 e he).keep hk, h.2⟩
theorem Texts.step {w w1 : World} {S : Nat → Prop} {rest : List Ent} {v v' : Value} {t' : List UInt8} (h : Texts w S rest) (ha : ∀ y ∈ rest, Apart v y.val) (happ : Appended S w w1 v v' t') (k : ByteArray) (b : Nat) :
    Texts w1 (grow S w w1) (⟨k, v', t', b⟩ :: rest) := by
  refine ⟨fun e he => ?_, List.pairwise_cons.2 ⟨fun y hy => (happ.other y.val y.text (ha y hy) (h.1 y hy)).2, h.2⟩⟩
  rcases List.mem_cons.1 he with rfl | he
  · exact happ.text
  · exact (happ.other e.val e.text (ha e he) (h.1 e he)).1
theorem Texts.fresh {w w1 : World} {S : Nat → Prop} {rest : List Ent} {v' : Value} {t' : List UInt8} (h : Texts w S rest) (hf : Fresh S w w1 v' t') (k : ByteArray) (b : Nat) :
    Texts w1 (grow S w w1) (⟨k, v', t', b⟩ :: rest) := by
  refine ⟨fun e he => ?_, List.pairwise_cons.2 ⟨fun y hy => hf.apart y.val y.text (h.1 y hy), h.2⟩⟩
  rcases List.mem_cons.1 he with rfl | he
  · exact hf.text
  · exact (h.1 e he).keep fun b o _ ha => ⟨.inl ha.1, hf.plain b o ha.2⟩
theorem perm_mid (pre post os : List Ent) (e : Ent) : (pre ++ e :: post ++ os).Perm (e :: (pre ++ post ++ os)) := by
  simp
theorem perm_end (es os : List Ent) (e : Ent) : (es ++ [e] ++ os).Perm (e :: (es ++ os)) := by
  simp
structure Wf (es : List Ent) (c : Nat) : Prop where
  keys : (es.map Ent.key).Nodup
  bornN : (es.map Ent.born).Nodup
  born : ∀ e ∈ es, e.born < c
theorem Wf.put {es : List Ent} {c : Nat} (h : Wf es c) (k : ByteArray) (v : Value) (t : List UInt8) : Wf (Mp.put es k v t c) (clockOf es k c) := by
  rcases hf : find es k with _ | e
  · rw [put_miss k v t c es hf]
    simp only [clockOf, hf, Option.isSome_none, Bool.false_eq_true, if_false]
    refine ⟨?_, ?_, ?_⟩
    · rw [List.map_append, List.map_cons, List.map_nil, List.nodup_append]
      refine ⟨h.keys, by simp, ?_⟩
      intro a ha b hb
      simp only [List.mem_singleton] at hb
      subst hb
      rintro rfl
      exact (find_none _ es).1 hf ha
    · rw [List.map_append, List.map_cons, List.map_nil, List.nodup_append]
      refine ⟨h.bornN, by simp, ?_⟩
      intro a ha b hb
      simp only [List.mem_singleton] at hb
      subst hb
      rintro rfl
      obtain ⟨x, hx, hxe⟩ := List.mem_map.1 ha
      have := h.born x hx
      omega
    · intro x hx
      rcases List.mem_append.1 hx with hx | hx
      · have := h.born x hx; omega
      · simp only [List.mem_singleton] at hx; subst hx; exact Nat.lt_succ_self _
  · obtain ⟨pre, post, h1, h2, _⟩ := put_split k v t c es e hf
    have hk := (find_key k es e hf).1
    simp only [clockOf, hf, Option.isSome_some, if_true]
    rw [h2]
    have e1 : (pre ++ (⟨k, v, t, e.born⟩ : Ent) :: post).map Ent.key = es.map Ent.key := by rw [h1]; simp [hk]
    have e2 : (pre ++ (⟨k, v, t, e.born⟩ : Ent) :: post).map Ent.born = es.map Ent.born := by rw [h1]; simp
    refine ⟨by rw [e1]; exact h.keys, by rw [e2]; exact h.bornN, ?_⟩
    intro x hx
    have hm : x.born ∈ es.map Ent.born := by rw [← e2]; exact List.mem_map.2 ⟨x, hx, rfl⟩
    obtain ⟨y, hy, hye⟩ := List.mem_map.1 hm
    rw [← hye]; exact h.born y hy
theorem Wf.del {es : List Ent} {c : Nat} (h : Wf es c) (k : ByteArray) : Wf (Mp.del es k) c := by
  rcases hf : find es k with _ | e
  · rw [del_miss k es hf]; exact h
  · obtain ⟨pre, post, h1, _, h3⟩ := put_split k .nilFunc [] 0 es e hf
    have hs : (pre ++ post).Sublist es := by rw [h1]; exact List.Sublist.append_left (List.sublist_cons_self e post) pre
    rw [h3]
    exact ⟨h.keys.sublist (hs.map _), h.bornN.sublist (hs.map _), fun x hx => h.born x (hs.subset hx)⟩
structure Dsk where
  room : Int
  m1 : Nat
  es1 : List Ent
  c1 : Nat
  m2 : Nat
  es2 : List Ent
  c2 : Nat
  lv : Value
  fuse : Int
  still : Bool
def Dsk.cells (d : Dsk) : Array Value := #[.int .i64 d.room, .map (some d.m1), .int .i64 (used (view d.es1)), .map (some d.m2), .int .i64 (used (view d.es2)), d.lv, .int .i64 d.fuse, .bool d.still]
structure DskAt (w : World) (S : Nat → Prop) (p : Nat) (d : Dsk) : Prop where
  blk : At w S p (.cells d.cells 49 (0, 0))
  now : At w S d.m1 (obj d.es1 d.c1)
  sure : At w S d.m2 (obj d.es2 d.c2)
  ne : d.m1 ≠ d.m2
  wf1 : Wf d.es1 d.c1
  wf2 : Wf d.es2 d.c2
  texts : Texts w S (d.es1 ++ d.es2)
def off : Bool → Nat | true => 1 | false => 3
def Dsk.es (d : Dsk) : Bool → List Ent | true => d.es1 | false => d.es2
def Dsk.m (d : Dsk) : Bool → Nat | true => d.m1 | false => d.m2
def Dsk.c (d : Dsk) : Bool → Nat | true => d.c1 | false => d.c2
def Dsk.put (d : Dsk) (es : List Ent) (c : Nat) : Bool → Dsk
  | true => { d with es1 := es, c1 := c }
  | false => { d with es2 := es, c2 := c }
theorem cells_off (d : Dsk) (b : Bool) : d.cells[off b]? = some (.map (some (d.m b))) := by cases b <;> rfl
theorem cells_used (d : Dsk) (b : Bool) : d.cells[off b + 1]? = some (.int .i64 (used (view (d.es b)))) := by cases b <;> rfl
theorem cells_put (d : Dsk) (b : Bool) (es : List Ent) (c : Nat) : d.cells.setIfInBounds (off b + 1) (.int .i64 (used (view es))) = (d.put es c b).cells := by cases b <;> rfl
theorem DskAt.map {w : World} {S : Nat → Prop} {p : Nat} {d : Dsk} (h : DskAt w S p d) (b : Bool) : At w S (d.m b) (obj (d.es b) (d.c b)) := by cases b; exact h.sure; exact h.now
theorem DskAt.wf {w : World} {S : Nat → Prop} {p : Nat} {d : Dsk} (h : DskAt w S p d) (b : Bool) : Wf (d.es b) (d.c b) := by cases b; exact h.wf2; exact h.wf1
theorem DskAt.tx {w : World} {S : Nat → Prop} {p : Nat} {d : Dsk} (h : DskAt w S p d) (b : Bool) : Texts w S (d.es b ++ d.es (!b)) := by
  cases b
  · exact h.texts.perm List.perm_append_comm
  · exact h.texts
/-- What is no row of bytes and no disk: it is left alone by all calls on files. -/
def isPlain (o : Obj) : Prop := ∃ cs T fr, o = .cells cs T fr ∧ T ≠ 5 ∧ T ≠ 49
structure Ran (S : Nat → Prop) (w w' : World) (p : Nat) (d' : Dsk) : Prop where
  tread : Tread S w w'
  at_ : DskAt w' (grow S w w') p d'
  plain : ∀ (b : Nat) (o : Obj), isPlain o → w.heap[b]? = some o → w'.heap[b]? = some o
theorem grow_size {S : Nat → Prop} {w w1 w2 : World} (h : w2.heap.size = w1.heap.size) : grow S w w2 = grow S w w1 := by funext b; simp [grow, h]
theorem mkRan {S : Nat → Prop} {w w1 w' : World} {p : Nat} {d : Dsk} (b : Bool) (h : DskAt w S p d) (ht : Tread S w w1) (hpl : ∀ x o, ¬ isText o → x ≠ p → w.heap[x]? = some o → w1.heap[x]? = some o)
    (es' : List Ent) (c' : Nat) (htx : Texts w1 (grow S w w1) (es' ++ d.es (!b))) (hwf : Wf es' c')
    (hp1 : ∃ cs, w1.heap[p]? = some (.cells cs 49 (0, 0)))
    (hp' : w'.heap[p]? = some (.cells (d.put es' c' b).cells 49 (0, 0))) (hm' : w'.heap[d.m b]? = some (obj es' c'))
    (ho : ∀ x, x ≠ p → x ≠ d.m b → w'.heap[x]? = w1.heap[x]?) (hs : w'.heap.size = w1.heap.size) (hos : w'.os = w1.os ∧ w'.tape = w1.tape ∧ w'.output = w1.output) :
    Ran S w w' p (d.put es' c' b) := by
  have hmb := h.map b
  have hmp : d.m b ≠ p := fun e => by have := hmb.2; rw [e, h.blk.2] at this; cases this
  have hm1 : w1.heap[d.m b]? = some (obj (d.es b) (d.c b)) := hpl _ _ (fun ⟨_, _, hx⟩ => by cases hx) hmp hmb.2
  have ht' : Tread S w w' := ⟨hos.1.trans ht.os, hos.2.1.trans ht.tape, hos.2.2.trans ht.output, by rw [hs]; exact ht.size, fun x hx hn => by
    rw [ho x (fun e => hn (e ▸ h.blk.1)) (fun e => hn (e ▸ hmb.1))]; exact ht.block x hx hn⟩
  have hg : grow S w w' = grow S w w1 := grow_size hs
  have htx' : Texts w' (grow S w w') (es' ++ d.es (!b)) := by
    rw [hg]
    refine htx.keep fun x o hxt ha => ⟨ha.1, ?_⟩
    rw [ho x ?_ ?_]
    · exact ha.2
    · rintro rfl
      obtain ⟨cs, hcs⟩ := hp1
      obtain ⟨cs', fr, rfl⟩ := hxt
      have := ha.2
      rw [hcs] at this
      cases this
    · rintro rfl
      obtain ⟨cs', fr, rfl⟩ := hxt
      have := ha.2
      rw [hm1] at this
      cases this
  have hother : At w' (grow S w w') (d.m (!b)) (obj (d.es (!b)) (d.c (!b))) := by
    have hmo := h.map (!b)
    have hmop : d.m (!b) ≠ p := fun e => by have := hmo.2; rw [e, h.blk.2] at this; cases this
    refine ⟨.inl hmo.1, ?_⟩
    rw [ho _ hmop (by cases b; exact h.ne; exact Ne.symm h.ne)]
    exact hpl _ _ (fun ⟨_, _, hx⟩ => by cases hx) hmop hmo.2
  refine ⟨ht', ?_, ?_⟩
  · cases b
    · exact ⟨⟨.inl h.blk.1, hp'⟩, hother, ⟨.inl hmb.1, hm'⟩, h.ne, h.wf1, hwf, htx'.perm List.perm_append_comm⟩
    · exact ⟨⟨.inl h.blk.1, hp'⟩, ⟨.inl hmb.1, hm'⟩, hother, h.ne, hwf, h.wf2, htx'⟩
  · rintro x o ⟨cs, T, fr, rfl, hT1, hT2⟩ hx
    rw [ho x ?_ ?_]
    · refine hpl _ _ (fun ⟨_, _, hy⟩ => by cases hy; exact hT1 rfl) ?_ hx
      rintro rfl
      rw [h.blk.2] at hx; cases hx; exact hT2 rfl
    · rintro rfl
      rw [h.blk.2] at hx; cases hx; exact hT2 rfl
    · rintro rfl
      rw [hmb.2] at hx; cases hx
end Go.Proofs.Ytbjemekkpmbhhaa.Dk
