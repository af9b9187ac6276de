/- What a map whose keys are strings holds, entry by entry, and what its operations do to it. -/
import Derived.MapKept
import Derived.Maps.RangeRun
import Derived.Deep.OwnRows
namespace Go.Proofs.Ytbjemekkpmbhhaa.Mp
open Go
open Go.ChangeMaps (setBlock)
structure Ent where
  key : ByteArray
  val : Value
  text : List UInt8
  born : Nat
def Ent.entry (e : Ent) : MapEntry := ⟨.string e.key, e.val, e.born⟩
def obj (es : List Ent) (clock : Nat) : Obj := .map (es.map Ent.entry).toArray clock
def find : List Ent → ByteArray → Option Ent
  | [], _ => none
  | e :: es, k => if e.key = k then some e else find es k
def idx : List Ent → ByteArray → Nat
  | [], _ => 0
  | e :: es, k => if e.key = k then 0 else idx es k + 1
def put : List Ent → ByteArray → Value → List UInt8 → Nat → List Ent
  | [], k, v, t, c => [⟨k, v, t, c⟩]
  | e :: es, k, v, t, c => if e.key = k then ⟨k, v, t, e.born⟩ :: es else e :: put es k v t c
def del : List Ent → ByteArray → List Ent
  | [], _ => []
  | e :: es, k => if e.key = k then es else e :: del es k
def clockOf (es : List Ent) (k : ByteArray) (c : Nat) : Nat := if (find es k).isSome then c else c + 1
variable {P : Program}
theorem beq_ba (a b : ByteArray) : (a == b) = decide (a = b) := by
  by_cases h : a = b
  · simp only [h, decide_true]; exact (MapKept.bytes_beq b b).2 rfl
  · rcases hb : (a == b) with _ | _
    · simp [h]
    · exact absurd ((MapKept.bytes_beq a b).1 hb) h
theorem findNow_eq (k : ByteArray) : ∀ (es : List Ent) (i : Nat), Instr.findNow .string (.string k) (es.map Ent.entry) i = some ((find es k).map fun e => (i + idx es k, e.val))
  | [], i => rfl
  | e :: es, i => by
    by_cases h : e.key = k
    · simp [Instr.findNow, Instr.sameNow, Ent.entry, find, idx, h, beq_ba]
    · have h' : ¬ k = e.key := fun x => h x.symm
      simp [Instr.findNow, Instr.sameNow, Ent.entry, find, idx, h, h', findNow_eq k es (i + 1), beq_ba]
      rcases find es k with _ | _
      · rfl
      · simp; omega
theorem put_hit (k : ByteArray) (v : Value) (t : List UInt8) (c : Nat) : ∀ (es : List Ent), (find es k).isSome = true →
    (put es k v t c).map Ent.entry = (es.map Ent.entry).modify (idx es k) (fun e => { e with key := .string k, val := v })
  | [], h => by simp [find] at h
  | e :: es, h => by
    by_cases hk : e.key = k
    · simp [put, idx, hk, Ent.entry]
    · simp only [find, hk, if_false] at h
      simp [put, idx, hk, put_hit k v t c es h]
theorem put_miss (k : ByteArray) (v : Value) (t : List UInt8) (c : Nat) : ∀ (es : List Ent), find es k = none →
    put es k v t c = es ++ [⟨k, v, t, c⟩]
  | [], h => rfl
  | e :: es, h => by
    by_cases hk : e.key = k
    · simp [find, hk] at h
    · simp only [find, hk, if_false] at h
      simp [put, hk, put_miss k v t c es h]
theorem del_hit (k : ByteArray) : ∀ (es : List Ent), (find es k).isSome = true →
    (del es k).map Ent.entry = (es.map Ent.entry).eraseIdx (idx es k)
  | [], h => by simp [find] at h
  | e :: es, h => by
    by_cases hk : e.key = k
    · simp [del, idx, hk]
    · simp only [find, hk, if_false] at h
      simp [del, idx, hk, del_hit k es h]
theorem del_miss (k : ByteArray) : ∀ (es : List Ent), find es k = none → del es k = es
  | [], _ => rfl
  | e :: es, h => by
    by_cases hk : e.key = k
    · simp [find, hk] at h
    · simp only [find, hk, if_false] at h
      simp [del, hk, del_miss k es h]
theorem idx_lt (k : ByteArray) : ∀ (es : List Ent), (find es k).isSome = true → idx es k < es.length
  | [], h => by simp [find] at h
  | e :: es, h => by
    by_cases hk : e.key = k
    · simp [idx, hk]
    · simp only [find, hk, if_false] at h
      have := idx_lt k es h
      simp [idx, hk, this]
theorem find_key (k : ByteArray) : ∀ (es : List Ent) (e : Ent), find es k = some e → e.key = k ∧ e ∈ es
  | [], _, h => by simp [find] at h
  | x :: es, e, h => by
    by_cases hk : x.key = k
    · simp only [find, hk, if_true, Option.some.injEq] at h; subst h; exact ⟨hk, by simp⟩
    · simp only [find, hk, if_false] at h
      have := find_key k es e h
      exact ⟨this.1, by simp [this.2]⟩
theorem idx_get (k : ByteArray) : ∀ (es : List Ent) (e : Ent), find es k = some e → es[idx es k]? = some e
  | [], _, h => by simp [find] at h
  | x :: es, e, h => by
    by_cases hk : x.key = k
    · simp only [find, hk, if_true, Option.some.injEq] at h; subst h; simp [idx, hk]
    · simp only [find, hk, if_false] at h
      simp [idx, hk, idx_get k es e h]
def IsStr (P : Program) (t e k : TypeId) : Prop := P.underlying t = some (.map k e) ∧ P.underlying k = some .string
theorem run_find (w : World) (k : TypeId) (hk : P.underlying k = some .string) (es : List Ent) (s : ByteArray) :
    (Instr.findKey k (.string s) (es.map Ent.entry)).run P w = .ok ((find es s).map fun e => (idx es s, e.val)) w := by
  refine MapKept.run_findKey hk ?_
  simpa using findNow_eq s es 0
theorem run_lookup (w : World) (t k e : TypeId) (h : IsStr P t e k) (z : Value) (hz : ∀ w, (zeroValue e).run P w = .ok z w) (m : Nat) (es : List Ent) (c : Nat) (hm : w.heap[m]? = some (obj es c)) (s : ByteArray) :
    (Instr.lookup t (.map (some m)) (.string s) false).run P w = .ok (((find es s).map Ent.val).getD z) w := by
  unfold obj at hm
  simp only [Instr.lookup, Sem.run_bind, run_underlying h.1, Result.andThen, MapKept.run_getObj_map hm, MapKept.run_checkKey h.2 (d := .string) (k := .string s) (by trivial),]
  rcases hf : find es s with _ | x
  · simp [hz, run_find w k h.2, hf]
    try rfl
  · simp [run_find w k h.2, hf]
    try rfl
theorem run_lookup_ok (w : World) (t k e : TypeId) (h : IsStr P t e k) (z : Value) (hz : ∀ w, (zeroValue e).run P w = .ok z w) (m : Nat) (es : List Ent) (c : Nat) (hm : w.heap[m]? = some (obj es c)) (s : ByteArray) :
    (Instr.lookup t (.map (some m)) (.string s) true).run P w = .ok (.tuple #[((find es s).map Ent.val).getD z, .bool (find es s).isSome]) w := by
  unfold obj at hm
  simp only [Instr.lookup, Sem.run_bind, run_underlying h.1, Result.andThen, MapKept.run_getObj_map hm, MapKept.run_checkKey h.2 (d := .string) (k := .string s) (by trivial),]
  rcases hf : find es s with _ | x
  · simp [hz, run_find w k h.2, hf]
    try rfl
  · simp [run_find w k h.2, hf]
    try rfl
theorem run_stays (w : World) (a b : ByteArray) (h : a = b) : (Instr.keyThatStays (.string a) (.string b)).run P w = .ok (.string b) w := by
  subst h
  simp [Instr.keyThatStays, Instr.sameBits, beq_ba]
theorem run_update (w : World) (t k e : TypeId) (h : IsStr P t e k) (m : Nat) (es : List Ent) (c : Nat) (hm : w.heap[m]? = some (obj es c)) (s : ByteArray) (v : Value) (tx : List UInt8) :
    (Instr.mapUpdate t (.map (some m)) (.string s) v).run P w = .ok () (setBlock w m (obj (put es s v tx c) (clockOf es s c))) := by
  have hm' := hm
  unfold obj at hm
  simp only [Instr.mapUpdate, Sem.run_bind, run_underlying h.1, Result.andThen, MapKept.run_getObj_map hm, MapKept.run_checkKey h.2 (d := .string) (k := .string s) (by trivial),]
  rcases hf : find es s with _ | x
  · simp [run_find w k h.2, hf, MapKept.run_setObj_map _ hm]
    simp [obj, put_miss s v tx c es hf, clockOf, hf, setBlock, Ent.entry]
  · obtain ⟨hk, hmem⟩ := find_key s es x hf
    have hi := idx_get s es x hf
    have hx : ((Option.map ((fun x => x.key) ∘ Ent.entry) es[idx es s]?).getD (.string s)) = .string x.key := by
      simp [hi, Ent.entry]
    simp [run_find w k h.2, hf, MapKept.run_setObj_map _ hm]
    rw [hx, run_stays w x.key s hk]
    simp [MapKept.run_setObj_map _ hm]
    simp [obj, put_hit s v tx c es (by simp [hf]), clockOf, hf, setBlock]
theorem run_delete (w : World) (t k e : TypeId) (h : IsStr P t e k) (ty : TypeId) (ats : Array TypeId) (hat : ats[0]? = some t) (m : Nat) (es : List Ent) (c : Nat) (hm : w.heap[m]? = some (obj es c)) (s : ByteArray) :
    (Builtin.delete_ ats ty #[.map (some m), .string s]).run P w = .ok (.tuple #[]) (setBlock w m (obj (del es s) c)) := by
  have hm' := hm
  unfold obj at hm
  simp only [Builtin.delete_, hat, List.getElem?_toArray, List.getElem?_cons_zero, List.getElem?_cons_succ, Sem.run_bind, run_underlying h.1, Result.andThen, MapKept.run_getObj_map hm, MapKept.run_checkKey h.2 (d := .string) (k := .string s) (by trivial),]
  rcases hf : find es s with _ | x
  · simp [run_find w k h.2, hf, MapKept.run_setObj_map _ hm]
    simp [obj, del_miss s es hf, setBlock]
  · have hl := idx_lt s es (by simp [hf])
    simp [run_find w k h.2, hf, MapKept.run_setObj_map _ hm]
    simp [obj, del_hit s es (by simp [hf]), setBlock, Array.eraseIdxIfInBounds, hl]
end Go.Proofs.Ytbjemekkpmbhhaa.Mp
