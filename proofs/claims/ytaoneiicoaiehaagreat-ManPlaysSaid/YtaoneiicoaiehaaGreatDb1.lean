/- What a map whose keys are strings holds, entry by entry, and what its operations do to it. Files as a list of names and bytes, and what the calls that change do to them. The heap of a disk: which blocks are its own, rows of bytes that may share a block, and what an append to one of them leaves of the others. The contract of disk's files.extend, for files in whatever struct. The contract of bytes.Clone for a row of bytes: a row of the same bytes, that shares no block with another. The contracts of disk's files.cut, files.drop and files.move, for files in whatever struct. A disk as it lies in memory, and the calls on its files: what each leaves. The four calls on files, done to a disk's files as they are now, or to those that are sure. The closures that keep a call that changes: what each does to a disk's files. The contracts of disk.byteMayBe and disk.nameMayBe: which names may be. The contracts of disk's ready, burn and mend. The loose calls as they lie, and the contract of disk's change. A call is laid behind the loose ones. The contract of disk's change, where the call is done. The contract of disk's settle. The contracts of maps.Clone, slices.Clip and disk's files.clone. The contract of disk's files.clone. A disk's state, and what each call of it answers and leaves: the plain side. -/
import Derived.MapKept
import Derived.Maps.RangeRun
import Derived.Deep.OwnRows
import Derived.Test.YtaoneiicoaiehaaGreatProg
import Derived.WalkKit
import Derived.Lib.Hide
import Derived.Lib.AppendStr
import Derived.Laws.Tables
import Derived.RegionTactic
import Derived.Deep.RegionLaw
import Derived.ChangeAlike
import Derived.Laws.AppendOwn
import Derived.WalkSpells
import Derived.Deep.RegionWith
import Derived.StillTailTactics
import Derived.Laws.Append
import Derived.Laws.EntriesVeiled
import Derived.Laws.NewBlocks
import Derived.Laws.Externs
import Derived.Shelf.SlMaps.Clone
import Derived.OwnWalk
namespace Go.Proofs.YtaoneiicoaiehaaGreat.Mp
set_option maxRecDepth 100000
open Go
open Go.ChangeMaps (setBlock)
structure Ent where
  key : ByteArray
  val : Value
  text : List UInt8
  born : Nat
def Ent.entry (e : Ent) : MapEntry := ⟨.string e.key, e.val, e.born⟩
def obj (es : List Ent) (clock : Nat) : Obj := .map (es.map Ent.entry).toArray clock
def find : List Ent → ByteArray → Option Ent
  | [], _ => none
  | e :: es, k => if e.key = k then some e else find es k
def idx : List Ent → ByteArray → Nat
  | [], _ => 0
  | e :: es, k => if e.key = k then 0 else idx es k + 1
def put : List Ent → ByteArray → Value → List UInt8 → Nat → List Ent
  | [], k, v, t, c => [⟨k, v, t, c⟩]
  | e :: es, k, v, t, c => if e.key = k then ⟨k, v, t, e.born⟩ :: es else e :: put es k v t c
def del : List Ent → ByteArray → List Ent
  | [], _ => []
  | e :: es, k => if e.key = k then es else e :: del es k
def clockOf (es : List Ent) (k : ByteArray) (c : Nat) : Nat := if (find es k).isSome then c else c + 1
variable {P : Program}
theorem beq_ba (a b : ByteArray) : (a == b) = decide (a = b) := by
  by_cases h : a = b
  · simp only [h, decide_true]; exact (MapKept.bytes_beq b b).2 rfl
  · rcases hb : (a == b) with _ | _
    · simp [h]
    · exact absurd ((MapKept.bytes_beq a b).1 hb) h
theorem findNow_eq (k : ByteArray) : ∀ (es : List Ent) (i : Nat), Instr.findNow .string (.string k) (es.map Ent.entry) i = some ((find es k).map fun e => (i + idx es k, e.val))
  | [], i => rfl
  | e :: es, i => by
    by_cases h : e.key = k
    · simp [Instr.findNow, Instr.sameNow, Ent.entry, find, idx, h, beq_ba]
    · have h' : ¬ k = e.key := fun x => h x.symm
      simp [Instr.findNow, Instr.sameNow, Ent.entry, find, idx, h, h', findNow_eq k es (i + 1), beq_ba]
      rcases find es k with _ | _
      · rfl
      · simp; omega
theorem put_hit (k : ByteArray) (v : Value) (t : List UInt8) (c : Nat) : ∀ (es : List Ent), (find es k).isSome = true →
    (put es k v t c).map Ent.entry = (es.map Ent.entry).modify (idx es k) (fun e => { e with key := .string k, val := v })
  | [], h => by simp [find] at h
  | e :: es, h => by
    by_cases hk : e.key = k
    · simp [put, idx, hk, Ent.entry]
    · simp only [find, hk, if_false] at h
      simp [put, idx, hk, put_hit k v t c es h]
theorem put_miss (k : ByteArray) (v : Value) (t : List UInt8) (c : Nat) : ∀ (es : List Ent), find es k = none →
    put es k v t c = es ++ [⟨k, v, t, c⟩]
  | [], h => rfl
  | e :: es, h => by
    by_cases hk : e.key = k
    · simp [find, hk] at h
    · simp only [find, hk, if_false] at h
      simp [put, hk, put_miss k v t c es h]
theorem del_hit (k : ByteArray) : ∀ (es : List Ent), (find es k).isSome = true →
    (del es k).map Ent.entry = (es.map Ent.entry).eraseIdx (idx es k)
  | [], h => by simp [find] at h
  | e :: es, h => by
    by_cases hk : e.key = k
    · simp [del, idx, hk]
    · simp only [find, hk, if_false] at h
      simp [del, idx, hk, del_hit k es h]
theorem del_miss (k : ByteArray) : ∀ (es : List Ent), find es k = none → del es k = es
  | [], _ => rfl
  | e :: es, h => by
    by_cases hk : e.key = k
    · simp [find, hk] at h
    · simp only [find, hk, if_false] at h
      simp [del, hk, del_miss k es h]
theorem idx_lt (k : ByteArray) : ∀ (es : List Ent), (find es k).isSome = true → idx es k < es.length
  | [], h => by simp [find] at h
  | e :: es, h => by
    by_cases hk : e.key = k
    · simp [idx, hk]
    · simp only [find, hk, if_false] at h
      have := idx_lt k es h
      simp [idx, hk, this]
theorem find_key (k : ByteArray) : ∀ (es : List Ent) (e : Ent), find es k = some e → e.key = k ∧ e ∈ es
  | [], _, h => by simp [find] at h
  | x :: es, e, h => by
    by_cases hk : x.key = k
    · simp only [find, hk, if_true, Option.some.injEq] at h; subst h; exact ⟨hk, by simp⟩
    · simp only [find, hk, if_false] at h
      have := find_key k es e h
      exact ⟨this.1, by simp [this.2]⟩
theorem idx_get (k : ByteArray) : ∀ (es : List Ent) (e : Ent), find es k = some e → es[idx es k]? = some e
  | [], _, h => by simp [find] at h
  | x :: es, e, h => by
    by_cases hk : x.key = k
    · simp only [find, hk, if_true, Option.some.injEq] at h; subst h; simp [idx, hk]
    · simp only [find, hk, if_false] at h
      simp [idx, hk, idx_get k es e h]
def IsStr (P : Program) (t e k : TypeId) : Prop := P.underlying t = some (.map k e) ∧ P.underlying k = some .string
theorem run_find (w : World) (k : TypeId) (hk : P.underlying k = some .string) (es : List Ent) (s : ByteArray) :
    (Instr.findKey k (.string s) (es.map Ent.entry)).run P w = .ok ((find es s).map fun e => (idx es s, e.val)) w := by
  refine MapKept.run_findKey hk ?_
  simpa using findNow_eq s es 0
theorem run_lookup (w : World) (t k e : TypeId) (h : IsStr P t e k) (z : Value) (hz : ∀ w, (zeroValue e).run P w = .ok z w) (m : Nat) (es : List Ent) (c : Nat) (hm : w.heap[m]? = some (obj es c)) (s : ByteArray) :
    (Instr.lookup t (.map (some m)) (.string s) false).run P w = .ok (((find es s).map Ent.val).getD z) w := by
  unfold obj at hm
  simp only [Instr.lookup, Sem.run_bind, run_underlying h.1, Result.andThen, MapKept.run_getObj_map hm, MapKept.run_checkKey h.2 (d := .string) (k := .string s) (by trivial),]
  rcases hf : find es s with _ | x
  · simp [hz, run_find w k h.2, hf]
    try rfl
  · simp [run_find w k h.2, hf]
    try rfl
theorem run_lookup_ok (w : World) (t k e : TypeId) (h : IsStr P t e k) (z : Value) (hz : ∀ w, (zeroValue e).run P w = .ok z w) (m : Nat) (es : List Ent) (c : Nat) (hm : w.heap[m]? = some (obj es c)) (s : ByteArray) :
    (Instr.lookup t (.map (some m)) (.string s) true).run P w = .ok (.tuple #[((find es s).map Ent.val).getD z, .bool (find es s).isSome]) w := by
  unfold obj at hm
  simp only [Instr.lookup, Sem.run_bind, run_underlying h.1, Result.andThen, MapKept.run_getObj_map hm, MapKept.run_checkKey h.2 (d := .string) (k := .string s) (by trivial),]
  rcases hf : find es s with _ | x
  · simp [hz, run_find w k h.2, hf]
    try rfl
  · simp [run_find w k h.2, hf]
    try rfl
theorem run_stays (w : World) (a b : ByteArray) (h : a = b) : (Instr.keyThatStays (.string a) (.string b)).run P w = .ok (.string b) w := by
  subst h
  simp [Instr.keyThatStays, Instr.sameBits, beq_ba]
theorem run_update (w : World) (t k e : TypeId) (h : IsStr P t e k) (m : Nat) (es : List Ent) (c : Nat) (hm : w.heap[m]? = some (obj es c)) (s : ByteArray) (v : Value) (tx : List UInt8) :
    (Instr.mapUpdate t (.map (some m)) (.string s) v).run P w = .ok () (setBlock w m (obj (put es s v tx c) (clockOf es s c))) := by
  have hm' := hm
  unfold obj at hm
  simp only [Instr.mapUpdate, Sem.run_bind, run_underlying h.1, Result.andThen, MapKept.run_getObj_map hm, MapKept.run_checkKey h.2 (d := .string) (k := .string s) (by trivial),]
  rcases hf : find es s with _ | x
  · simp [run_find w k h.2, hf, MapKept.run_setObj_map _ hm]
    simp [obj, put_miss s v tx c es hf, clockOf, hf, setBlock, Ent.entry]
  · obtain ⟨hk, hmem⟩ := find_key s es x hf
    have hi := idx_get s es x hf
    have hx : ((Option.map ((fun x => x.key) ∘ Ent.entry) es[idx es s]?).getD (.string s)) = .string x.key := by
      simp [hi, Ent.entry]
    simp [run_find w k h.2, hf]
    rw [hx, run_stays w x.key s hk]
    simp [MapKept.run_setObj_map _ hm]
    simp [obj, put_hit s v tx c es (by simp [hf]), clockOf, hf, setBlock]
theorem run_delete (w : World) (t k e : TypeId) (h : IsStr P t e k) (ty : TypeId) (ats : Array TypeId) (hat : ats[0]? = some t) (m : Nat) (es : List Ent) (c : Nat) (hm : w.heap[m]? = some (obj es c)) (s : ByteArray) :
    (Builtin.delete_ ats ty #[.map (some m), .string s]).run P w = .ok (.tuple #[]) (setBlock w m (obj (del es s) c)) := by
  have hm' := hm
  unfold obj at hm
  simp only [Builtin.delete_, hat, List.getElem?_toArray, List.getElem?_cons_zero, List.getElem?_cons_succ, Sem.run_bind, run_underlying h.1, Result.andThen, MapKept.run_getObj_map hm, MapKept.run_checkKey h.2 (d := .string) (k := .string s) (by trivial),]
  rcases hf : find es s with _ | x
  · simp [run_find w k h.2, hf, MapKept.run_setObj_map _ hm]
    simp [obj, del_miss s es hf, setBlock]
  · have hl := idx_lt s es (by simp [hf])
    simp [run_find w k h.2, hf, MapKept.run_setObj_map _ hm]
    simp [obj, del_hit s es (by simp [hf]), setBlock]
end Go.Proofs.YtaoneiicoaiehaaGreat.Mp
namespace Go.Proofs.YtaoneiicoaiehaaGreat.Fm
set_option maxRecDepth 100000
open Go Go.Proofs.YtaoneiicoaiehaaGreat.Mp
abbrev Fs := List (ByteArray × List UInt8)
def get : Fs → ByteArray → Option (List UInt8)
  | [], _ => none
  | e :: es, k => if e.1 = k then some e.2 else get es k
def txt (fs : Fs) (k : ByteArray) : List UInt8 := (get fs k).getD []
def put : Fs → ByteArray → List UInt8 → Fs
  | [], k, t => [(k, t)]
  | e :: es, k, t => if e.1 = k then (k, t) :: es else e :: put es k t
def del : Fs → ByteArray → Fs
  | [], _ => []
  | e :: es, k => if e.1 = k then es else e :: del es k
def used : Fs → Nat
  | [] => 0
  | e :: es => e.2.length + used es
def view (es : List Ent) : Fs := es.map fun e => (e.key, e.text)
theorem get_view (k : ByteArray) : ∀ es : List Ent, get (view es) k = (find es k).map Ent.text
  | [] => rfl
  | e :: es => by
    have ih := get_view k es
    unfold view at ih ⊢
    by_cases h : e.key = k <;> simp [get, find, h, ih]
theorem view_put (k : ByteArray) (v : Value) (t : List UInt8) (c : Nat) : ∀ es : List Ent, view (Mp.put es k v t c) = put (view es) k t
  | [] => rfl
  | e :: es => by
    have ih := view_put k v t c es
    unfold view at ih ⊢
    by_cases h : e.key = k <;> simp [put, Mp.put, h, ih]
theorem view_del (k : ByteArray) : ∀ es : List Ent, view (Mp.del es k) = del (view es) k
  | [] => rfl
  | e :: es => by
    have ih := view_del k es
    unfold view at ih ⊢
    by_cases h : e.key = k <;> simp [del, Mp.del, h, ih]
theorem used_put (k : ByteArray) (t : List UInt8) : ∀ fs : Fs, used (put fs k t) + (txt fs k).length = used fs + t.length
  | [] => by simp [put, used, txt, get]
  | e :: es => by
    have ih := used_put k t es
    unfold txt at ih ⊢
    by_cases h : e.1 = k
    · simp [put, used, get, h]; omega
    · simp only [put, used, get, h, if_false]; omega
theorem used_del (k : ByteArray) : ∀ fs : Fs, used (del fs k) + (txt fs k).length = used fs
  | [] => by simp [del, used, txt, get]
  | e :: es => by
    have ih := used_del k es
    unfold txt at ih ⊢
    by_cases h : e.1 = k
    · simp [del, used, get, h]; omega
    · simp only [del, used, get, h, if_false]; omega
theorem get_put_ne (j k : ByteArray) (t : List UInt8) (hne : j ≠ k) : ∀ fs : Fs, get (put fs k t) j = get fs j
  | [] => by simp [put, get, Ne.symm hne]
  | e :: es => by
    have ih := get_put_ne j k t hne es
    by_cases h : e.1 = k
    · by_cases h' : e.1 = j
      · exact absurd (h'.symm.trans h) hne
      · simp [put, get, h, Ne.symm hne]
    · by_cases h' : e.1 = j
      · rw [put, if_neg h]; simp only [get, h', if_true]
      · simp only [put, get, h, h', if_false, ih]
theorem get_put_eq (k : ByteArray) (t : List UInt8) : ∀ fs : Fs, get (put fs k t) k = some t
  | [] => by simp [put, get]
  | e :: es => by
    by_cases h : e.1 = k
    · simp [put, get, h]
    · simp only [put, get, h, if_false, get_put_eq k t es]
theorem txt_le (k : ByteArray) (fs : Fs) : (txt fs k).length ≤ used fs := by have := used_del k fs; omega
inductive Cmd where
  | app (k s : ByteArray)
  | cut (k : ByteArray) (n : Nat)
  | mov (j k : ByteArray)
  | rem (k : ByteArray)
def Cmd.run (fs : Fs) : Cmd → Fs
  | .app k s => put fs k (txt fs k ++ s.data.toList)
  | .cut k n => put fs k ((txt fs k).take n)
  | .mov j k => del (put fs k (txt fs j)) j
  | .rem k => del fs k
/-- A call that is done where it may be. -/
def Cmd.ok (fs : Fs) : Cmd → Prop
  | .app _ s => used fs + s.size ≤ 16777216
  | .cut k n => n ≤ (txt fs k).length
  | .mov j k => j ≠ k ∧ (get fs j).isSome = true
  | .rem _ => True
theorem used_mov (j k : ByteArray) (fs : Fs) (h : j ≠ k) : used (del (put fs k (txt fs j)) j) + (txt fs k).length = used fs := by
  have h1 := used_put k (txt fs j) fs
  have h2 := used_del j (put fs k (txt fs j))
  have h3 : txt (put fs k (txt fs j)) j = txt fs j := by
    show ((get (put fs k (txt fs j)) j)).getD [] = _
    rw [get_put_ne j k _ h]; rfl
  rw [h3] at h2
  omega
theorem run_used (fs : Fs) (c : Cmd) (h : c.ok fs) (hu : used fs ≤ 16777216) : used (c.run fs) ≤ 16777216 := by
  cases c with
  | app k s => have := used_put k (txt fs k ++ s.data.toList) fs; simp [Cmd.run, Cmd.ok] at *; omega
  | cut k n => have := used_put k ((txt fs k).take n) fs; simp [Cmd.run, Cmd.ok] at *; omega
  | mov j k => have := used_mov j k fs h.1; simp only [Cmd.run]; omega
  | rem k => have := used_del k fs; simp only [Cmd.run]; omega
/-- Calls that are done one behind the other. -/
def runs (fs : Fs) (l : List Cmd) : Fs := l.foldl Cmd.run fs
def oks : Fs → List Cmd → Prop
  | _, [] => True
  | fs, c :: l => c.ok fs ∧ oks (c.run fs) l
theorem runs_snoc (fs : Fs) (l : List Cmd) (c : Cmd) : runs fs (l ++ [c]) = c.run (runs fs l) := by simp [runs]
theorem oks_snoc (c : Cmd) : ∀ (l : List Cmd) (fs : Fs), oks fs l → c.ok (runs fs l) → oks fs (l ++ [c])
  | [], _, _, h => ⟨h, trivial⟩
  | _ :: l, _, h, hc => ⟨h.1, oks_snoc c l _ h.2 hc⟩
theorem oks_take : ∀ (n : Nat) (l : List Cmd) (fs : Fs), oks fs l → oks fs (l.take n)
  | 0, _, _, _ => trivial
  | _ + 1, [], _, _ => trivial
  | n + 1, _ :: l, _, h => ⟨h.1, oks_take n l _ h.2⟩
theorem oks_at : ∀ (l : List Cmd) (fs : Fs) (n : Nat) (c : Cmd), oks fs l → l[n]? = some c → c.ok (runs fs (l.take n))
  | [], _, _, _, _, h => by simp at h
  | x :: l, fs, 0, c, ho, h => by simp at h; subst h; exact ho.1
  | x :: l, fs, n + 1, c, ho, h => oks_at l _ n c ho.2 (by simpa using h)
theorem runs_used : ∀ (l : List Cmd) (fs : Fs), oks fs l → used fs ≤ 16777216 → used (runs fs l) ≤ 16777216
  | [], _, _, h => h
  | c :: l, fs, ho, h => runs_used l _ ho.2 (run_used fs c ho.1 h)
-- entries
theorem put_split (k : ByteArray) (v : Value) (t : List UInt8) (c : Nat) : ∀ (es : List Ent) (e : Ent), find es k = some e →
    ∃ pre post, es = pre ++ e :: post ∧ Mp.put es k v t c = pre ++ ⟨k, v, t, e.born⟩ :: post ∧ Mp.del es k = pre ++ post
  | [], _, h => by simp [find] at h
  | x :: es, e, h => by
    by_cases hk : x.key = k
    · simp only [find, hk, if_true, Option.some.injEq] at h
      subst h
      exact ⟨[], es, rfl, by simp [Mp.put, hk], by simp [Mp.del, hk]⟩
    · simp only [find, hk, if_false] at h
      obtain ⟨pre, post, h1, h2, h3⟩ := put_split k v t c es e h
      exact ⟨x :: pre, post, by rw [h1]; rfl, by simp only [Mp.put, hk, if_false, h2]; rfl, by simp only [Mp.del, hk, if_false, h3]; rfl⟩
theorem find_none (k : ByteArray) : ∀ (es : List Ent), find es k = none ↔ k ∉ es.map Ent.key
  | [] => by simp [find]
  | x :: es => by
    have ih := find_none k es
    by_cases hk : x.key = k
    · simp [find, hk]
    · simp only [find, hk, if_false, ih, List.map_cons, List.mem_cons, not_or]
      exact ⟨fun h => ⟨Ne.symm hk, h⟩, fun h => h.2⟩
end Go.Proofs.YtaoneiicoaiehaaGreat.Fm
namespace Go.Proofs.YtaoneiicoaiehaaGreat.Dh
set_option maxRecDepth 100000
open Go Go.RowKit Go.Lib
open Go.ChangeMaps (setBlock)
theorem undL : Tryz.prog.underlying 97 = some (.slice 5) := by kernel_rfl
theorem undE : Tryz.prog.underlying 5 = some (.int .u8) := by kernel_rfl
theorem undS : Tryz.prog.underlying 9 = some .string := by kernel_rfl
theorem infoE : (Tryz.prog.info? 5).map (fun i => (i.zero, i.size, i.bytes)) = some (some (.int .u8 0), 1, 1) := by kernel_rfl
def At (w : World) (S : Nat → Prop) (b : Nat) (o : Obj) : Prop := S b ∧ w.heap[b]? = some o
def Like (w' w : World) : Prop := w'.heap = w.heap ∧ w'.os = w.os ∧ w'.tape = w.tape ∧ w'.output = w.output
/-- The block numbers that are own behind a step. -/
def grow (S : Nat → Prop) (w w' : World) (b : Nat) : Prop := S b ∨ (w.heap.size ≤ b ∧ b < w'.heap.size)
structure Tread (S : Nat → Prop) (w w' : World) : Prop where
  os : w'.os = w.os
  tape : w'.tape = w.tape
  output : w'.output = w.output
  size : w.heap.size ≤ w'.heap.size
  block : ∀ b, b < w.heap.size → ¬ S b → w'.heap[b]? = w.heap[b]?
theorem Tread.refl (S : Nat → Prop) (w : World) : Tread S w w := ⟨rfl, rfl, rfl, Nat.le_refl _, fun _ _ _ => rfl⟩
theorem Tread.trans {S : Nat → Prop} {a b c : World} (h : Tread S a b) (k : Tread (grow S a b) b c) : Tread S a c :=
  ⟨k.os.trans h.os, k.tape.trans h.tape, k.output.trans h.output, Nat.le_trans h.size k.size, fun i hi hn =>
    (k.block i (Nat.lt_of_lt_of_le hi h.size) (fun x => by rcases x with x | x; exact hn x; omega)).trans (h.block i hi hn)⟩
theorem Tread.mono {S S' : Nat → Prop} {a b : World} (h : Tread S a b) (hs : ∀ b, S b → S' b) : Tread S' a b :=
  ⟨h.os, h.tape, h.output, h.size, fun i hi hn => h.block i hi (fun x => hn (hs i x))⟩
theorem Tread.drew {S : Nat → Prop} {a b : World} (h : Tread S a b) : Tread S a b.drew := ⟨h.os, h.tape, h.output, h.size, h.block⟩
theorem Tread.of_drew {S : Nat → Prop} {a b : World} (h : Tread S a.drew b) : Tread S a b := ⟨h.os, h.tape, h.output, h.size, h.block⟩
theorem heap_alloc (w : World) (o : Obj) (k : Nat) (h : k < w.heap.size) : (w.alloc o).heap[k]? = w.heap[k]? := Below.heap_alloc w o k h
theorem heap_new (w : World) (o : Obj) : (w.alloc o).heap[w.heap.size]? = some o := by
  show (w.heap.push o)[w.heap.size]? = _
  simp
theorem size_alloc (w : World) (o : Obj) : (w.alloc o).heap.size = w.heap.size + 1 := by
  show (w.heap.push o).size = _
  simp
theorem Tread.alloc (S : Nat → Prop) (w : World) (o : Obj) : Tread S w (w.alloc o) := ⟨rfl, rfl, rfl, by rw [size_alloc]; omega, fun k hk _ => heap_alloc w o k hk⟩
theorem Tread.setCell {S : Nat → Prop} (w : World) (a : Addr) (v : Value) (h : S a.block) : Tread S w (w.setCell a v) :=
  ⟨rfl, rfl, rfl, by simp [World.setCell], fun k _ hn => Below.heap_setCell w a v k (fun e => hn (e ▸ h))⟩
theorem Tread.setBlock {S : Nat → Prop} (w : World) (b : Nat) (o : Obj) (h : S b) : Tread S w (setBlock w b o) :=
  ⟨rfl, rfl, rfl, by simp [Go.ChangeMaps.setBlock], fun k _ hn => by
    show (w.heap.setIfInBounds b o)[k]? = _
    rw [Array.getElem?_setIfInBounds_ne (fun e : b = k => hn (e ▸ h))]⟩
theorem setBlock_at (w : World) (b : Nat) (o o' : Obj) (h : w.heap[b]? = some o') : (setBlock w b o).heap[b]? = some o := by
  show (w.heap.setIfInBounds b o)[b]? = _
  have hlt : b < w.heap.size := (Array.getElem?_eq_some_iff.1 h).1
  simp [hlt]
theorem setBlock_ne (w : World) (b k : Nat) (o : Obj) (h : k ≠ b) : (setBlock w b o).heap[k]? = w.heap[k]? := by
  show (w.heap.setIfInBounds b o)[k]? = _
  rw [Array.getElem?_setIfInBounds_ne (Ne.symm h)]
theorem setBlock_size (w : World) (b : Nat) (o : Obj) : (setBlock w b o).heap.size = w.heap.size := by simp [Go.ChangeMaps.setBlock]
theorem setCell_size (w : World) (a : Addr) (v : Value) : (w.setCell a v).heap.size = w.heap.size := by simp [World.setCell]
theorem lt_of_at {w : World} {b : Nat} {o : Obj} (h : w.heap[b]? = some o) : b < w.heap.size := (Array.getElem?_eq_some_iff.1 h).1
theorem cell_of {w : World} {b : Nat} {cs : Array Value} {t : TypeId} {fr : Nat × Nat} (h : w.heap[b]? = some (.cells cs t fr)) (i : Nat) : w.cell? ⟨b, i, none⟩ = cs[i]? := by
  simp [World.cell?, h]
theorem free_of {w : World} {b : Nat} {cs : Array Value} {t : TypeId} (h : w.heap[b]? = some (.cells cs t (0, 0))) (i : Nat) : w.frozen? ⟨b, i, none⟩ = false := by
  simp [World.frozen?, h]
theorem setCell_heap {w : World} {b : Nat} {cs : Array Value} {t : TypeId} {fr : Nat × Nat} (h : w.heap[b]? = some (.cells cs t fr)) (i : Nat) (v : Value) :
    (w.setCell ⟨b, i, none⟩ v).heap[b]? = some (.cells (cs.setIfInBounds i v) t fr) := by
  simp [World.setCell, Array.getElem?_modify, h]
/-- A row of bytes. -/
def u8s (t : List UInt8) : List Value := t.map fun b => Value.int .u8 b.toNat
def TextAt (w : World) (S : Nat → Prop) (v : Value) (t : List UInt8) : Prop :=
  (v = .slice none 0 0 ∧ t = []) ∨
  ∃ b cap cs, v = .slice (some ⟨b, 0, none⟩) t.length cap ∧ At w S b (.cells cs 5 (0, 0)) ∧ t.length ≤ cap ∧ cap ≤ cs.size ∧ cap ≤ maxLen ∧ cs.toList.take t.length = u8s t
def isText (o : Obj) : Prop := ∃ cs fr, o = .cells cs 5 fr
/-- Two rows of bytes: what is written behind the end of one is not in the other. -/
def Apart (v v' : Value) : Prop := ∀ b n c n' c', v = .slice (some ⟨b, 0, none⟩) n c → v' = .slice (some ⟨b, 0, none⟩) n' c' →
  (n < c → n' ≤ n ∧ n' = c') ∧ (n' < c' → n ≤ n' ∧ n = c)
theorem Apart.symm {v v' : Value} (h : Apart v v') : Apart v' v := fun b n c n' c' e e' => ⟨(h b n' c' n c e' e).2, (h b n' c' n c e' e).1⟩
theorem Apart.nil (v : Value) : Apart (.slice none 0 0) v := fun b n c n' c' e _ => by cases e
theorem TextAt.len {w : World} {S : Nat → Prop} {v : Value} {t : List UInt8} (h : TextAt w S v t) : ∃ a c, v = .slice a t.length c ∧ t.length ≤ c ∧ c ≤ maxLen := by
  rcases h with ⟨rfl, rfl⟩ | ⟨b, cap, cs, rfl, _, h1, _, h2, _⟩
  · exact ⟨none, 0, rfl, Nat.le_refl _, by simp [maxLen]⟩
  · exact ⟨_, cap, rfl, h1, h2⟩
theorem TextAt.keep {w w' : World} {S S' : Nat → Prop} {v : Value} {t : List UInt8} (h : TextAt w S v t) (hk : ∀ b o, isText o → At w S b o → At w' S' b o) : TextAt w' S' v t := by
  rcases h with h | ⟨b, cap, cs, hv, ha, h1⟩
  · exact .inl h
  · exact .inr ⟨b, cap, cs, hv, hk _ _ ⟨_, _, rfl⟩ ha, h1⟩
theorem At.alloc {w : World} {S : Nat → Prop} {b : Nat} {o : Obj} (h : At w S b o) (x : Obj) : At (w.alloc x) (grow S w (w.alloc x)) b o :=
  ⟨.inl h.1, by rw [heap_alloc w x b (lt_of_at h.2)]; exact h.2⟩
theorem At.up {w : World} {S S' : Nat → Prop} {b : Nat} {o : Obj} (h : At w S b o) (hs : ∀ b, S b → S' b) : At w S' b o := ⟨hs b h.1, h.2⟩
theorem grow_up {S : Nat → Prop} {w w' : World} : ∀ b, S b → grow S w w' b := fun _ h => .inl h
theorem grow_grow {S : Nat → Prop} {w w1 w2 : World} (h1 : w.heap.size ≤ w1.heap.size) (h2 : w1.heap.size ≤ w2.heap.size) : ∀ b, grow (grow S w w1) w1 w2 b → grow S w w2 b := by
  intro b h
  rcases h with (h | h) | h
  · exact .inl h
  · exact .inr (by omega)
  · exact .inr (by omega)
/-- What an append to a row of bytes leaves. -/
structure Appended (S : Nat → Prop) (w w' : World) (v v' : Value) (t' : List UInt8) : Prop where
  touch : Tread S w w'
  text : TextAt w' (grow S w w') v' t'
  plain : ∀ (b : Nat) (o : Obj), ¬ isText o → w.heap[b]? = some o → w'.heap[b]? = some o
  other : ∀ y ty, Apart v y → TextAt w S y ty → TextAt w' (grow S w w') y ty ∧ Apart v' y
theorem Appended.of_drew {S : Nat → Prop} {w w' : World} {v v' : Value} {t' : List UInt8} (h : Appended S w.drew w' v v' t') : Appended S w w' v v' t' := ⟨h.touch.of_drew, h.text, h.plain, h.other⟩
theorem strCells_u8s (s : ByteArray) : strCells s = u8s s.data.toList := rfl
theorem u8s_append (a b : List UInt8) : u8s (a ++ b) = u8s a ++ u8s b := by simp [u8s]
theorem u8s_length (a : List UInt8) : (u8s a).length = a.length := by simp [u8s]
theorem TextAt.cells {w : World} {S : Nat → Prop} {b n c : Nat} {t : List UInt8} (h : TextAt w S (.slice (some ⟨b, 0, none⟩) n c) t) : ∀ j u, (u8s t)[j]? = some u → w.cell? ((⟨b, 0, none⟩ : Addr).add j) = some u := by
  rcases h with ⟨h, _⟩ | ⟨b', cap, cs, hv, ha, h1, h2, h3, h4⟩
  · cases h
  · cases hv
    intro j u hj
    have : Addr.add ⟨b, 0, none⟩ j = ⟨b, j, none⟩ := by cases j <;> simp [Addr.add]
    rw [this, cell_of ha.2]
    rw [← h4, List.getElem?_take] at hj
    by_cases hl : j < t.length
    · rw [if_pos hl] at hj; simpa using hj
    · rw [if_neg hl] at hj; cases hj
/-- A new row of bytes. -/
theorem appended_new {S : Nat → Prop} {w : World} {v : Value} (n cap : Nat) (cs : Array Value) (t' : List UInt8) (hn : n = t'.length) (h1 : t'.length ≤ cap) (h2 : cap ≤ cs.size) (h3 : cap ≤ maxLen)
    (h4 : cs.toList.take t'.length = u8s t') : Appended S w (w.drew.alloc (.cells cs 5)) v (.slice (some ⟨w.heap.size, 0, none⟩) n cap) t' := by
  subst hn
  refine ⟨(Tread.alloc S w.drew _).of_drew, .inr ⟨w.heap.size, cap, cs, rfl, ⟨.inr ⟨Nat.le_refl _, by rw [size_alloc]; exact Nat.lt_succ_self _⟩, heap_new w.drew _⟩, h1, h2, h3, h4⟩, ?_, ?_⟩
  · intro b o _ hb
    rw [heap_alloc w.drew _ b (lt_of_at hb)]; exact hb
  · intro y ty _ hy
    refine ⟨hy.keep fun b o _ ha => ⟨.inl ha.1, by rw [heap_alloc w.drew _ b (lt_of_at ha.2)]; exact ha.2⟩, ?_⟩
    intro b n c n' c' e e'
    subst e'
    cases e
    rcases hy with ⟨h, _⟩ | ⟨b', cap', cs', hv, ha, _⟩
    · cases h
    · cases hv
      have := lt_of_at ha.2
      omega
theorem run_append_text (S : Nat → Prop) (w : World) (ty : TypeId) (v : Value) (t : List UInt8) (s : ByteArray) (hv : TextAt w S v t) (hb : t.length + s.size ≤ 1099511627776) :
    ∃ v' w', (Builtin.append_ #[97, 9] ty #[v, .string s]).run Tryz.prog w = .ok v' w' ∧ Appended S w w' v v' (t ++ s.data.toList) := by
  obtain ⟨i, hi, hz0, hz1, hz2⟩ := info_parts infoE
  have hsl : s.data.toList.length = s.size := by simp
  rcases hv with ⟨rfl, rfl⟩ | ⟨b, cap, cs, rfl, ha, h1, h2, h3, h4⟩
  · by_cases hm : s.size = 0
    · have hn : strCells s = [] := List.eq_nil_of_length_eq_zero (by rw [strCells_length]; exact hm)
      have hf := run_firstCells_string (P := Tryz.prog) w 1 s
      rw [hm] at hf
      have hl : s.data.toList = [] := List.eq_nil_of_length_eq_zero (by rw [hsl]; exact hm)
      refine ⟨.slice none 0 0, w, ?_, ⟨Tread.refl _ _, .inl ⟨rfl, by simp [hl]⟩, fun _ _ _ h => h, fun y ty' _ hy => ⟨hy.keep fun b o _ ha => ha.up grow_up, Apart.nil y⟩⟩⟩
      simp [Builtin.append_, run_underlying undL, run_underlying undS, sizeOf, typeInfo, hi, hz1, Builtin.lenOf, hm, hf]
    · have hr := run_append_nil_string (P := Tryz.prog) w 97 9 ty 5 i (.int .u8 0) undL undS hi hz0 s (by omega) (by simp at hb; omega) (by rw [hz2]; simp at hb; omega)
      have e1 : (s.data.map fun b => Value.int .u8 b.toNat) = (strCells s).toArray := by
        apply Array.ext'
        simp [strCells]
      have hge := grownCap_ge w s.size 0 5
      have hcm : grownCap w s.size 0 5 ≤ maxLen := grownCap_le_maxLen w s.size 0 5 (by unfold maxLen; simp at hb; omega)
      rw [e1] at hr
      refine ⟨_, _, hr, appended_new _ _ _ _ (by simp) (by simpa using hge) ?_ hcm ?_⟩
      · have hz1 : (Value.int IntKind.u8 0).cells.size = 1 := rfl
        simp only [Array.size_append, List.size_toArray, size_zeroCells, hz1, strCells_length]
        omega
      · simp only [Array.toList_append, List.nil_append, strCells_u8s]
        rw [← u8s_length]; exact List.take_left
  · by_cases hroom : t.length + s.size ≤ cap
    · have hr := run_append_room_string (P := Tryz.prog) w 97 9 ty 5 i undL undS hi hz1 b t.length cap cs ha.2 s hroom (by omega)
      refine ⟨_, _, hr, ⟨⟨rfl, rfl, rfl, by simp, fun k _ hk => setRow_other w b k _ (fun e => hk (e ▸ ha.1))⟩, ?_, ?_, ?_⟩⟩
      · refine .inr ⟨b, cap, _, by simp, ⟨.inl ha.1, setRow_heap w b cs _ _ _ ha.2⟩, by simp; omega, ?_, h3, ?_⟩
        · simp [strCells_length]; omega
        · have hl : (t ++ s.data.toList).length = t.length + s.size := by simp
          rw [hl, h4, strCells_u8s, ← u8s_append, List.take_append_of_le_length (by rw [u8s_length, hl]; exact Nat.le_refl _), List.take_of_length_le (by rw [u8s_length, hl]; exact Nat.le_refl _)]
      · intro k o ho hk
        rw [setRow_other w b k _ (fun e => ho ⟨cs, (0, 0), by subst e; rw [ha.2] at hk; cases hk; rfl⟩)]; exact hk
      · intro y ty' hap hy
        rcases hy with ⟨rfl, rfl⟩ | ⟨b', cap', cs', rfl, ha', h1', h2', h3', h4'⟩
        · exact ⟨.inl ⟨rfl, rfl⟩, (Apart.nil _).symm⟩
        · by_cases e : b' = b
          · subst e
            have ec := ha'.2
            rw [ha.2] at ec
            cases ec
            have hq := hap b' t.length cap ty'.length cap' rfl rfl
            by_cases hs0 : s.size = 0
            · have hl : s.data.toList = [] := List.eq_nil_of_length_eq_zero (by rw [hsl]; exact hs0)
              have hsc : strCells s = [] := List.eq_nil_of_length_eq_zero (by rw [strCells_length]; exact hs0)
              refine ⟨.inr ⟨b', cap', _, rfl, ⟨.inl ha'.1, setRow_heap w b' _ _ _ _ ha.2⟩, h1', ?_, h3', ?_⟩, ?_⟩
              · simp [hsc, hs0]; omega
              · rw [hsc, hs0]; simp; exact h4'
              · rw [hs0]; exact hap
            · have h5 := hq.1 (by omega)
              refine ⟨.inr ⟨b', cap', _, rfl, ⟨.inl ha'.1, setRow_heap w b' _ _ _ _ ha.2⟩, h1', ?_, h3', ?_⟩, ?_⟩
              · simp [strCells_length]; omega
              · rw [List.append_assoc, List.take_append_of_le_length (by simp; omega), List.take_take, Nat.min_eq_left h5.1]; exact h4'
              · intro b2 n c n' c' e1 e2
                cases e1; cases e2
                exact ⟨fun _ => ⟨by omega, h5.2⟩, fun hlt => by omega⟩
          · refine ⟨.inr ⟨b', cap', cs', rfl, ⟨.inl ha'.1, by rw [setRow_other w b b' _ e]; exact ha'.2⟩, h1', h2', h3', h4'⟩, ?_⟩
            intro b2 n c n' c' e1 e2
            cases e1; cases e2
            exact absurd rfl e
    · have holds := TextAt.cells (S := S) (.inr ⟨b, cap, cs, rfl, ha, h1, h2, h3, h4⟩)
      have hr := run_append_grow_string (P := Tryz.prog) w 97 9 ty 5 i (.int .u8 0) undL undS hi hz0 ⟨b, 0, none⟩ t.length cap (u8s t) (by rw [hz1, u8s_length]; omega) holds s (by omega) (by omega) (by rw [hz2]; exact growslice_fits (by omega) (by omega))
      have hge := grownCap_ge w (t.length + s.size) cap 5
      have hcm : grownCap w (t.length + s.size) cap 5 ≤ maxLen := grownCap_le_maxLen w _ _ 5 (by unfold maxLen; omega)
      refine ⟨_, _, hr, appended_new _ _ _ _ (by simp) (by simpa using hge) ?_ hcm ?_⟩
      · have hz1 : (Value.int IntKind.u8 0).cells.size = 1 := rfl
        simp only [Array.size_append, List.size_toArray, size_zeroCells, hz1, strCells_length, u8s_length]
        omega
      · simp only [Array.toList_append, strCells_u8s]
        rw [← u8s_append, ← u8s_length]; exact List.take_left
end Go.Proofs.YtaoneiicoaiehaaGreat.Dh
namespace Go.Proofs.YtaoneiicoaiehaaGreat.Ext
set_option maxRecDepth 100000
open Go Go.RowKit Go.Lib Go.Proofs.YtaoneiicoaiehaaGreat.Mp Go.Proofs.YtaoneiicoaiehaaGreat.Dh
open Go.ChangeMaps (setBlock)
theorem isStr : IsStr Tryz.prog 55 97 9 := ⟨by kernel_rfl, by kernel_rfl⟩
theorem zeroV (w : World) : (zeroValue 97).run Tryz.prog w = .ok (.slice none 0 0) w := by kernel_rfl
theorem wpList_lookup_text (w : World) {ops : Array Oper} {rest : List Oper} {o : Oper} {a : Act} {Q : Exit → Act → World → Prop} (hg : o.guard = none) (m x : Operand)
    (hop : o.op = Op.lookup 55 m x false) (mb : Nat) (es : List Ent) (c : Nat) (k : ByteArray) (hm : a.eval m = .map (some mb)) (hx : a.eval x = .string k) (hb : w.heap[mb]? = some (obj es c))
    (hK : wpList Tryz.prog ops Q rest (a.put o.dst (((find es k).map Ent.val).getD (.slice none 0 0))) w) : wpList Tryz.prog ops Q (o :: rest) a w := by
  refine wpList_plain hg fun K' hK' => ?_
  have hrun := run_lookup w _ _ _ isStr _ zeroV mb es c hb k
  unfold Oper.wp
  simp [execOp, hop, hm, hx, hrun, Result.andThen]
  exact hK' _ _ hK
theorem wpList_lookup_text_ok (w : World) {ops : Array Oper} {rest : List Oper} {o : Oper} {a : Act} {Q : Exit → Act → World → Prop} (hg : o.guard = none) (m x : Operand)
    (hop : o.op = Op.lookup 55 m x true) (mb : Nat) (es : List Ent) (c : Nat) (k : ByteArray) (hm : a.eval m = .map (some mb)) (hx : a.eval x = .string k) (hb : w.heap[mb]? = some (obj es c))
    (hK : wpList Tryz.prog ops Q rest (a.put o.dst (.tuple #[((find es k).map Ent.val).getD (.slice none 0 0), .bool (find es k).isSome])) w) : wpList Tryz.prog ops Q (o :: rest) a w := by
  refine wpList_plain hg fun K' hK' => ?_
  have hrun := run_lookup_ok w _ _ _ isStr _ zeroV mb es c hb k
  unfold Oper.wp
  simp [execOp, hop, hm, hx, hrun, Result.andThen]
  exact hK' _ _ hK
theorem wpList_update_text (w : World) {ops : Array Oper} {rest : List Oper} {o : Oper} {a : Act} {Q : Exit → Act → World → Prop} (hg : o.guard = none) (m x y : Operand)
    (hop : o.op = Op.mapUpdate 55 m x y) (mb : Nat) (es : List Ent) (c : Nat) (k : ByteArray) (v : Value) (t : List UInt8) (hm : a.eval m = .map (some mb)) (hx : a.eval x = .string k) (hy : a.eval y = v) (hb : w.heap[mb]? = some (obj es c))
    (hd : o.dst = none) (hK : wpList Tryz.prog ops Q rest a (setBlock w mb (obj (put es k v t c) (clockOf es k c)))) : wpList Tryz.prog ops Q (o :: rest) a w := by
  refine wpList_plain hg fun K' hK' => ?_
  have hrun := run_update w _ _ _ isStr mb es c hb k v t
  unfold Oper.wp
  simp [execOp, hop, hm, hx, hy, hrun, Result.andThen]
  refine hK' _ _ ?_
  simpa [hd, Act.put] using hK
theorem wpList_delete_text (w : World) {ops : Array Oper} {rest : List Oper} {o : Oper} {a : Act} {Q : Exit → Act → World → Prop} (hg : o.guard = none) (m x : Operand)
    (hop : o.op = Op.call { callee := Callee.builtin Builtin.delete, args := #[m, x], argTypes := #[55, 9] }) (mb : Nat) (es : List Ent) (c : Nat) (k : ByteArray) (hm : a.eval m = .map (some mb)) (hx : a.eval x = .string k) (hb : w.heap[mb]? = some (obj es c))
    (hd : o.dst = none) (hK : wpList Tryz.prog ops Q rest a (setBlock w mb (obj (del es k) c))) : wpList Tryz.prog ops Q (o :: rest) a w := by
  refine wpList_plain hg fun K' hK' => ?_
  have hrun := run_delete w _ _ _ isStr o.type #[55, 9] rfl mb es c hb k
  unfold Oper.wp
  simp [execOp, hop, resolve, invoke, builtin, hm, hx, hrun, Result.andThen]
  refine hK' _ _ ?_
  simpa [hd, Act.put] using hK
theorem step_append {ops : Array Oper} {o : Oper} {a : Act} {w : World} {K : Act → World → Prop} {Q : Exit → Act → World → Prop} {E : Prop}
    (hg : o.guard = none) (s x : Operand) (hop : o.op = Op.call { callee := Callee.builtin Builtin.append, args := #[s, x], argTypes := #[97, 9] })
    (S : Nat → Prop) (v : Value) (t : List UInt8) (str : ByteArray) (hs : a.eval s = v) (hx : a.eval x = .string str) (hv : TextAt w S v t) (hb : t.length + str.size ≤ 1099511627776)
    (hK : ∀ v' w', Appended S w w' v v' (t ++ str.data.toList) → K (a.put o.dst v') w') :
    if Region.wanted o (yielded ops a.tmps) = true then Oper.wp Tryz.prog o a w K Q else E := by
  have hw : Region.wanted o (yielded ops a.tmps) = true := by simp [Region.wanted, hg]
  rw [if_pos hw]
  obtain ⟨v', w', hrun, happ⟩ := run_append_text S w o.type v t str hv hb
  unfold Oper.wp
  simp [execOp, hop, resolve, invoke, builtin, hs, hx, hrun, Result.andThen]
  exact hK _ _ happ
theorem cells_behind {S : Nat → Prop} {w w1 : World} {p m : Nat} {cs : Array Value} {T : TypeId} {es : List Ent} {c : Nat} {v v' : Value} {t' : List UInt8} (hp : w.heap[p]? = some (.cells cs T (0, 0))) (hm : w.heap[m]? = some (obj es c))
    (hpt : ¬ isText (.cells cs T (0, 0))) (happ : Appended S w w1 v v' t') (es' : List Ent) (k : ByteArray) (v2 : Value) (t2 : List UInt8) (c' : Nat) :
    (setBlock w1 m (obj (put es' k v2 t2 c') (clockOf es' k c'))).heap[p]? = some (.cells cs T (0, 0)) :=
  (setBlock_ne _ _ _ _ (fun e => by subst e; rw [hm] at hp; cases hp)).trans (happ.plain p _ hpt hp)
theorem walk (S : Nat → Prop) (w : World) (p off m : Nat) (cs : Array Value) (T : TypeId) (es : List Ent) (c : Nat) (used : Int) (k s : ByteArray) (v : Value) (t : List UInt8)
    (hT : T ≠ 5) (hp : w.heap[p]? = some (.cells cs T (0, 0))) (h0 : cs[off]? = some (.map (some m))) (h1 : cs[off + 1]? = some (.int .i64 used)) (hm : w.heap[m]? = some (obj es c))
    (hv : ((find es k).map Ent.val).getD (.slice none 0 0) = v) (ht : TextAt w S v t) (hb : t.length + s.size ≤ 1099511627776)
    (hu : 0 ≤ used ∧ used ≤ 1099511627776) :
    Calls Tryz.prog 51 #[.pointer (some ⟨p, off, none⟩), .string k, .string s] w fun e w' => e = .returned (.tuple #[]) ∧
      ∃ v' w1, Appended S w w1 v v' (t ++ s.data.toList) ∧
        Like w' ((setBlock w1 m (obj (put es k v' (t ++ s.data.toList) c) (clockOf es k c))).setCell ⟨p, off + 1, none⟩ (.int .i64 (used + s.size))) := by
  have hmd : w.drew.heap[m]? = some (obj es c) := hm
  have htd : TextAt w.drew S v t := ht
  have c0 : w.cell? ⟨p, off, none⟩ = some (.map (some m)) := by rw [cell_of hp]; exact h0
  have hlook : ∀ W : World, W.heap[m]? = some (obj es c) → (Instr.lookup 55 (.map (some m)) (.string k) false).run Tryz.prog W = .ok v W := fun W hW => by
    rw [run_lookup W _ _ _ isStr _ zeroV m es c hW k, hv]
  have hupd : ∀ (W : World) (v' : Value), W.heap[m]? = some (obj es c) → (Instr.mapUpdate 55 (.map (some m)) (.string k) v').run Tryz.prog W =
      .ok () (setBlock W m (obj (put es k v' (t ++ s.data.toList) c) (clockOf es k c))) := fun W v' hW => run_update W _ _ _ isStr m es c hW k v' _
  have hpt : ¬ isText (.cells cs T (0, 0)) := fun ⟨_, _, h⟩ => by cases h; exact hT rfl
  have hmt : ¬ isText (obj es c) := fun ⟨_, _, h⟩ => by cases h
  go_enter Tryz.func51, Tryz.ntmps51
  go_wp2
  go_region_law (refine step_append rfl _ _ rfl S v t s rfl rfl ‹_› hb ?_; intro v' w1 happ0; have happ := Appended.of_drew happ0; clear happ0; have c1 : w1.cell? ⟨p, off, none⟩ = some (.map (some m)) := (cell_of (happ.plain p _ hpt hp) off).trans h0; have hm1 := happ.plain m _ hmt hm; have d1 := (cells_behind hp hm hpt happ es k v' (t ++ s.data.toList) c); have e1 := (cell_of d1 (off + 1)).trans h1; have f1 := free_of d1 (off + 1); clear d1)
  all_goals
    go_wp2
    go_end0
    exact ⟨rfl, _, _, (by assumption), rfl, rfl, rfl, rfl⟩
end Go.Proofs.YtaoneiicoaiehaaGreat.Ext
namespace Go.Proofs.YtaoneiicoaiehaaGreat.Bc
set_option maxRecDepth 100000
open Go Go.RowKit Go.Lib Go.Proofs.YtaoneiicoaiehaaGreat.Mp Go.Proofs.YtaoneiicoaiehaaGreat.Dh
open Go.ChangeMaps (setBlock)
/-- A row of bytes of its own. -/
structure Fresh (S : Nat → Prop) (w w' : World) (v' : Value) (t' : List UInt8) : Prop where
  touch : Tread S w w'
  text : TextAt w' (grow S w w') v' t'
  plain : ∀ (b : Nat) (o : Obj), w.heap[b]? = some o → w'.heap[b]? = some o
  apart : ∀ y ty, TextAt w S y ty → Apart v' y
theorem Fresh.of_drew {S : Nat → Prop} {w w' : World} {v' : Value} {t' : List UInt8} (h : Fresh S w.drew w' v' t') : Fresh S w w' v' t' := ⟨h.touch.of_drew, h.text, h.plain, h.apart⟩
theorem fresh_of {S : Nat → Prop} {w w1 w' : World} {v' : Value} {t : List UInt8} (hB : w.heap.size ≤ w1.heap.size) (hs : w1.os = w.os ∧ w1.tape = w.tape ∧ w1.output = w.output) (hk : ∀ b, b < w.heap.size → w1.heap[b]? = w.heap[b]?)
    (row : Option Nat) (hr : ∀ k, row = some k → w.heap.size ≤ k) (hg : w1.grownBy w' row) (ho : w'.ownsRow w.heap.size 5 1 v' t.length (u8s t)) : Fresh S w w' v' t := by
  have hb : ∀ b, b < w.heap.size → w'.heap[b]? = w.heap[b]? := fun b h => (hg.block b (by omega) (fun e => by have := hr b e.symm; omega)).trans (hk b h)
  refine ⟨⟨hg.os.trans hs.1, hg.tape.trans hs.2.1, hg.output.trans hs.2.2, Nat.le_trans hB hg.size, fun b h _ => hb b h⟩, ?_, fun b o h => (hb b (lt_of_at h)).trans h, ?_⟩
  · rcases ho.2 with ⟨rfl, h0⟩ | ⟨g, cap, cur, rfl, hbg, hg', hnc, hcm, hcs, htake⟩
    · exact .inl ⟨rfl, List.eq_nil_of_length_eq_zero h0⟩
    · exact .inr ⟨g, cap, cur, rfl, ⟨.inr ⟨hbg, lt_of_at hg'⟩, hg'⟩, hnc, by omega, hcm, by simpa using htake⟩
  · intro y ty hy b n c n' c' e e'
    subst e e'
    rcases ho.2 with ⟨h, _⟩ | ⟨g, cap, cur, h, hbg, _⟩
    · cases h
    · cases h
      rcases hy with ⟨h, _⟩ | ⟨b', cap', cs', hv, ha, _⟩
      · cases h
      · cases hv
        have := lt_of_at ha.2
        omega
end Go.Proofs.YtaoneiicoaiehaaGreat.Bc

namespace Go.Proofs.YtaoneiicoaiehaaGreat.Cut
set_option maxRecDepth 100000
open Go Go.RowKit Go.Lib Go.Proofs.YtaoneiicoaiehaaGreat.Mp Go.Proofs.YtaoneiicoaiehaaGreat.Dh Go.Proofs.YtaoneiicoaiehaaGreat.Ext Go.Proofs.YtaoneiicoaiehaaGreat.Bc
open Go.ChangeMaps (setBlock)
theorem TextAt.take {w : World} {S : Nat → Prop} {b c m : Nat} {t : List UInt8} (h : TextAt w S (.slice (some ⟨b, 0, none⟩) m c) t) (n : Nat) (hn : n ≤ t.length) :
    TextAt w S (.slice (some ⟨b, 0, none⟩) n c) (t.take n) := by
  rcases h with ⟨h, _⟩ | ⟨b', cap, cs, hv, ha, h1, h2, h3, h4⟩
  · cases h
  · cases hv
    have hl : (t.take n).length = n := by simp; omega
    refine .inr ⟨b, c, cs, by rw [hl], ha, by omega, h2, h3, ?_⟩
    rw [hl]
    have : cs.toList.take n = (cs.toList.take t.length).take n := by rw [List.take_take, Nat.min_eq_left hn]
    rw [this, h4]; simp [u8s]
theorem drop_walk (S : Nat → Prop) (w : World) (p off m : Nat) (cs : Array Value) (T : TypeId) (es : List Ent) (c : Nat) (used : Int) (k : ByteArray) (v : Value) (t : List UInt8)
    (hp : w.heap[p]? = some (.cells cs T (0, 0))) (h0 : cs[off]? = some (.map (some m))) (h1 : cs[off + 1]? = some (.int .i64 used)) (hm : w.heap[m]? = some (obj es c))
    (hv : ((find es k).map Ent.val).getD (.slice none 0 0) = v) (ht : TextAt w S v t) (hb : t.length ≤ 1099511627776)
    (hu : 0 ≤ used ∧ used ≤ 1099511627776) :
    Calls Tryz.prog 88 #[.pointer (some ⟨p, off, none⟩), .string k] w fun e w' => e = .returned (.tuple #[]) ∧
        Like w' (setBlock (w.setCell ⟨p, off + 1, none⟩ (.int .i64 (used - t.length))) m (obj (del es k) c)) := by
  have hpm : p ≠ m := fun e => by subst e; rw [hm] at hp; cases hp
  have hmd : w.drew.heap[m]? = some (obj es c) := hm
  have c0 : w.cell? ⟨p, off, none⟩ = some (.map (some m)) := by rw [cell_of hp]; exact h0
  have c1 : w.cell? ⟨p, off + 1, none⟩ = some (.int .i64 used) := by rw [cell_of hp]; exact h1
  have f1 : w.frozen? ⟨p, off + 1, none⟩ = false := free_of hp _
  have hlook : ∀ W : World, W.heap[m]? = some (obj es c) → (Instr.lookup 55 (.map (some m)) (.string k) false).run Tryz.prog W = .ok v W := fun W hW => by
    rw [run_lookup W _ _ _ isStr _ zeroV m es c hW k, hv]
  have hdel : ∀ (W : World) (ty : TypeId), W.heap[m]? = some (obj es c) → (Builtin.delete_ #[55, 9] ty #[.map (some m), .string k]).run Tryz.prog W =
      .ok (.tuple #[]) (setBlock W m (obj (del es k) c)) := fun W ty hW => run_delete W _ _ _ isStr ty _ rfl m es c hW k
  obtain ⟨a, cp, rfl, hcp, _⟩ := ht.len
  clear ht
  have hm2 : ∀ x : Value, ((w.drew).setCell ⟨p, off + 1, none⟩ x).heap[m]? = some (obj es c) := fun x => by rw [Below.heap_setCell _ _ _ _ (Ne.symm hpm)]; exact hm
  go_enter Tryz.func88, Tryz.ntmps88
  go_wp2
  go_region
  all_goals
    have HM := Lib.hid hm2
    clear hm2 hlook hmd hm hdel
    go_wp2_with (at_delete; refine wpList_delete_text _ rfl _ _ rfl m es c k rfl rfl (HM.out _) rfl ?_)
    go_end0
    exact ⟨rfl, rfl, rfl, rfl, rfl⟩
theorem keep_setCell {S : Nat → Prop} {w : World} {p i : Nat} {cs : Array Value} {T : TypeId} {x : Value} (hT : T ≠ 5) (hp : w.heap[p]? = some (.cells cs T (0, 0))) {v : Value} {t : List UInt8} (h : TextAt w S v t) : TextAt (w.setCell ⟨p, i, none⟩ x) S v t :=
  h.keep fun b o ho ha => ⟨ha.1, by
    by_cases e : b = p
    · subst e
      obtain ⟨cs', fr, rfl⟩ := ho
      have := ha.2
      rw [hp] at this
      cases this
      exact absurd rfl hT
    · rw [Below.heap_setCell _ _ _ _ e]; exact ha.2⟩
theorem move_walk (w : World) (p off m : Nat) (cs : Array Value) (T : TypeId) (es : List Ent) (c : Nat) (used : Int) (j k : ByteArray) (vj vk : Value) (nj : Nat) (tj : List UInt8)
    (hp : w.heap[p]? = some (.cells cs T (0, 0))) (h0 : cs[off]? = some (.map (some m))) (h1 : cs[off + 1]? = some (.int .i64 used)) (hm : w.heap[m]? = some (obj es c))
    (hvj : ((find es j).map Ent.val).getD (.slice none 0 0) = vj) (hvk : ((find es k).map Ent.val).getD (.slice none 0 0) = vk) (a : Option Addr) (cp : Nat) (hk : vk = .slice a nj cp) (hkn : nj ≤ 1099511627776)
    (hu : 0 ≤ used ∧ used ≤ 1099511627776) :
    Calls Tryz.prog 62 #[.pointer (some ⟨p, off, none⟩), .string j, .string k] w fun e w' => e = .returned (.tuple #[]) ∧
        Like w' (setBlock (setBlock (w.setCell ⟨p, off + 1, none⟩ (.int .i64 (used - nj))) m (obj (put es k vj tj c) (clockOf es k c))) m (obj (del (put es k vj tj c) j) (clockOf es k c))) := by
  have hpm : p ≠ m := fun e => by subst e; rw [hm] at hp; cases hp
  have c0 : w.cell? ⟨p, off, none⟩ = some (.map (some m)) := by rw [cell_of hp]; exact h0
  have c1 : w.cell? ⟨p, off + 1, none⟩ = some (.int .i64 used) := by rw [cell_of hp]; exact h1
  have f1 : w.frozen? ⟨p, off + 1, none⟩ = false := free_of hp _
  have hdr : ∀ W : World, W.drew.heap = W.heap := fun _ => rfl
  have hlj : ∀ W : World, W.heap[m]? = some (obj es c) → (Instr.lookup 55 (.map (some m)) (.string j) false).run Tryz.prog W = .ok vj W := fun W hW => by
    rw [run_lookup W _ _ _ isStr _ zeroV m es c hW j, hvj]
  have hlk : ∀ W : World, W.heap[m]? = some (obj es c) → (Instr.lookup 55 (.map (some m)) (.string k) false).run Tryz.prog W = .ok vk W := fun W hW => by
    rw [run_lookup W _ _ _ isStr _ zeroV m es c hW k, hvk]
  have hupd : ∀ W : World, W.heap[m]? = some (obj es c) → (Instr.mapUpdate 55 (.map (some m)) (.string k) vj).run Tryz.prog W =
      .ok () (setBlock W m (obj (put es k vj tj c) (clockOf es k c))) := fun W hW => run_update W _ _ _ isStr m es c hW k vj tj
  subst hk
  obtain ⟨w1, hw1⟩ : ∃ w1, w1 = w.setCell ⟨p, off + 1, none⟩ (.int .i64 (used - nj)) := ⟨_, rfl⟩
  have hp1 : w1.heap[p]? = some (.cells (cs.setIfInBounds (off + 1) (.int .i64 (used - nj))) T (0, 0)) := by rw [hw1]; exact setCell_heap hp _ _
  have d0 : w1.cell? ⟨p, off, none⟩ = some (.map (some m)) := by
    rw [cell_of hp1, Array.getElem?_setIfInBounds_ne (by omega)]; exact h0
  have hm1 : w1.heap[m]? = some (obj es c) := by rw [hw1, Below.heap_setCell _ _ _ _ (Ne.symm hpm)]; exact hm
  obtain ⟨w2, hw2⟩ : ∃ w2, w2 = setBlock w1.drew.drew m (obj (put es k vj tj c) (clockOf es k c)) := ⟨_, rfl⟩
  have hp2 : w2.heap[p]? = some (.cells (cs.setIfInBounds (off + 1) (.int .i64 (used - nj))) T (0, 0)) := by rw [hw2, setBlock_ne _ _ _ _ hpm]; exact hp1
  have e0 : w2.cell? ⟨p, off, none⟩ = some (.map (some m)) := by
    rw [cell_of hp2, Array.getElem?_setIfInBounds_ne (by omega)]; exact h0
  have hm2 : w2.heap[m]? = some (obj (put es k vj tj c) (clockOf es k c)) := by rw [hw2]; exact setBlock_at _ _ _ (obj es c) (show w1.drew.drew.heap[m]? = _ from hm1)
  have HW1 := Lib.hid hw1
  have HW2 := Lib.hid hw2
  have HP := Lib.hid hp
  have HP1 := Lib.hid hp1
  have HP2 := Lib.hid hp2
  have HM1 := Lib.hid hm1
  have HM2 := Lib.hid hm2
  have D0 := Lib.hid d0
  have E0 := Lib.hid e0
  clear hw1 hw2 hp hp1 hp2 hm1 hm2 d0 e0
  go_enter Tryz.func62, Tryz.ntmps62
  go_wp2
  go_region
  all_goals
    rw [← HW1.out]
    have d0 := D0.out
    have hm1 := HM1.out
    clear c0 c1 f1 hlk
    go_wp2
    go_region
    all_goals
      rw [← HW2.out]
      have e0 := E0.out
      clear d0 hm1 hlj hupd hdr
      go_wp2_with (at_delete; refine wpList_delete_text _ rfl _ _ rfl m (put es k vj tj c) (clockOf es k c) j rfl rfl HM2.out rfl ?_)
      go_end0
      rw [HW2.out, HW1.out]
      exact ⟨rfl, rfl, rfl, rfl, rfl⟩
end Go.Proofs.YtaoneiicoaiehaaGreat.Cut

namespace Go.Proofs.YtaoneiicoaiehaaGreat.Dk
set_option maxRecDepth 100000
open Go Go.RowKit Go.Lib Go.Proofs.YtaoneiicoaiehaaGreat.Mp Go.Proofs.YtaoneiicoaiehaaGreat.Dh Go.Proofs.YtaoneiicoaiehaaGreat.Ext Go.Proofs.YtaoneiicoaiehaaGreat.Bc Go.Proofs.YtaoneiicoaiehaaGreat.Fm
open Go.ChangeMaps (setBlock)
def Texts (w : World) (S : Nat → Prop) (l : List Ent) : Prop := (∀ e ∈ l, TextAt w S e.val e.text) ∧ l.Pairwise fun a b => Apart a.val b.val
theorem Texts.perm {w : World} {S : Nat → Prop} {l l' : List Ent} (h : Texts w S l) (hp : l.Perm l') : Texts w S l' :=
  ⟨fun e he => h.1 e (hp.mem_iff.2 he), (hp.pairwise_iff (fun h => h.symm)).1 h.2⟩
theorem Texts.tail {w : World} {S : Nat → Prop} {e : Ent} {l : List Ent} (h : Texts w S (e :: l)) : Texts w S l :=
  ⟨fun x hx => h.1 x (List.mem_cons_of_mem _ hx), (List.pairwise_cons.1 h.2).2⟩
theorem Texts.head {w : World} {S : Nat → Prop} {e : Ent} {l : List Ent} (h : Texts w S (e :: l)) : TextAt w S e.val e.text ∧ ∀ y ∈ l, Apart e.val y.val :=
  ⟨h.1 e (List.mem_cons_self ..), fun y hy => (List.pairwise_cons.1 h.2).1 y hy⟩
theorem Texts.keep {w w' : World} {S S' : Nat → Prop} {l : List Ent} (h : Texts w S l) (hk : ∀ b o, isText o → At w S b o → At w' S' b o) : Texts w' S' l :=
  ⟨fun e he => (h.1 e he).keep hk, h.2⟩
theorem Texts.step {w w1 : World} {S : Nat → Prop} {rest : List Ent} {v v' : Value} {t' : List UInt8} (h : Texts w S rest) (ha : ∀ y ∈ rest, Apart v y.val) (happ : Appended S w w1 v v' t') (k : ByteArray) (b : Nat) :
    Texts w1 (grow S w w1) (⟨k, v', t', b⟩ :: rest) := by
  refine ⟨fun e he => ?_, List.pairwise_cons.2 ⟨fun y hy => (happ.other y.val y.text (ha y hy) (h.1 y hy)).2, h.2⟩⟩
  rcases List.mem_cons.1 he with rfl | he
  · exact happ.text
  · exact (happ.other e.val e.text (ha e he) (h.1 e he)).1
theorem Texts.fresh {w w1 : World} {S : Nat → Prop} {rest : List Ent} {v' : Value} {t' : List UInt8} (h : Texts w S rest) (hf : Fresh S w w1 v' t') (k : ByteArray) (b : Nat) :
    Texts w1 (grow S w w1) (⟨k, v', t', b⟩ :: rest) := by
  refine ⟨fun e he => ?_, List.pairwise_cons.2 ⟨fun y hy => hf.apart y.val y.text (h.1 y hy), h.2⟩⟩
  rcases List.mem_cons.1 he with rfl | he
  · exact hf.text
  · exact (h.1 e he).keep fun b o _ ha => ⟨.inl ha.1, hf.plain b o ha.2⟩
theorem perm_mid (pre post os : List Ent) (e : Ent) : (pre ++ e :: post ++ os).Perm (e :: (pre ++ post ++ os)) := by
  simp
theorem perm_end (es os : List Ent) (e : Ent) : (es ++ [e] ++ os).Perm (e :: (es ++ os)) := by
  simp
structure Wf (es : List Ent) (c : Nat) : Prop where
  keys : (es.map Ent.key).Nodup
  bornN : (es.map Ent.born).Nodup
  born : ∀ e ∈ es, e.born < c
theorem Wf.put {es : List Ent} {c : Nat} (h : Wf es c) (k : ByteArray) (v : Value) (t : List UInt8) : Wf (Mp.put es k v t c) (clockOf es k c) := by
  rcases hf : find es k with _ | e
  · rw [put_miss k v t c es hf]
    simp only [clockOf, hf, Option.isSome_none, Bool.false_eq_true, if_false]
    refine ⟨?_, ?_, ?_⟩
    · rw [List.map_append, List.map_cons, List.map_nil, List.nodup_append]
      refine ⟨h.keys, by simp, ?_⟩
      intro a ha b hb
      simp only [List.mem_singleton] at hb
      subst hb
      rintro rfl
      exact (find_none _ es).1 hf ha
    · rw [List.map_append, List.map_cons, List.map_nil, List.nodup_append]
      refine ⟨h.bornN, by simp, ?_⟩
      intro a ha b hb
      simp only [List.mem_singleton] at hb
      subst hb
      rintro rfl
      obtain ⟨x, hx, hxe⟩ := List.mem_map.1 ha
      have := h.born x hx
      omega
    · intro x hx
      rcases List.mem_append.1 hx with hx | hx
      · have := h.born x hx; omega
      · simp only [List.mem_singleton] at hx; subst hx; exact Nat.lt_succ_self _
  · obtain ⟨pre, post, h1, h2, _⟩ := put_split k v t c es e hf
    have hk := (find_key k es e hf).1
    simp only [clockOf, hf, Option.isSome_some, if_true]
    rw [h2]
    have e1 : (pre ++ (⟨k, v, t, e.born⟩ : Ent) :: post).map Ent.key = es.map Ent.key := by rw [h1]; simp [hk]
    have e2 : (pre ++ (⟨k, v, t, e.born⟩ : Ent) :: post).map Ent.born = es.map Ent.born := by rw [h1]; simp
    refine ⟨by rw [e1]; exact h.keys, by rw [e2]; exact h.bornN, ?_⟩
    intro x hx
    have hm : x.born ∈ es.map Ent.born := by rw [← e2]; exact List.mem_map.2 ⟨x, hx, rfl⟩
    obtain ⟨y, hy, hye⟩ := List.mem_map.1 hm
    rw [← hye]; exact h.born y hy
theorem Wf.del {es : List Ent} {c : Nat} (h : Wf es c) (k : ByteArray) : Wf (Mp.del es k) c := by
  rcases hf : find es k with _ | e
  · rw [del_miss k es hf]; exact h
  · obtain ⟨pre, post, h1, _, h3⟩ := put_split k .nilFunc [] 0 es e hf
    have hs : (pre ++ post).Sublist es := by rw [h1]; exact List.Sublist.append_left (List.sublist_cons_self e post) pre
    rw [h3]
    exact ⟨h.keys.sublist (hs.map _), h.bornN.sublist (hs.map _), fun x hx => h.born x (hs.subset hx)⟩
structure Dsk where
  room : Int
  m1 : Nat
  es1 : List Ent
  c1 : Nat
  m2 : Nat
  es2 : List Ent
  c2 : Nat
  lv : Value
  fuse : Int
  still : Bool
def Dsk.cells (d : Dsk) : Array Value := #[.int .i64 d.room, .map (some d.m1), .int .i64 (used (view d.es1)), .map (some d.m2), .int .i64 (used (view d.es2)), d.lv, .int .i64 d.fuse, .bool d.still]
structure DskAt (w : World) (S : Nat → Prop) (p : Nat) (d : Dsk) : Prop where
  blk : At w S p (.cells d.cells 61 (0, 0))
  now : At w S d.m1 (obj d.es1 d.c1)
  sure : At w S d.m2 (obj d.es2 d.c2)
  ne : d.m1 ≠ d.m2
  wf1 : Wf d.es1 d.c1
  wf2 : Wf d.es2 d.c2
  texts : Texts w S (d.es1 ++ d.es2)
def off : Bool → Nat | true => 1 | false => 3
def Dsk.es (d : Dsk) : Bool → List Ent | true => d.es1 | false => d.es2
def Dsk.m (d : Dsk) : Bool → Nat | true => d.m1 | false => d.m2
def Dsk.c (d : Dsk) : Bool → Nat | true => d.c1 | false => d.c2
def Dsk.put (d : Dsk) (es : List Ent) (c : Nat) : Bool → Dsk
  | true => { d with es1 := es, c1 := c }
  | false => { d with es2 := es, c2 := c }
theorem cells_off (d : Dsk) (b : Bool) : d.cells[off b]? = some (.map (some (d.m b))) := by cases b <;> rfl
theorem cells_used (d : Dsk) (b : Bool) : d.cells[off b + 1]? = some (.int .i64 (used (view (d.es b)))) := by cases b <;> rfl
theorem cells_put (d : Dsk) (b : Bool) (es : List Ent) (c : Nat) : d.cells.setIfInBounds (off b + 1) (.int .i64 (used (view es))) = (d.put es c b).cells := by cases b <;> rfl
theorem DskAt.map {w : World} {S : Nat → Prop} {p : Nat} {d : Dsk} (h : DskAt w S p d) (b : Bool) : At w S (d.m b) (obj (d.es b) (d.c b)) := by cases b; exact h.sure; exact h.now
theorem DskAt.wf {w : World} {S : Nat → Prop} {p : Nat} {d : Dsk} (h : DskAt w S p d) (b : Bool) : Wf (d.es b) (d.c b) := by cases b; exact h.wf2; exact h.wf1
theorem DskAt.tx {w : World} {S : Nat → Prop} {p : Nat} {d : Dsk} (h : DskAt w S p d) (b : Bool) : Texts w S (d.es b ++ d.es (!b)) := by
  cases b
  · exact h.texts.perm List.perm_append_comm
  · exact h.texts
/-- What is no row of bytes and no disk: it is left alone by all calls on files. -/
def isPlain (o : Obj) : Prop := ∃ cs T fr, o = .cells cs T fr ∧ T ≠ 5 ∧ T ≠ 61
structure Ran (S : Nat → Prop) (w w' : World) (p : Nat) (d' : Dsk) : Prop where
  tread : Tread S w w'
  at_ : DskAt w' (grow S w w') p d'
  plain : ∀ (b : Nat) (o : Obj), isPlain o → w.heap[b]? = some o → w'.heap[b]? = some o
theorem grow_size {S : Nat → Prop} {w w1 w2 : World} (h : w2.heap.size = w1.heap.size) : grow S w w2 = grow S w w1 := by funext b; simp [grow, h]
theorem mkRan {S : Nat → Prop} {w w1 w' : World} {p : Nat} {d : Dsk} (b : Bool) (h : DskAt w S p d) (ht : Tread S w w1) (hpl : ∀ x o, ¬ isText o → x ≠ p → w.heap[x]? = some o → w1.heap[x]? = some o)
    (es' : List Ent) (c' : Nat) (htx : Texts w1 (grow S w w1) (es' ++ d.es (!b))) (hwf : Wf es' c')
    (hp1 : ∃ cs, w1.heap[p]? = some (.cells cs 61 (0, 0)))
    (hp' : w'.heap[p]? = some (.cells (d.put es' c' b).cells 61 (0, 0))) (hm' : w'.heap[d.m b]? = some (obj es' c'))
    (ho : ∀ x, x ≠ p → x ≠ d.m b → w'.heap[x]? = w1.heap[x]?) (hs : w'.heap.size = w1.heap.size) (hos : w'.os = w1.os ∧ w'.tape = w1.tape ∧ w'.output = w1.output) :
    Ran S w w' p (d.put es' c' b) := by
  have hmb := h.map b
  have hmp : d.m b ≠ p := fun e => by have := hmb.2; rw [e, h.blk.2] at this; cases this
  have hm1 : w1.heap[d.m b]? = some (obj (d.es b) (d.c b)) := hpl _ _ (fun ⟨_, _, hx⟩ => by cases hx) hmp hmb.2
  have ht' : Tread S w w' := ⟨hos.1.trans ht.os, hos.2.1.trans ht.tape, hos.2.2.trans ht.output, by rw [hs]; exact ht.size, fun x hx hn => by
    rw [ho x (fun e => hn (e ▸ h.blk.1)) (fun e => hn (e ▸ hmb.1))]; exact ht.block x hx hn⟩
  have hg : grow S w w' = grow S w w1 := grow_size hs
  have htx' : Texts w' (grow S w w') (es' ++ d.es (!b)) := by
    rw [hg]
    refine htx.keep fun x o hxt ha => ⟨ha.1, ?_⟩
    rw [ho x ?_ ?_]
    · exact ha.2
    · rintro rfl
      obtain ⟨cs, hcs⟩ := hp1
      obtain ⟨cs', fr, rfl⟩ := hxt
      have := ha.2
      rw [hcs] at this
      cases this
    · rintro rfl
      obtain ⟨cs', fr, rfl⟩ := hxt
      have := ha.2
      rw [hm1] at this
      cases this
  have hother : At w' (grow S w w') (d.m (!b)) (obj (d.es (!b)) (d.c (!b))) := by
    have hmo := h.map (!b)
    have hmop : d.m (!b) ≠ p := fun e => by have := hmo.2; rw [e, h.blk.2] at this; cases this
    refine ⟨.inl hmo.1, ?_⟩
    rw [ho _ hmop (by cases b; exact h.ne; exact Ne.symm h.ne)]
    exact hpl _ _ (fun ⟨_, _, hx⟩ => by cases hx) hmop hmo.2
  refine ⟨ht', ?_, ?_⟩
  · cases b
    · exact ⟨⟨.inl h.blk.1, hp'⟩, hother, ⟨.inl hmb.1, hm'⟩, h.ne, h.wf1, hwf, htx'.perm List.perm_append_comm⟩
    · exact ⟨⟨.inl h.blk.1, hp'⟩, ⟨.inl hmb.1, hm'⟩, hother, h.ne, hwf, h.wf2, htx'⟩
  · rintro x o ⟨cs, T, fr, rfl, hT1, hT2⟩ hx
    rw [ho x ?_ ?_]
    · refine hpl _ _ (fun ⟨_, _, hy⟩ => by cases hy; exact hT1 rfl) ?_ hx
      rintro rfl
      rw [h.blk.2] at hx; cases hx; exact hT2 rfl
    · rintro rfl
      rw [h.blk.2] at hx; cases hx; exact hT2 rfl
    · rintro rfl
      rw [hmb.2] at hx; cases hx
end Go.Proofs.YtaoneiicoaiehaaGreat.Dk
namespace Go.Proofs.YtaoneiicoaiehaaGreat.Cm
set_option maxRecDepth 100000
open Go Go.RowKit Go.Lib Go.Proofs.YtaoneiicoaiehaaGreat.Mp Go.Proofs.YtaoneiicoaiehaaGreat.Dh Go.Proofs.YtaoneiicoaiehaaGreat.Ext Go.Proofs.YtaoneiicoaiehaaGreat.Bc Go.Proofs.YtaoneiicoaiehaaGreat.Fm Go.Proofs.YtaoneiicoaiehaaGreat.Dk
open Go.ChangeMaps (setBlock)
theorem TD_ne : (61 : TypeId) ≠ 5 := by decide
/-- A file's bytes as they lie. -/
theorem DskAt.file {w : World} {S : Nat → Prop} {p : Nat} {d : Dsk} (h : DskAt w S p d) (b : Bool) (k : ByteArray) :
    TextAt w S (((find (d.es b) k).map Ent.val).getD (.slice none 0 0)) (txt (view (d.es b)) k) := by
  unfold txt
  rw [get_view]
  rcases hf : find (d.es b) k with _ | e
  · exact .inl ⟨rfl, rfl⟩
  · exact (h.tx b).1 e (List.mem_append_left _ (find_key k _ e hf).2)
theorem ext_any {S : Nat → Prop} {w : World} {p : Nat} {d : Dsk} (b : Bool) (h : DskAt w S p d) (k s : ByteArray) (hok : Cmd.ok (view (d.es b)) (.app k s)) :
    Calls Tryz.prog 51 #[.pointer (some ⟨p, off b, none⟩), .string k, .string s] w fun e w' => e = .returned (.tuple #[]) ∧
      ∃ es' c', view es' = Cmd.run (view (d.es b)) (.app k s) ∧ Ran S w w' p (d.put es' c' b) := by
  have htl := txt_le k (view (d.es b))
  simp only [Cmd.ok] at hok
  have hmb := h.map b
  have hmp : p ≠ d.m b := fun e => by have := hmb.2; rw [← e, h.blk.2] at this; cases this
  refine (Ext.walk S w p (off b) (d.m b) d.cells 61 (d.es b) (d.c b) (used (view (d.es b))) k s _ (txt (view (d.es b)) k) TD_ne h.blk.2 (cells_off d b) (cells_used d b) hmb.2 rfl (DskAt.file h b k) (by omega) (by omega)).mono ?_
  rintro e w' ⟨rfl, v', w1, happ, hal⟩
  refine ⟨rfl, put (d.es b) k v' (txt (view (d.es b)) k ++ s.data.toList) (d.c b), clockOf (d.es b) k (d.c b), view_put .., ?_⟩
  obtain ⟨hh, ho1, ho2, ho3⟩ := hal
  have hp1 : w1.heap[p]? = some (.cells d.cells 61 (0, 0)) := happ.plain p _ (fun ⟨_, _, hx⟩ => by cases hx) h.blk.2
  have hm1 : w1.heap[d.m b]? = some (obj (d.es b) (d.c b)) := happ.plain _ _ (fun ⟨_, _, hx⟩ => by cases hx) hmb.2
  have hp2 : (setBlock w1 (d.m b) (obj (put (d.es b) k v' (txt (view (d.es b)) k ++ s.data.toList) (d.c b)) (clockOf (d.es b) k (d.c b)))).heap[p]? = some (.cells d.cells 61 (0, 0)) := (setBlock_ne _ _ _ _ hmp).trans hp1
  refine mkRan b h happ.touch (fun x o hx _ hb => happ.plain x o hx hb) _ _ ?_ ((h.wf b).put ..) ⟨_, hp1⟩ ?_ ?_ ?_ ?_ ⟨ho1, ho2, ho3⟩
  · have htx := h.tx b
    rcases hf : find (d.es b) k with _ | e
    · rw [put_miss k _ _ _ _ hf]
      simp only [hf, Option.map_none, Option.getD_none] at happ
      exact (Texts.step htx (fun y _ => Apart.nil _) happ k (d.c b)).perm (perm_end ..).symm
    · obtain ⟨pre, post, h1, h2, _⟩ := put_split k v' (txt (view (d.es b)) k ++ s.data.toList) (d.c b) (d.es b) e hf
      rw [h2]
      simp only [hf, Option.map_some, Option.getD_some] at happ
      have htx' : Texts w S (e :: (pre ++ post ++ d.es (!b))) := by rw [h1] at htx; exact htx.perm (perm_mid ..)
      exact (Texts.step htx'.tail htx'.head.2 happ k e.born).perm (perm_mid ..).symm
  · rw [hh, setCell_heap hp2, ← cells_put, view_put]
    have hu := used_put k (txt (view (d.es b)) k ++ s.data.toList) (view (d.es b))
    simp only [List.length_append] at hu
    have hs : s.data.toList.length = s.size := by simp
    have he : ((used (view (d.es b)) : Int) + s.size) = ((used (Fm.put (view (d.es b)) k (txt (view (d.es b)) k ++ s.data.toList)) : Nat) : Int) := by omega
    rw [he]
  · rw [hh, Below.heap_setCell _ _ _ _ (Ne.symm hmp)]
    exact setBlock_at _ _ _ _ hm1
  · intro x hxp hxm
    rw [hh, Below.heap_setCell _ _ _ _ hxp, setBlock_ne _ _ _ _ hxm]
  · rw [hh, setCell_size, setBlock_size]
theorem Fresh.notText {S : Nat → Prop} {w w1 : World} {v' : Value} {t' : List UInt8} (hf : Fresh S w w1 v' t') : ∀ (x : Nat) (o : Obj), w.heap[x]? = some o → w1.heap[x]? = some o := hf.plain
theorem rem_any {S : Nat → Prop} {w : World} {p : Nat} {d : Dsk} (b : Bool) (h : DskAt w S p d) (k : ByteArray) (hu : used (view (d.es b)) ≤ 16777216) :
    Calls Tryz.prog 88 #[.pointer (some ⟨p, off b, none⟩), .string k] w fun e w' => e = .returned (.tuple #[]) ∧
      ∃ es' c', view es' = Cmd.run (view (d.es b)) (.rem k) ∧ Ran S w w' p (d.put es' c' b) := by
  have htl := txt_le k (view (d.es b))
  have hmb := h.map b
  have hmp : p ≠ d.m b := fun e => by have := hmb.2; rw [← e, h.blk.2] at this; cases this
  refine (Cut.drop_walk S w p (off b) (d.m b) d.cells 61 (d.es b) (d.c b) (used (view (d.es b))) k _ (txt (view (d.es b)) k) h.blk.2 (cells_off d b) (cells_used d b) hmb.2 rfl (DskAt.file h b k) (by omega) (by omega)).mono ?_
  rintro e w' ⟨rfl, hh, ho1, ho2, ho3⟩
  refine ⟨rfl, del (d.es b) k, d.c b, view_del .., ?_⟩
  have hp2 := setCell_heap h.blk.2 (off b + 1) (.int .i64 (used (view (d.es b)) - (txt (view (d.es b)) k).length))
  refine mkRan b h (Tread.refl S w) (fun x o _ _ hb => hb) _ _ ?_ ((h.wf b).del ..) ⟨_, h.blk.2⟩ ?_ ?_ ?_ ?_ ⟨ho1, ho2, ho3⟩
  · have hg : ∀ x, S x → grow S w w x := grow_up
    have htx := (h.tx b).keep (w' := w) (S' := grow S w w) fun x o _ ha => ha.up hg
    rcases hfd : find (d.es b) k with _ | e
    · rw [del_miss k _ hfd]; exact htx
    · obtain ⟨pre, post, h1, _, h3⟩ := put_split k .nilFunc [] 0 (d.es b) e hfd
      rw [h3]
      have htx' : Texts w (grow S w w) (e :: (pre ++ post ++ d.es (!b))) := by rw [h1] at htx; exact htx.perm (perm_mid ..)
      exact htx'.tail
  · rw [hh, setBlock_ne _ _ _ _ hmp, hp2, ← cells_put, view_del]
    have hu' := used_del k (view (d.es b))
    have he : ((used (view (d.es b)) : Int) - (txt (view (d.es b)) k).length) = ((used (Fm.del (view (d.es b)) k) : Nat) : Int) := by omega
    rw [he]
  · rw [hh]
    exact setBlock_at _ _ _ (obj (d.es b) (d.c b)) (by rw [Below.heap_setCell _ _ _ _ (Ne.symm hmp)]; exact hmb.2)
  · intro x hxp hxm
    rw [hh, setBlock_ne _ _ _ _ hxm, Below.heap_setCell _ _ _ _ hxp]
  · rw [hh, setBlock_size, setCell_size]
theorem find_put_ne (j k : ByteArray) (v : Value) (t : List UInt8) (c : Nat) (hne : j ≠ k) : ∀ es : List Ent, find (Mp.put es k v t c) j = find es j
  | [] => by simp [Mp.put, find, Ne.symm hne]
  | e :: es => by
    have ih := find_put_ne j k v t c hne es
    by_cases h : e.key = k
    · have h' : ¬ e.key = j := fun x => hne (x.symm.trans h)
      rw [Mp.put, if_pos h]; simp only [find, h', if_false, Ne.symm hne]
    · rw [Mp.put, if_neg h]
      simp only [find, ih]
theorem find_del_ne (j k : ByteArray) (hne : j ≠ k) : ∀ es : List Ent, find (Mp.del es k) j = find es j
  | [] => rfl
  | e :: es => by
    have ih := find_del_ne j k hne es
    by_cases h : e.key = k
    · have h' : ¬ e.key = j := fun x => hne (x.symm.trans h)
      rw [Mp.del, if_pos h]; simp only [find, h', if_false]
    · rw [Mp.del, if_neg h]
      simp only [find, ih]
theorem put_perm (es : List Ent) (k : ByteArray) (v : Value) (t : List UInt8) (c : Nat) : ∃ b, (put es k v t c).Perm (⟨k, v, t, b⟩ :: del es k) := by
  rcases hf : find es k with _ | e
  · rw [put_miss k v t c es hf, del_miss k es hf]
    exact ⟨c, List.perm_append_comm⟩
  · obtain ⟨pre, post, _, h2, h3⟩ := put_split k v t c es e hf
    rw [h2, h3]
    exact ⟨e.born, List.perm_middle⟩
theorem del_perm (es : List Ent) (k : ByteArray) (e : Ent) (hf : find es k = some e) : es.Perm (e :: del es k) := by
  obtain ⟨pre, post, h1, _, h3⟩ := put_split k .nilFunc [] 0 es e hf
  rw [h3]
  rw [h1]
  exact List.perm_middle
theorem del_sub (es : List Ent) (k : ByteArray) : (del es k).Sublist es := by
  rcases hf : find es k with _ | e
  · rw [del_miss k es hf]; exact List.Sublist.refl _
  · obtain ⟨pre, post, h1, _, h3⟩ := put_split k .nilFunc [] 0 es e hf
    rw [h3]
    have : (pre ++ post).Sublist (pre ++ e :: post) := List.Sublist.append_left (List.sublist_cons_self e post) pre
    rw [← h1] at this; exact this
theorem Texts.sub {w : World} {S : Nat → Prop} {l l' : List Ent} (h : Texts w S l) (hs : l'.Sublist l) : Texts w S l' := ⟨fun e he => h.1 e (hs.subset he), h.2.sublist hs⟩
theorem mov_texts {w : World} {S : Nat → Prop} {es os : List Ent} (h : Texts w S (es ++ os)) (j k : ByteArray) (hne : j ≠ k) (e : Ent) (hj : find es j = some e) (c : Nat) :
    Texts w S (del (put es k e.val e.text c) j ++ os) := by
  obtain ⟨b, hp⟩ := put_perm es k e.val e.text c
  have h1 := del_perm (put es k e.val e.text c) j e ((find_put_ne j k _ _ _ hne es).trans hj)
  have h2 := del_perm (del es k) j e ((find_del_ne j k hne es).trans hj)
  have h3 : (e :: del (put es k e.val e.text c) j).Perm (e :: ⟨k, e.val, e.text, b⟩ :: del (del es k) j) :=
    (h1.symm.trans hp).trans ((h2.cons _).trans (List.Perm.swap ..))
  have h4 := h3.cons_inv
  have h5 : Texts w S (e :: (del (del es k) j ++ os)) := (Texts.sub h (List.Sublist.append_right (del_sub es k) os)).perm (h2.append_right os)
  have h6 : Texts w S (⟨k, e.val, e.text, b⟩ :: (del (del es k) j ++ os)) :=
    ⟨fun x hx => by
      rcases List.mem_cons.1 hx with rfl | hx
      · exact h5.head.1
      · exact h5.1 x (List.mem_cons_of_mem _ hx), List.pairwise_cons.2 ⟨h5.head.2, h5.tail.2⟩⟩
  exact h6.perm (h4.append_right os).symm
theorem mov_any {S : Nat → Prop} {w : World} {p : Nat} {d : Dsk} (b : Bool) (h : DskAt w S p d) (j k : ByteArray) (hok : Cmd.ok (view (d.es b)) (.mov j k)) (hu : used (view (d.es b)) ≤ 16777216) :
    Calls Tryz.prog 62 #[.pointer (some ⟨p, off b, none⟩), .string j, .string k] w fun e w' => e = .returned (.tuple #[]) ∧
      ∃ es' c', view es' = Cmd.run (view (d.es b)) (.mov j k) ∧ Ran S w w' p (d.put es' c' b) := by
  have htl := txt_le k (view (d.es b))
  obtain ⟨hne, hjs⟩ := hok
  have hjs' := hjs
  rw [get_view] at hjs'
  obtain ⟨e, he⟩ : ∃ e, find (d.es b) j = some e := by
    rcases hf : find (d.es b) j with _ | e
    · rw [hf] at hjs'; cases hjs'
    · exact ⟨e, rfl⟩
  have htj : txt (view (d.es b)) j = e.text := by unfold txt; rw [get_view, he]; rfl
  have hmb := h.map b
  have hmp : p ≠ d.m b := fun e => by have := hmb.2; rw [← e, h.blk.2] at this; cases this
  obtain ⟨a, cp, hk, _, _⟩ := (DskAt.file h b k).len
  refine (Cut.move_walk w p (off b) (d.m b) d.cells 61 (d.es b) (d.c b) (used (view (d.es b))) j k e.val _ (txt (view (d.es b)) k).length e.text h.blk.2 (cells_off d b) (cells_used d b) hmb.2 (by rw [he]; rfl) rfl a cp hk (by omega) (by omega)).mono ?_
  rintro e' w' ⟨rfl, hh, ho1, ho2, ho3⟩
  refine ⟨rfl, del (put (d.es b) k e.val e.text (d.c b)) j, clockOf (d.es b) k (d.c b), ?_, ?_⟩
  · rw [view_del, view_put, ← htj]; rfl
  have hp2 := setCell_heap h.blk.2 (off b + 1) (.int .i64 (used (view (d.es b)) - (txt (view (d.es b)) k).length))
  refine mkRan b h (Tread.refl S w) (fun x o _ _ hb => hb) _ _ ?_ (((h.wf b).put ..).del ..) ⟨_, h.blk.2⟩ ?_ ?_ ?_ ?_ ⟨ho1, ho2, ho3⟩
  · exact (mov_texts (h.tx b) j k hne e he (d.c b)).keep fun x o _ ha => ha.up grow_up
  · rw [hh, setBlock_ne _ _ _ _ hmp, setBlock_ne _ _ _ _ hmp, hp2, ← cells_put, view_del, view_put, ← htj]
    have hu' := used_mov j k (view (d.es b)) hne
    have he' : ((used (view (d.es b)) : Int) - (txt (view (d.es b)) k).length) = ((used (Fm.del (Fm.put (view (d.es b)) k (txt (view (d.es b)) j)) j) : Nat) : Int) := by omega
    rw [he']
  · rw [hh]
    refine setBlock_at _ _ _ (obj (put (d.es b) k e.val e.text (d.c b)) (clockOf (d.es b) k (d.c b))) (setBlock_at _ _ _ (obj (d.es b) (d.c b)) ?_)
    rw [Below.heap_setCell _ _ _ _ (Ne.symm hmp)]; exact hmb.2
  · intro x hxp hxm
    rw [hh, setBlock_ne _ _ _ _ hxm, setBlock_ne _ _ _ _ hxm, Below.heap_setCell _ _ _ _ hxp]
  · rw [hh, setBlock_size, setBlock_size, setCell_size]
end Go.Proofs.YtaoneiicoaiehaaGreat.Cm

namespace Go.Proofs.YtaoneiicoaiehaaGreat.Cl
set_option maxRecDepth 100000
open Go Go.RowKit Go.Lib Go.Proofs.YtaoneiicoaiehaaGreat.Mp Go.Proofs.YtaoneiicoaiehaaGreat.Dh Go.Proofs.YtaoneiicoaiehaaGreat.Ext Go.Proofs.YtaoneiicoaiehaaGreat.Bc Go.Proofs.YtaoneiicoaiehaaGreat.Fm Go.Proofs.YtaoneiicoaiehaaGreat.Dk
/-- What a call does to the files on one side of a disk. -/
def Did (S : Nat → Prop) (w w' : World) (p : Nat) (d : Dsk) (b : Bool) (c : Cmd) : Prop :=
  ∃ es' c', view es' = Cmd.run (view (d.es b)) c ∧ Ran S w w' p (d.put es' c' b)
abbrev cap1 (v : Value) : Obj := .cells #[v] 9 (0, 0)
abbrev capn (v : Value) : Obj := .cells #[v] 3 (0, 0)
theorem do_app {S : Nat → Prop} {w : World} {p : Nat} {d : Dsk} (b : Bool) (h : DskAt w S p d) (k s : ByteArray) (hok : Cmd.ok (view (d.es b)) (.app k s)) (b1 b2 : Nat) (h1 : w.heap[b1]? = some (cap1 (.string k))) (h2 : w.heap[b2]? = some (cap1 (.string s))) :
    Calls Tryz.prog 50 #[.pointer (some ⟨p, off b, none⟩), .pointer (some ⟨b1, 0, none⟩), .pointer (some ⟨b2, 0, none⟩)] w fun e w' => e = .returned (.tuple #[]) ∧ Did S w w' p d b (.app k s) := by
  have HC := Lib.hid (Cm.ext_any b h k s hok)
  have c1 : w.cell? ⟨b1, 0, none⟩ = some (.string k) := by rw [cell_of h1]; rfl
  have c2 : w.cell? ⟨b2, 0, none⟩ = some (.string s) := by rw [cell_of h2]; rfl
  clear h h1 h2 hok
  go_enter Tryz.func50, Tryz.ntmps50
  go_wp2_with (go_at_call 51; refine HC.out.mono ?_; rintro e w' ⟨rfl, hd⟩; have HD := Lib.hid hd; clear hd)
  go_end0
  exact ⟨rfl, HD.out⟩
theorem do_mov {S : Nat → Prop} {w : World} {p : Nat} {d : Dsk} (b : Bool) (h : DskAt w S p d) (j k : ByteArray) (hok : Cmd.ok (view (d.es b)) (.mov j k)) (hu : used (view (d.es b)) ≤ 16777216) (b1 b2 : Nat) (h1 : w.heap[b1]? = some (cap1 (.string j))) (h2 : w.heap[b2]? = some (cap1 (.string k))) :
    Calls Tryz.prog 61 #[.pointer (some ⟨p, off b, none⟩), .pointer (some ⟨b1, 0, none⟩), .pointer (some ⟨b2, 0, none⟩)] w fun e w' => e = .returned (.tuple #[]) ∧ Did S w w' p d b (.mov j k) := by
  have HC := Lib.hid (Cm.mov_any b h j k hok hu)
  have c1 : w.cell? ⟨b1, 0, none⟩ = some (.string j) := by rw [cell_of h1]; rfl
  have c2 : w.cell? ⟨b2, 0, none⟩ = some (.string k) := by rw [cell_of h2]; rfl
  clear h h1 h2 hok
  go_enter Tryz.func61, Tryz.ntmps61
  go_wp2_with (go_at_call 62; refine HC.out.mono ?_; rintro e w' ⟨rfl, hd⟩; have HD := Lib.hid hd; clear hd)
  go_end0
  exact ⟨rfl, HD.out⟩
theorem do_rem {S : Nat → Prop} {w : World} {p : Nat} {d : Dsk} (b : Bool) (h : DskAt w S p d) (k : ByteArray) (hu : used (view (d.es b)) ≤ 16777216) (b1 : Nat) (h1 : w.heap[b1]? = some (cap1 (.string k))) :
    Calls Tryz.prog 87 #[.pointer (some ⟨p, off b, none⟩), .pointer (some ⟨b1, 0, none⟩)] w fun e w' => e = .returned (.tuple #[]) ∧ Did S w w' p d b (.rem k) := by
  have HC := Lib.hid (Cm.rem_any b h k hu)
  have c1 : w.cell? ⟨b1, 0, none⟩ = some (.string k) := by rw [cell_of h1]; rfl
  clear h h1
  go_enter Tryz.func87, Tryz.ntmps87
  go_wp2_with (go_at_call 88; refine HC.out.mono ?_; rintro e w' ⟨rfl, hd⟩; have HD := Lib.hid hd; clear hd)
  go_end0
  exact ⟨rfl, HD.out⟩
/-- The bytes of which a torn call is done. -/
def torn (s : ByteArray) (n : Int) : ByteArray := s.extract 0 (min n s.size).toNat
theorem torn_size (s : ByteArray) (n : Int) : (torn s n).size ≤ s.size := by simp [torn]; omega
theorem do_torn {S : Nat → Prop} {w : World} {p : Nat} {d : Dsk} (b : Bool) (h : DskAt w S p d) (k s : ByteArray) (n : Int) (hn : 0 < n ∧ n ≤ 9223372036854775807) (hok : Cmd.ok (view (d.es b)) (.app k s)) (b1 b2 : Nat) (h1 : w.heap[b1]? = some (cap1 (.string k))) (h2 : w.heap[b2]? = some (cap1 (.string s))) :
    Calls Tryz.prog 52 #[.pointer (some ⟨p, off b, none⟩), .int .i64 n, .pointer (some ⟨b1, 0, none⟩), .pointer (some ⟨b2, 0, none⟩)] w fun e w' => e = .returned (.tuple #[]) ∧ Did S w w' p d b (.app k (torn s n)) := by
  have hok' : Cmd.ok (view (d.es b)) (.app k (torn s n)) := by
    have := torn_size s n
    simp only [Cmd.ok] at hok ⊢; omega
  have hsz : s.size ≤ 16777216 := by simp only [Cmd.ok] at hok; omega
  have HC := Lib.hid (Cm.ext_any b (w := w.drew) (⟨h.blk, h.now, h.sure, h.ne, h.wf1, h.wf2, h.texts⟩ : DskAt w.drew S p d) k (torn s n) hok')
  have c1 : w.drew.cell? ⟨b1, 0, none⟩ = some (.string k) := by show w.cell? _ = _; rw [cell_of h1]; rfl
  have c2 : w.drew.cell? ⟨b2, 0, none⟩ = some (.string s) := by show w.cell? _ = _; rw [cell_of h2]; rfl
  have HC0 := HC.out
  clear HC h h1 h2 hok hok'
  have HT := Lib.hid (show torn s n = s.extract 0 (min n s.size).toNat from rfl)
  unfold torn at HC0
  obtain ⟨W, hW⟩ : ∃ W, W = w.drew := ⟨_, rfl⟩
  rw [← hW] at c1 c2 HC0
  have HW := Lib.hid hW
  clear hW
  have hn1 := hn.1
  have hn2 := hn.2
  clear hn
  go_enter Tryz.func52, Tryz.ntmps52
  go_wp2
  refine wp_region_still_tail 8 (by kernel_rfl) (by kernel_rfl) ?_
  simp only [List.take_succ_cons, List.take_zero, List.drop_succ_cons, List.drop_zero]
  change wpStill _ _ w.drew _ _ _
  rw [← HW.out]
  by_cases hle : n ≤ s.size
  · have hlt : ¬ (s.size : Int) < n := by omega
    have hn0 : 0 ≤ n := by omega
    rw [show min n (s.size : Int) = n by omega] at HC0 HT
    have HC := Lib.hid HC0
    clear HC0
    repeat (with_reducible refine wpStill_step (fun K hK => ?_); go_simp; with_reducible refine hK _ ?_; clear hK K)
    with_reducible refine wpStill_nil ?_
    change wpList _ _ _ _ _ w.drew
    rw [← HW.out]
    go_wp2_with (go_at_call 51; refine HC.out.mono ?_; rintro e w' ⟨rfl, hd⟩; have HD := Lib.hid hd; clear hd)
    go_end0
    rw [HW.out] at HD
    rw [HT.out]
    obtain ⟨es', c', h1, h2⟩ := HD.out
    exact ⟨rfl, es', c', h1, h2.tread.of_drew, h2.at_, h2.plain⟩
  · have hlt : (s.size : Int) < n := by omega
    rw [show min n (s.size : Int) = s.size by omega] at HC0 HT
    have hx : s.extract 0 (s.size : Int).toNat = s := by simp
    rw [hx] at HC0 HT
    clear hx
    have HC := Lib.hid HC0
    clear HC0
    repeat (with_reducible refine wpStill_step (fun K hK => ?_); go_simp; with_reducible refine hK _ ?_; clear hK K)
    with_reducible refine wpStill_nil ?_
    change wpList _ _ _ _ _ w.drew
    rw [← HW.out]
    go_wp2_with (go_at_call 51; refine HC.out.mono ?_; rintro e w' ⟨rfl, hd⟩; have HD := Lib.hid hd; clear hd)
    go_end0
    rw [HW.out] at HD
    rw [HT.out]
    obtain ⟨es', c', h1, h2⟩ := HD.out
    exact ⟨rfl, es', c', h1, h2.tread.of_drew, h2.at_, h2.plain⟩
end Go.Proofs.YtaoneiicoaiehaaGreat.Cl

namespace Go.Proofs.YtaoneiicoaiehaaGreat.Nm
set_option maxRecDepth 100000
open Go Go.RowKit
def okByte (c : Nat) : Bool := (decide (97 ≤ c) && decide (c ≤ 122)) || (decide (48 ≤ c) && decide (c ≤ 57)) || decide (c = 46) || decide (c = 45)
def nameOk (s : ByteArray) : Bool := decide (1 ≤ s.size) && decide (s.size ≤ 64) && s.data.toList.all fun b => okByte b.toNat
theorem byte_any (c : Nat) (w : World) (hc : c < 256) :
    Calls Tryz.prog 107 #[.int .u8 c] w fun e w' => e = .returned (.bool (okByte c)) ∧ w' = w := by
  by_cases h1 : 97 ≤ c
  · by_cases h2 : c ≤ 122
    · have hv : okByte c = true := by simp [okByte, h1, h2]
      rw [hv]
      go_enter Tryz.func107, Tryz.ntmps107
      go_wp2
      go_ret
      exact ⟨rfl, rfl⟩
    · have hv : okByte c = false := by simp [okByte]; omega
      rw [hv]
      have h57 : ¬ c ≤ 57 := by omega
      have h46 : ((c : Int) == 46) = false := by simp; omega
      have h45 : ((c : Int) == 45) = false := by simp; omega
      go_enter Tryz.func107, Tryz.ntmps107
      go_wp2
      go_ret
      exact ⟨congrArg (fun b => Ending.returned (Value.bool b)) (by simp; omega), rfl⟩
  · by_cases h3 : 48 ≤ c
    · by_cases h4 : c ≤ 57
      · have hv : okByte c = true := by simp [okByte, h3, h4]
        rw [hv]
        go_enter Tryz.func107, Tryz.ntmps107
        go_wp2
        go_ret
        exact ⟨rfl, rfl⟩
      · have hv : okByte c = false := by simp [okByte]; omega
        rw [hv]
        have h46 : ((c : Int) == 46) = false := by simp; omega
        have h45 : ((c : Int) == 45) = false := by simp; omega
        go_enter Tryz.func107, Tryz.ntmps107
        go_wp2
        go_ret
        exact ⟨congrArg (fun b => Ending.returned (Value.bool b)) (by simp; omega), rfl⟩
    · by_cases h5 : c = 46
      · subst h5
        go_enter Tryz.func107, Tryz.ntmps107
        go_wp2
        go_ret
        exact ⟨rfl, rfl⟩
      · by_cases h6 : c = 45
        · subst h6
          go_enter Tryz.func107, Tryz.ntmps107
          go_wp2
          go_ret
          exact ⟨rfl, rfl⟩
        · have hv : okByte c = false := by simp [okByte]; omega
          rw [hv]
          have h46 : ((c : Int) == 46) = false := by simp; omega
          have h45 : ((c : Int) == 45) = false := by simp; omega
          go_enter Tryz.func107, Tryz.ntmps107
          go_wp2
          go_ret
          exact ⟨rfl, rfl⟩
theorem name_any (s : ByteArray) (w : World) (hs : s.size ≤ maxLen) :
    Calls Tryz.prog 79 #[.string s] w fun e w' => e = .returned (.bool (nameOk s)) ∧ w' = w := by
  unfold maxLen at hs
  by_cases h1 : s.size < 1
  · have hv : nameOk s = false := by simp [nameOk]; omega
    rw [hv]
    go_enter Tryz.func79, Tryz.ntmps79
    go_wp2
    go_ret
    exact ⟨rfl, rfl⟩
  by_cases h2 : 64 < s.size
  · have hv : nameOk s = false := by simp [nameOk]; omega
    rw [hv]
    go_enter Tryz.func79, Tryz.ntmps79
    go_wp2
    go_ret
    exact ⟨rfl, rfl⟩
  go_enter Tryz.func79, Tryz.ntmps79
  go_wp2
  go_loop [3, 14, 15, 16, 17, 18, 19, 20, 21, 22] (fun _ i _ _ _ _ _ _ _ _ => ∃ k : Nat, k ≤ s.size ∧ i = .int .i64 k ∧ (s.data.toList.take k).all (fun b => okByte b.toNat) = true)
    (fun _ i _ _ _ _ _ _ _ _ => s.size - (intOf i).toNat)
  case atStart => exact ⟨0, by omega, rfl, rfl⟩
  case round =>
    obtain ⟨k, hk, rfl, hall⟩ := hrel
    have HA := Lib.hid hall; clear hall
    have hts : k < s.size → s.data.toList.all (fun b => okByte b.toNat) = true → (∀ h : k < s.size, okByte (s[k]'h).toNat = true) := by
      intro h ha h'
      have := List.all_eq_true.1 ha (s[k]'(h')) (by
        have : s[k]'(h') = s.data.toList[k]'(by simpa using h') := rfl
        rw [this]; exact List.getElem_mem _)
      exact this
    have HT := Lib.hid hts; clear hts
    have hsz1 : 1 ≤ s.size := by omega
    by_cases hlt : k < s.size
    · have hb : (s[k]'hlt).toNat < 256 := (s[k]'hlt).toNat_lt
      cases hw : okByte (s[k]'hlt).toNat with
      | true =>
        have HW := Lib.hid hw; clear hw
        go_wp2_with fail
        refine (byte_any _ _ hb).mono ?_
        rintro e w1 ⟨rfl, rfl⟩
        go_wp2_with (simp only [HW.out])
        go_round
        case rel =>
          refine ⟨k + 1, by omega, by go_num, ?_⟩
          have hts : s.data.toList.take (k + 1) = s.data.toList.take k ++ [s[k]'hlt] := by
            rw [List.take_succ_eq_append_getElem (by simpa using hlt)]; rfl
          rw [hts, List.all_append, HA.out]
          simp [HW.out]
        case measure => simp [intOf]; omega
      | false =>
        have HW := Lib.hid hw; clear hw
        go_wp2_with fail
        refine (byte_any _ _ hb).mono ?_
        rintro e w1 ⟨rfl, rfl⟩
        rw [HW.out]
        go_wp2
        go_ret
        refine ⟨?_, rfl⟩
        have hf : s.data.toList.all (fun b => okByte b.toNat) = false := by
          rcases hx : s.data.toList.all (fun b => okByte b.toNat) with _ | _
          · rfl
          · have := HT.out hlt hx hlt
            rw [HW.out] at this; cases this
        have hn : nameOk s = false := by simp only [nameOk, hf, Bool.and_false]
        rw [hn]; rfl
    · have : k = s.size := by omega
      subst this
      go_wp2
      go_ret
      refine ⟨?_, rfl⟩
      have hf : s.data.toList.all (fun b => okByte b.toNat) = true := by
        have := HA.out
        rwa [List.take_of_length_le (by simp)] at this
      have hn : nameOk s = true := by
        simp only [nameOk, hf, Bool.and_true, Bool.and_eq_true, decide_eq_true_eq]; omega
      rw [hn]; rfl
end Go.Proofs.YtaoneiicoaiehaaGreat.Nm
namespace Go.Proofs.YtaoneiicoaiehaaGreat.Bu
set_option maxRecDepth 100000
open Go Go.RowKit Go.Lib Go.Proofs.YtaoneiicoaiehaaGreat.Mp Go.Proofs.YtaoneiicoaiehaaGreat.Dh Go.Proofs.YtaoneiicoaiehaaGreat.Fm Go.Proofs.YtaoneiicoaiehaaGreat.Dk Go.Proofs.YtaoneiicoaiehaaGreat.Nm
theorem mkSet {S : Nat → Prop} {w : World} {p : Nat} {d : Dsk} (h : DskAt w S p d) (i : Nat) (v : Value) (d' : Dsk) (hc : d.cells.setIfInBounds i v = d'.cells)
    (hs : d'.m1 = d.m1 ∧ d'.es1 = d.es1 ∧ d'.c1 = d.c1 ∧ d'.m2 = d.m2 ∧ d'.es2 = d.es2 ∧ d'.c2 = d.c2) : Ran S w (w.setCell ⟨p, i, none⟩ v) p d' := by
  obtain ⟨e1, e2, e3, e4, e5, e6⟩ := hs
  have hne : ∀ x o, At w S x o → x ≠ p → At (w.setCell ⟨p, i, none⟩ v) (grow S w (w.setCell ⟨p, i, none⟩ v)) x o := fun x o ha hx => ⟨.inl ha.1, by rw [Below.heap_setCell _ _ _ _ hx]; exact ha.2⟩
  have hm1 : d.m1 ≠ p := fun e => by have := h.now.2; rw [e, h.blk.2] at this; cases this
  have hm2 : d.m2 ≠ p := fun e => by have := h.sure.2; rw [e, h.blk.2] at this; cases this
  refine ⟨Tread.setCell _ _ _ h.blk.1, ⟨⟨.inl h.blk.1, ?_⟩, ?_, ?_, ?_, ?_, ?_, ?_⟩, ?_⟩
  · rw [setCell_heap h.blk.2, hc]
  · rw [e1, e2, e3]; exact hne _ _ h.now hm1
  · rw [e4, e5, e6]; exact hne _ _ h.sure hm2
  · rw [e1, e4]; exact h.ne
  · rw [e2, e3]; exact h.wf1
  · rw [e5, e6]; exact h.wf2
  · rw [e2, e5]
    refine h.texts.keep fun x o hxt ha => hne x o ha ?_
    rintro rfl
    obtain ⟨cs, fr, rfl⟩ := hxt
    have := ha.2
    rw [h.blk.2] at this; cases this
  · rintro x o ⟨cs, T, fr, rfl, hT1, hT2⟩ hx
    rw [Below.heap_setCell _ _ _ _ ?_]
    · exact hx
    · rintro rfl
      rw [h.blk.2] at hx; cases hx; exact hT2 rfl
theorem Ran.refl {S : Nat → Prop} {w : World} {p : Nat} {d : Dsk} (h : DskAt w S p d) : Ran S w w p d :=
  ⟨Tread.refl S w, ⟨h.blk.up grow_up, h.now.up grow_up, h.sure.up grow_up, h.ne, h.wf1, h.wf2, h.texts.keep fun _ _ _ ha => ha.up grow_up⟩, fun _ _ _ h => h⟩
theorem DskAt.up {S S' : Nat → Prop} {w : World} {p : Nat} {d : Dsk} (h : DskAt w S p d) (hs : ∀ b, S b → S' b) : DskAt w S' p d :=
  ⟨h.blk.up hs, h.now.up hs, h.sure.up hs, h.ne, h.wf1, h.wf2, h.texts.keep fun _ _ _ ha => ha.up hs⟩
theorem Ran.trans {S : Nat → Prop} {w w1 w2 : World} {p : Nat} {d1 d2 : Dsk} (h : Ran S w w1 p d1) (k : Ran (grow S w w1) w1 w2 p d2) : Ran S w w2 p d2 :=
  ⟨h.tread.trans k.tread, DskAt.up k.at_ (grow_grow h.tread.size k.tread.size), fun b o ho hb => k.plain b o ho (h.plain b o ho hb)⟩
theorem Ran.drew {S : Nat → Prop} {w w1 : World} {p : Nat} {d1 : Dsk} (h : Ran S w w1 p d1) : Ran S w w1.drew p d1 :=
  ⟨h.tread.drew, ⟨h.at_.blk, h.at_.now, h.at_.sure, h.at_.ne, h.at_.wf1, h.at_.wf2, h.at_.texts⟩, h.plain⟩
theorem Ran.of_drew {S : Nat → Prop} {w w1 : World} {p : Nat} {d1 : Dsk} (h : Ran S w.drew w1 p d1) : Ran S w w1 p d1 :=
  ⟨h.tread.of_drew, h.at_, h.plain⟩
theorem DskAt.drew {S : Nat → Prop} {w : World} {p : Nat} {d : Dsk} (h : DskAt w S p d) : DskAt w.drew S p d := ⟨h.blk, h.now, h.sure, h.ne, h.wf1, h.wf2, h.texts⟩
theorem DskAt.alloc {S : Nat → Prop} {w : World} {p : Nat} {d : Dsk} (h : DskAt w S p d) (o : Obj) : Ran S w (w.alloc o) p d :=
  ⟨Tread.alloc S w o, ⟨h.blk.alloc o, h.now.alloc o, h.sure.alloc o, h.ne, h.wf1, h.wf2, h.texts.keep fun _ _ _ ha => ha.alloc o⟩, fun b _ _ hb => (heap_alloc w o b (lt_of_at hb)).trans hb⟩
theorem DskAt.c {S : Nat → Prop} {w : World} {p : Nat} {d : Dsk} (h : DskAt w S p d) (i : Nat) : w.cell? ⟨p, i, none⟩ = d.cells[i]? := cell_of h.blk.2 i
theorem DskAt.f {S : Nat → Prop} {w : World} {p : Nat} {d : Dsk} (h : DskAt w S p d) (i : Nat) : w.frozen? ⟨p, i, none⟩ = false := free_of h.blk.2 i
def burn (d : Dsk) : Int × Dsk := if d.fuse = -1 then (0, d) else if d.fuse = 0 then (20, { d with still := true }) else (0, { d with fuse := d.fuse - 1 })
theorem burn_any {S : Nat → Prop} {w : World} {p : Nat} {d : Dsk} (h : DskAt w S p d) (hf : -1 ≤ d.fuse ∧ d.fuse ≤ 9223372036854775807) :
    Calls Tryz.prog 60 #[.pointer (some ⟨p, 0, none⟩)] w fun e w' => e = .returned (.int .i64 (burn d).1) ∧ Ran S w w' p (burn d).2 := by
  have c6 : w.cell? ⟨p, 6, none⟩ = some (.int .i64 d.fuse) := DskAt.c h 6
  have c7 : w.cell? ⟨p, 7, none⟩ = some (.bool d.still) := DskAt.c h 7
  have f6 := DskAt.f h 6
  have f7 := DskAt.f h 7
  have hf1 := hf.1
  have hf2 := hf.2
  have HR := Lib.hid (Ran.refl h)
  have HS6 := Lib.hid (mkSet h 6 (.int .i64 (d.fuse - 1)) { d with fuse := d.fuse - 1 } rfl ⟨rfl, rfl, rfl, rfl, rfl, rfl⟩)
  have HS7 := Lib.hid (mkSet h 7 (.bool true) { d with still := true } rfl ⟨rfl, rfl, rfl, rfl, rfl, rfl⟩)
  clear h hf
  unfold burn
  by_cases h1 : d.fuse = -1
  · rw [if_pos h1]
    have hb : (d.fuse == -1) = true := by simp [h1]
    have H1 := Lib.hid h1
    clear h1
    go_enter Tryz.func60, Tryz.ntmps60
    go_wp2
    go_ret
    exact ⟨rfl, HR.out⟩
  · rw [if_neg h1]
    have hb : (d.fuse == -1) = false := by simp [h1]
    by_cases h2 : d.fuse = 0
    · rw [if_pos h2]
      have hb2 : (d.fuse == 0) = true := by simp [h2]
      clear h1 h2
      go_enter Tryz.func60, Tryz.ntmps60
      go_wp2
      go_ret
      exact ⟨rfl, HS7.out⟩
    · rw [if_neg h2]
      have hb2 : (d.fuse == 0) = false := by simp [h2]
      have h3 : 1 ≤ d.fuse := by omega
      clear h1 h2
      go_enter Tryz.func60, Tryz.ntmps60
      go_wp2
      go_ret
      exact ⟨rfl, HS6.out⟩
theorem mend_any {S : Nat → Prop} {w : World} {p : Nat} {d : Dsk} (h : DskAt w S p d) :
    Calls Tryz.prog 28 #[.pointer (some ⟨p, 0, none⟩)] w fun e w' => e = .returned (.tuple #[]) ∧ Ran S w w' p { d with fuse := -1, still := false } := by
  have c6 : w.cell? ⟨p, 6, none⟩ = some (.int .i64 d.fuse) := DskAt.c h 6
  have c7 : w.cell? ⟨p, 7, none⟩ = some (.bool d.still) := DskAt.c h 7
  have f6 := DskAt.f h 6
  have f7 := DskAt.f h 7
  have s1 := mkSet h 6 (.int .i64 (-1)) { d with fuse := -1 } rfl ⟨rfl, rfl, rfl, rfl, rfl, rfl⟩
  have s2 := mkSet s1.at_ 7 (.bool false) { d with fuse := -1, still := false } rfl ⟨rfl, rfl, rfl, rfl, rfl, rfl⟩
  have HS := Lib.hid (Ran.trans s1 s2)
  clear h s1 s2
  go_enter Tryz.func28, Tryz.ntmps28
  go_wp2
  go_end0
  exact ⟨rfl, HS.out⟩
theorem ready_nil (w : World) (v : Value) :
    Calls Tryz.prog 48 #[.pointer none, v] w fun e w' => e = .returned (.int .i64 1) ∧ w' = w := by
  go_enter Tryz.func48, Tryz.ntmps48
  go_wp2
  go_ret
  exact ⟨rfl, rfl⟩
theorem ready_still {S : Nat → Prop} {w : World} {p : Nat} {d : Dsk} (h : DskAt w S p d) (hst : d.still = true) (v : Value) :
    Calls Tryz.prog 48 #[.pointer (some ⟨p, 0, none⟩), v] w fun e w' => e = .returned (.int .i64 20) ∧ w' = w := by
  have c7 : w.cell? ⟨p, 7, none⟩ = some (.bool true) := by rw [← hst]; exact DskAt.c h 7
  clear h
  go_enter Tryz.func48, Tryz.ntmps48
  go_wp2
  go_ret
  exact ⟨rfl, rfl⟩
theorem ready_none {S : Nat → Prop} {w : World} {p : Nat} {d : Dsk} (h : DskAt w S p d) (hst : d.still = false) :
    Calls Tryz.prog 48 #[.pointer (some ⟨p, 0, none⟩), .slice none 0 0] w fun e w' => e = .returned (.int .i64 0) ∧ w' = w := by
  have c7 : w.cell? ⟨p, 7, none⟩ = some (.bool false) := by rw [← hst]; exact DskAt.c h 7
  clear h
  go_enter Tryz.func48, Tryz.ntmps48
  go_wp2
  go_loop [6, 15, 16, 17, 18, 19, 20, 21, 22] (fun _ i _ _ _ _ _ _ _ => i = .int .i64 0) (fun _ _ _ _ _ _ _ _ _ => 0)
  case atStart => rfl
  case round =>
    subst hrel
    go_wp2
    go_ret
    exact ⟨rfl, rfl⟩
/-- What a row of names is answered. -/
def namesErr (l : List ByteArray) : Int := if l.all nameOk then 0 else 2
set_option maxHeartbeats 1000000 in
theorem ready_names {S : Nat → Prop} {w : World} {p : Nat} {d : Dsk} (h : DskAt w S p d) (hst : d.still = false) (l : List ByteArray) (b cap : Nat) (hc : ∀ i (hi : i < l.length), w.cell? ⟨b, i, none⟩ = some (.string l[i]))
    (hs : ∀ x ∈ l, x.size ≤ maxLen) (hl : l.length ≤ 1000) :
    Calls Tryz.prog 48 #[.pointer (some ⟨p, 0, none⟩), .slice (some ⟨b, 0, none⟩) l.length cap] w fun e w' => e = .returned (.int .i64 (namesErr l)) ∧ w' = w := by
  have c7 : w.cell? ⟨p, 7, none⟩ = some (.bool false) := by rw [← hst]; exact DskAt.c h 7
  have HC := Lib.hid hc
  have HS := Lib.hid hs
  clear h hc hs
  go_enter Tryz.func48, Tryz.ntmps48
  go_wp2
  go_loop [6, 15, 16, 17, 18, 19, 20, 21, 22] (fun _ i _ _ _ _ _ _ _ => ∃ k : Nat, k ≤ l.length ∧ i = .int .i64 k ∧ (l.take k).all nameOk = true) (fun _ i _ _ _ _ _ _ _ => l.length - (intOf i).toNat)
  case atStart => exact ⟨0, by omega, rfl, rfl⟩
  case round =>
    obtain ⟨k, hk, rfl, hall⟩ := hrel
    have HA := Lib.hid hall; clear hall
    by_cases hlt : k < l.length
    · have hcell := HC.out k hlt
      have HN := Lib.hid (fun W => name_any (l[k]'hlt) W (HS.out _ (List.getElem_mem hlt)))
      cases hw : nameOk (l[k]'hlt) with
      | true =>
        have HW := Lib.hid hw; clear hw
        go_wp2_with fail
        refine (HN.out _).mono ?_
        rintro e w1 ⟨rfl, rfl⟩
        rw [HW.out]
        go_wp2
        go_round
        case rel =>
          refine ⟨k + 1, by omega, by go_num, ?_⟩
          rw [List.take_succ_eq_append_getElem hlt, List.all_append, HA.out]
          simp [HW.out]
        case measure => simp [intOf]; omega
      | false =>
        have HW := Lib.hid hw; clear hw
        go_wp2_with fail
        refine (HN.out _).mono ?_
        rintro e w1 ⟨rfl, rfl⟩
        rw [HW.out]
        go_wp2
        go_ret
        refine ⟨?_, rfl⟩
        have hf : l.all nameOk = false := by
          rcases hx : l.all nameOk with _ | _
          · rfl
          · have := List.all_eq_true.1 hx _ (List.getElem_mem hlt)
            rw [HW.out] at this; cases this
        have hn : namesErr l = 2 := by unfold namesErr; rw [hf]; rfl
        rw [hn]; rfl
    · have : k = l.length := by omega
      subst this
      go_wp2
      go_ret
      refine ⟨?_, rfl⟩
      have hf := HA.out
      rw [List.take_length] at hf
      have hn : namesErr l = 0 := by unfold namesErr; rw [hf]; rfl
      rw [hn]; rfl
end Go.Proofs.YtaoneiicoaiehaaGreat.Bu
namespace Go.Proofs.YtaoneiicoaiehaaGreat.Ch
set_option maxRecDepth 100000
open Go Go.RowKit Go.Lib Go.Proofs.YtaoneiicoaiehaaGreat.Mp Go.Proofs.YtaoneiicoaiehaaGreat.Dh Go.Proofs.YtaoneiicoaiehaaGreat.Fm Go.Proofs.YtaoneiicoaiehaaGreat.Dk Go.Proofs.YtaoneiicoaiehaaGreat.Cl Go.Proofs.YtaoneiicoaiehaaGreat.Bu
def pt (b : Nat) : Value := .pointer (some ⟨b, 0, none⟩)
def CmdAt (w : World) (S : Nat → Prop) (dv tv : Value) : Cmd → Prop
  | .app k s => ∃ b1 b2, dv = .func (.func 50) #[] #[pt b1, pt b2] ∧ tv = .func (.func 52) #[] #[pt b1, pt b2] ∧ At w S b1 (cap1 (.string k)) ∧ At w S b2 (cap1 (.string s))
  | .cut _ _ => False
  | .mov j k => ∃ b1 b2, dv = .func (.func 61) #[] #[pt b1, pt b2] ∧ tv = .nilFunc ∧ At w S b1 (cap1 (.string j)) ∧ At w S b2 (cap1 (.string k))
  | .rem k => ∃ b1, dv = .func (.func 87) #[] #[pt b1] ∧ tv = .nilFunc ∧ At w S b1 (cap1 (.string k))
theorem plain1 (v : Value) : isPlain (cap1 v) := ⟨_, _, _, rfl, by decide, by decide⟩
theorem plainn (v : Value) : isPlain (capn v) := ⟨_, _, _, rfl, by decide, by decide⟩
theorem CmdAt.keep {w w' : World} {S S' : Nat → Prop} {dv tv : Value} {c : Cmd} (h : CmdAt w S dv tv c) (hk : ∀ b v, (At w S b (cap1 v) → At w' S' b (cap1 v)) ∧ (At w S b (capn v) → At w' S' b (capn v))) : CmdAt w' S' dv tv c := by
  cases c with
  | app k s => obtain ⟨b1, b2, e1, e2, h1, h2⟩ := h; exact ⟨b1, b2, e1, e2, (hk _ _).1 h1, (hk _ _).1 h2⟩
  | cut k n => exact h.elim
  | mov j k => obtain ⟨b1, b2, e1, e2, h1, h2⟩ := h; exact ⟨b1, b2, e1, e2, (hk _ _).1 h1, (hk _ _).1 h2⟩
  | rem k => obtain ⟨b1, e1, e2, h1⟩ := h; exact ⟨b1, e1, e2, (hk _ _).1 h1⟩
def EntersC (f : FuncId) : Prop := ∀ (args : Array Value) (W : World), (callFunc f args).run Tryz.prog W = .ok (.enter f args) W
/-- The call as its closure does it, to the files on one side. -/
theorem do_cmd {S : Nat → Prop} {w : World} {p : Nat} {d : Dsk} (b : Bool) (h : DskAt w S p d) (c : Cmd) (hok : Cmd.ok (view (d.es b)) c) (hu : used (view (d.es b)) ≤ 16777216) {dv tv : Value} (hc : CmdAt w S dv tv c) :
    ∃ f caps, dv = .func (.func f) #[] caps ∧ EntersC f ∧ Calls Tryz.prog f (#[.pointer (some ⟨p, off b, none⟩)] ++ caps) w fun e w' => e = .returned (.tuple #[]) ∧ Did S w w' p d b c := by
  cases c with
  | app k s => obtain ⟨b1, b2, rfl, _, h1, h2⟩ := hc; exact ⟨_, _, rfl, fun _ _ => by go_simp, do_app b h k s hok b1 b2 h1.2 h2.2⟩
  | cut k n => exact hc.elim
  | mov j k => obtain ⟨b1, b2, rfl, _, h1, h2⟩ := hc; exact ⟨_, _, rfl, fun _ _ => by go_simp, do_mov b h j k hok hu b1 b2 h1.2 h2.2⟩
  | rem k => obtain ⟨b1, rfl, _, h1⟩ := hc; exact ⟨_, _, rfl, fun _ _ => by go_simp, do_rem b h k hu b1 h1.2⟩
def LooseAt (w : World) (S : Nat → Prop) (lv : Value) (l : List Cmd) : Prop :=
  (lv = .slice none 0 0 ∧ l = []) ∨
  ∃ b cap cs, lv = .slice (some ⟨b, 0, none⟩) l.length cap ∧ At w S b (.cells cs 85 (0, 0)) ∧ l.length ≤ cap ∧ cap ≤ maxLen ∧ cs.size = cap * 2 ∧
    ∀ i (h : i < l.length), ∃ dv tv, cs[i * 2]? = some dv ∧ cs[i * 2 + 1]? = some tv ∧ CmdAt w S dv tv l[i]
theorem LooseAt.keep {w w' : World} {S S' : Nat → Prop} {lv : Value} {l : List Cmd} (h : LooseAt w S lv l) (hk : ∀ b o, isPlain o → At w S b o → At w' S' b o) : LooseAt w' S' lv l := by
  rcases h with h | ⟨b, cap, cs, e1, h1, h2, h3, h4, h5⟩
  · exact .inl h
  · refine .inr ⟨b, cap, cs, e1, hk _ _ ⟨_, _, _, rfl, by decide, by decide⟩ h1, h2, h3, h4, fun i hi => ?_⟩
    obtain ⟨dv, tv, x1, x2, x3⟩ := h5 i hi
    exact ⟨dv, tv, x1, x2, x3.keep fun b v => ⟨hk _ _ (plain1 v), hk _ _ (plainn v)⟩⟩
theorem Ran.keepPlain {S : Nat → Prop} {w w' : World} {p : Nat} {d : Dsk} (h : Ran S w w' p d) : ∀ b o, isPlain o → At w S b o → At w' (grow S w w') b o := fun b o ho ha => ⟨.inl ha.1, h.plain b o ho ha.2⟩
theorem change_down {S : Nat → Prop} {w : World} {p : Nat} {d : Dsk} (h : DskAt w S p d) (hf : -1 ≤ d.fuse ∧ d.fuse ≤ 9223372036854775807) (dv tv : Value) (hb : (burn d).1 = 20) :
    Calls Tryz.prog 49 #[.pointer (some ⟨p, 0, none⟩), .agg #[dv, tv]] w fun e w' => e = .returned (.int .i64 20) ∧ Ran S w w' p (burn d).2 := by
  have ra := DskAt.alloc h (.cells #[dv, tv] 85)
  have HB := burn_any ra.at_ hf
  rw [hb] at HB
  have HC := Lib.hid HB
  have HR := Lib.hid ra
  clear HB h ra hb
  go_enter Tryz.func49, Tryz.ntmps49
  go_wp2_with (go_at_call 60; refine HC.out.mono ?_; rintro e w1 ⟨rfl, hr⟩; have HD := Lib.hid hr; clear hr)
  go_ret
  exact ⟨rfl, Ran.trans HR.out HD.out⟩
end Go.Proofs.YtaoneiicoaiehaaGreat.Ch

namespace Go.Proofs.YtaoneiicoaiehaaGreat.La
set_option maxRecDepth 100000
open Go Go.RowKit Go.Lib Go.Proofs.YtaoneiicoaiehaaGreat.Mp Go.Proofs.YtaoneiicoaiehaaGreat.Dh Go.Proofs.YtaoneiicoaiehaaGreat.Fm Go.Proofs.YtaoneiicoaiehaaGreat.Dk Go.Proofs.YtaoneiicoaiehaaGreat.Cl Go.Proofs.YtaoneiicoaiehaaGreat.Bu Go.Proofs.YtaoneiicoaiehaaGreat.Ch
theorem undCs : Tryz.prog.underlying 59 = some (.slice 85) := by kernel_rfl
theorem infoC : (Tryz.prog.info? 85).map (fun i => (i.zero, i.size, i.bytes)) = some (some (.agg #[.nilFunc, .nilFunc]), 2, 16) := by kernel_rfl
def isLoose (o : Obj) : Prop := ∃ cs fr, o = .cells cs 85 fr
structure LAppended (S : Nat → Prop) (w w' : World) (v' : Value) (l' : List Cmd) : Prop where
  tread : Tread S w w'
  loose : LooseAt w' (grow S w w') v' l'
  plain : ∀ (b : Nat) (o : Obj), ¬ isLoose o → w.heap[b]? = some o → w'.heap[b]? = some o
theorem LAppended.of_drew {S : Nat → Prop} {w w' : World} {v' : Value} {l' : List Cmd} (h : LAppended S w.drew w' v' l') : LAppended S w w' v' l' := ⟨h.tread.of_drew, h.loose, h.plain⟩
theorem entries_snoc {w : World} {S : Nat → Prop} (cs : List Value) (l : List Cmd) (c : Cmd) (dv tv : Value) (rest : List Value) (hcs : l.length * 2 ≤ cs.length)
    (h5 : ∀ i (h : i < l.length), ∃ dv tv, cs[i * 2]? = some dv ∧ cs[i * 2 + 1]? = some tv ∧ CmdAt w S dv tv l[i]) (hc : CmdAt w S dv tv c) :
    ∀ i (h : i < (l ++ [c]).length), ∃ dv' tv', (cs.take (l.length * 2) ++ [dv, tv] ++ rest)[i * 2]? = some dv' ∧ (cs.take (l.length * 2) ++ [dv, tv] ++ rest)[i * 2 + 1]? = some tv' ∧ CmdAt w S dv' tv' (l ++ [c])[i] := by
  intro i hi
  have hlt : (cs.take (l.length * 2)).length = l.length * 2 := by simp; omega
  by_cases hil : i < l.length
  · obtain ⟨d', t', h1, h2, h3⟩ := h5 i hil
    refine ⟨d', t', ?_, ?_, ?_⟩
    · rw [List.append_assoc, List.getElem?_append_left (by rw [hlt]; omega), List.getElem?_take, if_pos (by omega)]; exact h1
    · rw [List.append_assoc, List.getElem?_append_left (by rw [hlt]; omega), List.getElem?_take, if_pos (by omega)]; exact h2
    · rw [List.getElem_append_left hil]; exact h3
  · have hie : i = l.length := by simp at hi; omega
    subst hie
    refine ⟨dv, tv, ?_, ?_, ?_⟩
    · rw [List.append_assoc, List.getElem?_append_right (by rw [hlt]; exact Nat.le_refl _), hlt]; simp
    · rw [List.append_assoc, List.getElem?_append_right (by rw [hlt]; omega), hlt]
      rw [show l.length * 2 + 1 - l.length * 2 = 1 by omega]; rfl
    · simpa using hc
theorem CmdAt.one {w : World} {S : Nat → Prop} {dv tv : Value} {c : Cmd} (h : CmdAt w S dv tv c) : ∀ u ∈ [dv, tv], u.oneCell' = true := by
  intro u hu
  simp only [List.mem_cons, List.not_mem_nil, or_false] at hu
  cases c with
  | app k s => obtain ⟨b1, b2, rfl, rfl, _⟩ := h; rcases hu with rfl | rfl <;> rfl
  | cut k n => exact h.elim
  | mov j k => obtain ⟨b1, b2, rfl, rfl, _⟩ := h; rcases hu with rfl | rfl <;> rfl
  | rem k => obtain ⟨b1, rfl, rfl, _⟩ := h; rcases hu with rfl | rfl <;> rfl
theorem cap_not (v : Value) : ¬ isLoose (cap1 v) ∧ ¬ isLoose (capn v) := ⟨fun ⟨_, _, h⟩ => (by cases h), fun ⟨_, _, h⟩ => (by cases h)⟩
theorem run_append_loose (S : Nat → Prop) (w : World) (ty : TypeId) (lv : Value) (l : List Cmd) (c : Cmd) (dv tv : Value) (nb : Nat) (hl : LooseAt w S lv l) (hn : w.heap[nb]? = some (.cells #[dv, tv] 85 (0, 0)))
    (hc : CmdAt w S dv tv c) (hlen : l.length ≤ 1099511627776) :
    ∃ v' w', (Builtin.append_ #[59, 59] ty #[lv, .slice (some ⟨nb, 0, none⟩) 1 1]).run Tryz.prog w = .ok v' w' ∧ LAppended S w w' v' (l ++ [c]) := by
  obtain ⟨i, hi, hz0, hz1, hz2⟩ := info_parts infoC
  have hnews : ∀ j u, [dv, tv][j]? = some u → w.cell? ((⟨nb, 0, none⟩ : Addr).add j) = some u := by
    intro j u hj
    have : Addr.add ⟨nb, 0, none⟩ j = ⟨nb, j, none⟩ := by cases j <;> simp [Addr.add]
    rw [this, cell_of hn]; simpa using hj
  have h1 := CmdAt.one hc
  have hzc : (Value.agg #[Value.nilFunc, Value.nilFunc]).cells.size = 2 := rfl
  rcases hl with ⟨rfl, rfl⟩ | ⟨b, cap, cs, rfl, ha, h2, h3, h4, h5⟩
  · have hr := run_append_nil (P := Tryz.prog) w 59 ty 85 i _ undCs hi hz0 ⟨nb, 0, none⟩ 1 1 [dv, tv] (by rw [hz1]; rfl) hnews (by omega) (by omega) (by rw [hz2]; omega)
    have hge := grownCap_ge w 1 0 85
    have hcm := grownCap_le_maxLen w 1 0 85 (by unfold maxLen; omega)
    have hg : ∀ b, b < w.heap.size → (w.drew.alloc (.cells ([dv, tv].toArray ++ Builtin.zeroCells (Value.agg #[.nilFunc, .nilFunc]).cells (grownCap w 1 0 85 - 1)) 85)).heap[b]? = w.heap[b]? := fun b hb => heap_alloc w.drew _ b hb
    refine ⟨_, _, hr, (Tread.alloc S w.drew _).of_drew, .inr ⟨w.heap.size, _, _, rfl, ⟨.inr ⟨Nat.le_refl _, by rw [size_alloc]; exact Nat.lt_succ_self _⟩, heap_new w.drew _⟩, hge, hcm, ?_, ?_⟩, fun b o _ hb => (hg b (lt_of_at hb)).trans hb⟩
    · simp only [Array.size_append, List.size_toArray, size_zeroCells, hzc, List.length_cons, List.length_nil]; omega
    · have hc' : CmdAt (w.drew.alloc (.cells ([dv, tv].toArray ++ Builtin.zeroCells (Value.agg #[.nilFunc, .nilFunc]).cells (grownCap w 1 0 85 - 1)) 85)) (grow S w (w.drew.alloc (.cells ([dv, tv].toArray ++ Builtin.zeroCells (Value.agg #[.nilFunc, .nilFunc]).cells (grownCap w 1 0 85 - 1)) 85))) dv tv c :=
        hc.keep fun b v => ⟨fun h => ⟨.inl h.1, (hg b (lt_of_at h.2)).trans h.2⟩, fun h => ⟨.inl h.1, (hg b (lt_of_at h.2)).trans h.2⟩⟩
      have := entries_snoc [] [] c dv tv (Builtin.zeroCells (Value.agg #[.nilFunc, .nilFunc]).cells (grownCap w 1 0 85 - 1)).toList (by simp) (fun i h => by simp at h) hc'
      intro i hi
      obtain ⟨d', t', x1, x2, x3⟩ := this i hi
      refine ⟨d', t', ?_, ?_, x3⟩
      · rw [← Array.getElem?_toList, Array.toList_append]; simpa using x1
      · rw [← Array.getElem?_toList, Array.toList_append]; simpa using x2
  · have h5' : ∀ i (h : i < l.length), ∃ dv tv, cs.toList[i * 2]? = some dv ∧ cs.toList[i * 2 + 1]? = some tv ∧ CmdAt w S dv tv l[i] := fun i hi => by
      obtain ⟨d', t', x1, x2, x3⟩ := h5 i hi
      exact ⟨d', t', by rw [Array.getElem?_toList]; exact x1, by rw [Array.getElem?_toList]; exact x2, x3⟩
    by_cases hroom : l.length + 1 ≤ cap
    · have hr := run_append_room (P := Tryz.prog) w 59 ty 85 i undCs hi b l.length cap cs ha.2 ⟨nb, 0, none⟩ 1 1 [dv, tv] (by rw [hz1]; rfl) hnews h1 hroom (by rw [hz1]; simp; omega)
      rw [hz1] at hr
      have hpl : ∀ x o, ¬ isLoose o → w.heap[x]? = some o → (w.setRow b (cs.toList.take (l.length * 2) ++ [dv, tv] ++ cs.toList.drop (l.length * 2 + [dv, tv].length)).toArray).heap[x]? = some o := fun x o ho hx => by
        rw [setRow_other w b x _ (fun e => ho ⟨cs, (0, 0), by subst e; rw [ha.2] at hx; cases hx; rfl⟩)]; exact hx
      have hk : ∀ x v, (At w S x (cap1 v) → At (w.setRow b (cs.toList.take (l.length * 2) ++ [dv, tv] ++ cs.toList.drop (l.length * 2 + [dv, tv].length)).toArray) (grow S w (w.setRow b (cs.toList.take (l.length * 2) ++ [dv, tv] ++ cs.toList.drop (l.length * 2 + [dv, tv].length)).toArray)) x (cap1 v)) ∧
          (At w S x (capn v) → At (w.setRow b (cs.toList.take (l.length * 2) ++ [dv, tv] ++ cs.toList.drop (l.length * 2 + [dv, tv].length)).toArray) (grow S w (w.setRow b (cs.toList.take (l.length * 2) ++ [dv, tv] ++ cs.toList.drop (l.length * 2 + [dv, tv].length)).toArray)) x (capn v)) :=
        fun x v => ⟨fun h => ⟨.inl h.1, hpl _ _ (cap_not v).1 h.2⟩, fun h => ⟨.inl h.1, hpl _ _ (cap_not v).2 h.2⟩⟩
      refine ⟨_, _, hr, ⟨rfl, rfl, rfl, by simp, fun k _ hk => setRow_other w b k _ (fun e => hk (e ▸ ha.1))⟩, .inr ⟨b, cap, _, by simp, ⟨.inl ha.1, setRow_heap w b cs _ _ _ ha.2⟩, by simp; omega, h3, ?_, ?_⟩, hpl⟩
      · simp; omega
      · have := entries_snoc (w := w) (S := S) cs.toList l c dv tv (cs.toList.drop (l.length * 2 + [dv, tv].length)) (by simp; omega) h5' hc
        intro i hi
        obtain ⟨d', t', x1, x2, x3⟩ := this i hi
        exact ⟨d', t', by simpa using x1, by simpa using x2, x3.keep hk⟩
    · have holds : ∀ j u, (cs.toList.take (l.length * 2))[j]? = some u → w.cell? ((⟨b, 0, none⟩ : Addr).add j) = some u := by
        intro j u hj
        have : Addr.add ⟨b, 0, none⟩ j = ⟨b, j, none⟩ := by cases j <;> simp [Addr.add]
        rw [this, cell_of ha.2]
        rw [List.getElem?_take] at hj
        by_cases hl : j < l.length * 2
        · rw [if_pos hl] at hj; simpa using hj
        · rw [if_neg hl] at hj; cases hj
      have hr := run_append_grow (P := Tryz.prog) w 59 ty 85 i _ undCs hi hz0 ⟨b, 0, none⟩ l.length cap (cs.toList.take (l.length * 2)) (by rw [hz1]; simp; omega) holds ⟨nb, 0, none⟩ 1 1 [dv, tv] (by rw [hz1]; rfl) hnews (by omega) (by omega) (by rw [hz2]; exact growslice_fits (by omega) (by omega))
      have hge := grownCap_ge w (l.length + 1) cap 85
      have hcm := grownCap_le_maxLen w (l.length + 1) cap 85 (by unfold maxLen; omega)
      obtain ⟨X, hX⟩ : ∃ X, X = (cs.toList.take (l.length * 2)).toArray ++ [dv, tv].toArray ++ Builtin.zeroCells (Value.agg #[.nilFunc, .nilFunc]).cells (grownCap w (l.length + 1) cap 85 - (l.length + 1)) := ⟨_, rfl⟩
      rw [← hX] at hr
      have hg : ∀ b, b < w.heap.size → (w.drew.alloc (.cells X 85)).heap[b]? = w.heap[b]? := fun b hb => heap_alloc w.drew _ b hb
      have hk : ∀ x v, (At w S x (cap1 v) → At (w.drew.alloc (.cells X 85)) (grow S w (w.drew.alloc (.cells X 85))) x (cap1 v)) ∧ (At w S x (capn v) → At (w.drew.alloc (.cells X 85)) (grow S w (w.drew.alloc (.cells X 85))) x (capn v)) :=
        fun x v => ⟨fun h => ⟨.inl h.1, (hg x (lt_of_at h.2)).trans h.2⟩, fun h => ⟨.inl h.1, (hg x (lt_of_at h.2)).trans h.2⟩⟩
      refine ⟨_, _, hr, (Tread.alloc S w.drew _).of_drew, .inr ⟨w.heap.size, _, X, by simp, ⟨.inr ⟨Nat.le_refl _, by rw [size_alloc]; exact Nat.lt_succ_self _⟩, heap_new w.drew _⟩, by simpa using hge, hcm, ?_, ?_⟩, fun b o _ hb => (hg b (lt_of_at hb)).trans hb⟩
      · rw [hX]; simp only [Array.size_append, List.size_toArray, size_zeroCells, hzc, List.length_cons, List.length_nil, List.length_take, Array.length_toList]; omega
      · have := entries_snoc (w := w) (S := S) cs.toList l c dv tv (Builtin.zeroCells (Value.agg #[.nilFunc, .nilFunc]).cells (grownCap w (l.length + 1) cap 85 - (l.length + 1))).toList (by simp; omega) h5' hc
        intro i hi
        obtain ⟨d', t', x1, x2, x3⟩ := this i hi
        refine ⟨d', t', ?_, ?_, x3.keep hk⟩
        · rw [hX, ← Array.getElem?_toList]; simpa using x1
        · rw [hX, ← Array.getElem?_toList]; simpa using x2
end Go.Proofs.YtaoneiicoaiehaaGreat.La

namespace Go.Proofs.YtaoneiicoaiehaaGreat.Co
set_option maxRecDepth 100000
open Go Go.RowKit Go.Lib Go.Proofs.YtaoneiicoaiehaaGreat.Mp Go.Proofs.YtaoneiicoaiehaaGreat.Dh Go.Proofs.YtaoneiicoaiehaaGreat.Fm Go.Proofs.YtaoneiicoaiehaaGreat.Dk Go.Proofs.YtaoneiicoaiehaaGreat.Cl Go.Proofs.YtaoneiicoaiehaaGreat.Bu Go.Proofs.YtaoneiicoaiehaaGreat.Ch Go.Proofs.YtaoneiicoaiehaaGreat.La
theorem wpList_append_loose (w : World) {ops : Array Oper} {rest : List Oper} {o : Oper} {a : Act} {Q : Exit → Act → World → Prop} (hg : o.guard = none) (s x : Operand)
    (hop : o.op = Op.call { callee := Callee.builtin Builtin.append, args := #[s, x], argTypes := #[59, 59] })
    (S : Nat → Prop) (lv : Value) (l : List Cmd) (c : Cmd) (dv tv : Value) (nb : Nat) (hs : a.eval s = lv) (hx : a.eval x = .slice (some ⟨nb, 0, none⟩) 1 1) (hl : LooseAt w S lv l) (hn : w.heap[nb]? = some (.cells #[dv, tv] 85 (0, 0)))
    (hc : CmdAt w S dv tv c) (hlen : l.length ≤ 1099511627776)
    (hK : ∀ v' w', LAppended S w w' v' (l ++ [c]) → wpList Tryz.prog ops Q rest (a.put o.dst v') w') : wpList Tryz.prog ops Q (o :: rest) a w := by
  refine wpList_plain hg fun K' hK' => ?_
  obtain ⟨v', w', hrun, happ⟩ := run_append_loose S w o.type lv l c dv tv nb hl hn hc hlen
  unfold Oper.wp
  simp [execOp, hop, resolve, invoke, builtin, hs, hx, hrun, Result.andThen]
  exact hK' _ _ (hK _ _ happ)
theorem step_append_loose {ops : Array Oper} {o : Oper} {a : Act} {w : World} {K : Act → World → Prop} {Q : Exit → Act → World → Prop} {E : Prop}
    (hg : o.guard = none) (s x : Operand) (hop : o.op = Op.call { callee := Callee.builtin Builtin.append, args := #[s, x], argTypes := #[59, 59] })
    (S : Nat → Prop) (lv : Value) (l : List Cmd) (c : Cmd) (dv tv : Value) (nb : Nat) (hs : a.eval s = lv) (hx : a.eval x = .slice (some ⟨nb, 0, none⟩) 1 1) (hl : LooseAt w S lv l) (hn : w.heap[nb]? = some (.cells #[dv, tv] 85 (0, 0)))
    (hc : CmdAt w S dv tv c) (hlen : l.length ≤ 1099511627776)
    (hK : ∀ v' w', LAppended S w w' v' (l ++ [c]) → K (a.put o.dst v') w') :
    if Region.wanted o (yielded ops a.tmps) = true then Oper.wp Tryz.prog o a w K Q else E := by
  have hw : Region.wanted o (yielded ops a.tmps) = true := by simp [Region.wanted, hg]
  rw [if_pos hw]
  obtain ⟨v', w', hrun, happ⟩ := run_append_loose S w o.type lv l c dv tv nb hl hn hc hlen
  unfold Oper.wp
  simp [execOp, hop, resolve, invoke, builtin, hs, hx, hrun, Result.andThen]
  exact hK _ _ happ
theorem LooseAt.shape {w : World} {S : Nat → Prop} {lv : Value} {l : List Cmd} (h : LooseAt w S lv l) : ∃ a c, lv = .slice a l.length c := by
  rcases h with ⟨rfl, rfl⟩ | ⟨b, cap, cs, rfl, _⟩
  · exact ⟨_, _, rfl⟩
  · exact ⟨_, _, rfl⟩
theorem LooseAt.shape1 {w : World} {S : Nat → Prop} {lv : Value} {l : List Cmd} {x : Cmd} (h : LooseAt w S lv (l ++ [x])) : ∃ a c, lv = .slice a (l.length + 1) c := by
  obtain ⟨a, c, e⟩ := LooseAt.shape h
  exact ⟨a, c, by rw [e]; simp⟩
/-- What a call of the disk leaves: the disk, and the loose calls. -/
structure Leaves (S : Nat → Prop) (w w' : World) (p : Nat) (d : Dsk) (l : List Cmd) : Prop where
  tread : Tread S w w'
  at_ : DskAt w' (grow S w w') p d
  loose : LooseAt w' (grow S w w') d.lv l
theorem DskAt.keepNot {S S' : Nat → Prop} {w w' : World} {p : Nat} {d : Dsk} (h : DskAt w S p d) (hk : ∀ b o, ¬ isLoose o → At w S b o → At w' S' b o) : DskAt w' S' p d :=
  ⟨hk _ _ (fun ⟨_, _, e⟩ => by cases e) h.blk, hk _ _ (fun ⟨_, _, e⟩ => by cases e) h.now, hk _ _ (fun ⟨_, _, e⟩ => by cases e) h.sure, h.ne, h.wf1, h.wf2,
    h.texts.keep fun b o ⟨cs, fr, e⟩ ha => hk b o (fun ⟨_, _, e'⟩ => by rw [e] at e'; cases e') ha⟩
theorem leaves_of {S : Nat → Prop} {w W3 w4 : World} {p : Nat} {d2 : Dsk} {v' : Value} {l' : List Cmd} (R3 : Ran S w W3 p d2) (happ : LAppended (grow S w W3) W3 w4 v' l') :
    Leaves S w (w4.setCell ⟨p, 5, none⟩ v') p { d2 with lv := v' } l' ∧ w4.cell? ⟨p, 5, none⟩ = some d2.lv ∧ w4.frozen? ⟨p, 5, none⟩ = false := by
  have k4 : DskAt w4 (grow (grow S w W3) W3 w4) p d2 := DskAt.keepNot R3.at_ fun b o ho ha => ⟨.inl ha.1, happ.plain b o ho ha.2⟩
  have R5 := mkSet k4 5 v' { d2 with lv := v' } rfl ⟨rfl, rfl, rfl, rfl, rfl, rfl⟩
  have hg : ∀ b, grow (grow (grow S w W3) W3 w4) w4 (w4.setCell ⟨p, 5, none⟩ v') b → grow S w (w4.setCell ⟨p, 5, none⟩ v') b := fun b hb =>
    grow_grow (Nat.le_trans R3.tread.size happ.tread.size) R5.tread.size b (by
      rcases hb with hb | hb
      · exact .inl (grow_grow R3.tread.size happ.tread.size b hb)
      · exact .inr hb)
  refine ⟨⟨?_, DskAt.up R5.at_ hg, ?_⟩, ?_, ?_⟩
  · exact R3.tread.trans (happ.tread.trans R5.tread)
  · have := happ.loose.keep (Ch.Ran.keepPlain R5)
    exact LooseAt.keep this fun b o _ ha => ha.up hg
  · exact DskAt.c k4 5
  · exact DskAt.f k4 5
set_option maxHeartbeats 1000000 in
theorem change_ok {S : Nat → Prop} {w : World} {p : Nat} {d : Dsk} (h : DskAt w S p d) (hf : -1 ≤ d.fuse ∧ d.fuse ≤ 9223372036854775807) (dv tv : Value) (hb : (burn d).1 = 0)
    (c : Cmd) (hc : CmdAt w S dv tv c) (hok : Cmd.ok (view d.es1) c) (hu : used (view d.es1) ≤ 16777216) (l : List Cmd) (hl : LooseAt w S d.lv l) (hlen : l.length ≤ 1099511627776) :
    Calls Tryz.prog 49 #[.pointer (some ⟨p, 0, none⟩), .agg #[dv, tv]] w fun e w' => e = .returned (.int .i64 0) ∧
      ∃ es' c' v', view es' = Cmd.run (view d.es1) c ∧ Leaves S w w' p { (burn d).2 with es1 := es', c1 := c', lv := v' } (l ++ [c]) := by
  obtain ⟨d1, hd1⟩ : ∃ d1, d1 = (burn d).2 := ⟨_, rfl⟩
  have hbs : d1.es1 = d.es1 ∧ d1.lv = d.lv := by
    rw [hd1]; unfold burn; split
    · exact ⟨rfl, rfl⟩
    · split <;> exact ⟨rfl, rfl⟩
  have ra := DskAt.alloc h (.cells #[dv, tv] 85)
  have HB := burn_any ra.at_ hf
  rw [hb, ← hd1] at HB
  have HC := Lib.hid HB
  have HR := Lib.hid ra
  rw [← hd1]
  have HN := Lib.hid (heap_new w (.cells #[dv, tv] 85))
  have hcd := hc
  have HD : Hid (∀ (W : World) (S' : Nat → Prop), DskAt W S' p d1 → CmdAt W S' dv tv c → ∃ f caps, dv = .func (.func f) #[] caps ∧ EntersC f ∧ Calls Tryz.prog f (#[.pointer (some ⟨p, off true, none⟩)] ++ caps) W fun e w' => e = .returned (.tuple #[]) ∧ Did S' W w' p d1 true c) :=
    Lib.hid fun W S' h1 h2 => do_cmd true h1 c (by show Cmd.ok (view d1.es1) c; rw [hbs.1]; exact hok) (by show used (view d1.es1) ≤ _; rw [hbs.1]; exact hu) h2
  clear HB
  obtain ⟨f, caps, hdv, _⟩ := do_cmd true h c hok hu hc
  have HE := Lib.hid (show f = f ∧ dv = .func (.func f) #[] caps from ⟨rfl, hdv⟩)
  subst hdv
  have HH := Lib.hid h
  have HK := Lib.hid hc
  have HL := Lib.hid hl
  have HX := Lib.hid hd1
  clear h hb ra hcd hc hl hd1 hbs
  go_enter Tryz.func49, Tryz.ntmps49
  go_wp2_with fail
  refine HC.out.mono ?_
  rintro e w1 ⟨rfl, hr⟩
  have HQ := Lib.hid (Ran.trans HR.out hr)
  have HP := Lib.hid hr
  have hcell := (hr.plain _ _ ⟨_, _, _, rfl, by decide, by decide⟩ HN.out)
  have k0 : w1.drew.cell? ⟨w.heap.size, 0, none⟩ = some (.func (.func f) #[] caps) := (cell_of hcell 0)
  obtain ⟨W1, hW1⟩ : ∃ W1, W1 = w1.drew := ⟨_, rfl⟩
  have HW1 := Lib.hid hW1
  rw [← hW1] at k0
  clear hW1
  have HCL := Lib.hid hcell
  clear hr hcell
  go_wp2
  refine wp_region_still_tail 5 (by kernel_rfl) (by kernel_rfl) ?_
  simp only [List.take_succ_cons, List.take_zero, List.drop_succ_cons, List.drop_zero]
  change wpStill _ _ w1.drew _ _ _
  rw [← HW1.out]
  repeat (with_reducible refine wpStill_step (fun K hK => ?_); go_simp; with_reducible refine hK _ ?_; clear hK K)
  with_reducible refine wpStill_nil ?_
  change wpList _ _ _ _ _ w1.drew
  rw [← HW1.out]
  go_wp2_with fail
  obtain ⟨f', caps', hfe, hent, hcall⟩ := HD.out W1 (grow S w w1) (by rw [HW1.out]; exact (Bu.DskAt.drew HQ.out.at_)) (by
    rw [HW1.out]
    exact HK.out.keep fun b v => ⟨fun ha => (Ch.Ran.keepPlain HP.out b _ (plain1 v) (ha.alloc _)).up (grow_grow (by rw [size_alloc]; omega) HP.out.tread.size), fun ha => (Ch.Ran.keepPlain HP.out b _ (plainn v) (ha.alloc _)).up (grow_grow (by rw [size_alloc]; omega) HP.out.tread.size)⟩)
  obtain ⟨rfl, rfl⟩ : f = f' ∧ caps = caps' := by cases hfe; exact ⟨rfl, rfl⟩
  rw [hent, Oper.upon_enter]
  refine hcall.mono ?_
  rintro e w2 ⟨rfl, hdid⟩
  obtain ⟨es', c', hview, hran⟩ := hdid
  have R2 : Ran S w w2 p { d1 with es1 := es', c1 := c' } := by
    rw [HW1.out] at hran
    exact Ran.trans HQ.out (Bu.Ran.of_drew hran)
  have hxx : d1.es1 = d.es1 ∧ d1.lv = d.lv := by
    rw [HX.out]; unfold burn; split
    · exact ⟨rfl, rfl⟩
    · split <;> exact ⟨rfl, rfl⟩
  have hview' : view es' = Cmd.run (view d.es1) c := by rw [hview]; show Cmd.run (view d1.es1) c = _; rw [hxx.1]
  obtain ⟨W3, hW3⟩ : ∃ W3, W3 = w2.drew.alloc (.cells #[.func (.func f) #[] caps, tv] 85) := ⟨_, rfl⟩
  have R3 : Ran S w W3 p { d1 with es1 := es', c1 := c' } := by
    rw [hW3]; exact Ran.trans (Ran.drew R2) (DskAt.alloc (Ran.drew R2).at_ _)
  have hl3 : LooseAt W3 (grow S w W3) d.lv l := HL.out.keep (Ch.Ran.keepPlain R3)
  have hc3 : CmdAt W3 (grow S w W3) (.func (.func f) #[] caps) tv c := HK.out.keep fun b v => ⟨Ch.Ran.keepPlain R3 b _ (plain1 v), Ch.Ran.keepPlain R3 b _ (plainn v)⟩
  have hn3 : W3.heap[w2.heap.size]? = some (.cells #[.func (.func f) #[] caps, tv] 85 (0, 0)) := by rw [hW3]; exact heap_new w2.drew _
  have hbk : w2.heap[w.heap.size]? = some (.cells #[.func (.func f) #[] caps, tv] 85 (0, 0)) := by
    rw [HW1.out] at hran
    exact hran.plain _ _ ⟨_, _, _, rfl, by decide, by decide⟩ HCL.out
  have k0 : w2.cell? ⟨w.heap.size, 0, none⟩ = some (.func (.func f) #[] caps) := (cell_of hbk 0)
  have k1 : w2.cell? ⟨w.heap.size, 1, none⟩ = some tv := (cell_of hbk 1)
  have k5 : w2.cell? ⟨p, 5, none⟩ = some d.lv := by rw [← hxx.2]; exact DskAt.c R2.at_ 5
  have k5a : (w2.alloc (.cells #[.func (.func f) #[] caps, tv] 85)).cell? ⟨p, 5, none⟩ = some d.lv := by
    rw [← hxx.2]; exact DskAt.c (DskAt.alloc R2.at_ _).at_ 5
  have HLV : Hid (∀ v' w4, LAppended (grow S w W3) W3 w4 v' (l ++ [c]) → Leaves S w (w4.setCell ⟨p, 5, none⟩ v') p { d1 with es1 := es', c1 := c', lv := v' } (l ++ [c]) ∧ w4.cell? ⟨p, 5, none⟩ = some d1.lv ∧ w4.frozen? ⟨p, 5, none⟩ = false) :=
    Lib.hid fun v' w4 happ => leaves_of R3 happ
  have HL3 := Lib.hid hl3
  have HC3 := Lib.hid hc3
  have HN3 := Lib.hid hn3
  have HV := Lib.hid hview'
  have HW3 := Lib.hid hW3
  clear hcall hent hfe hview hran R2 hxx hview' hW3 R3 hl3 hc3 hn3 hbk
  rw [HW3.out] at HL3 HC3 HN3 HLV
  go_wp2
  go_region_law (refine step_append_loose rfl _ _ rfl _ d.lv l c _ tv _ rfl rfl HL3.out HN3.out HC3.out hlen ?_; intro v' w4 happ; obtain ⟨a1, c1, rfl⟩ := LooseAt.shape1 happ.loose; have hq := HLV.out _ w4 happ; have q5 := hq.2.1; have q6 := hq.2.2; have HZ := Lib.hid hq.1; clear hq happ)
  all_goals
    go_wp2
    go_ret
    exact ⟨rfl, es', c', _, HV.out, (by assumption : Hid (Leaves _ _ _ _ _ _)).out⟩
end Go.Proofs.YtaoneiicoaiehaaGreat.Co
namespace Go.Proofs.YtaoneiicoaiehaaGreat.Se
set_option maxRecDepth 100000
open Go Go.RowKit Go.Lib Go.Proofs.YtaoneiicoaiehaaGreat.Mp Go.Proofs.YtaoneiicoaiehaaGreat.Dh Go.Proofs.YtaoneiicoaiehaaGreat.Fm Go.Proofs.YtaoneiicoaiehaaGreat.Dk Go.Proofs.YtaoneiicoaiehaaGreat.Cl Go.Proofs.YtaoneiicoaiehaaGreat.Bu Go.Proofs.YtaoneiicoaiehaaGreat.Ch Go.Proofs.YtaoneiicoaiehaaGreat.La Go.Proofs.YtaoneiicoaiehaaGreat.Co
theorem settle_nil {S : Nat → Prop} {w : World} {p : Nat} {d : Dsk} (h : DskAt w S p d) (hl : d.lv = .slice none 0 0) :
    Calls Tryz.prog 38 #[.pointer (some ⟨p, 0, none⟩), .int .i64 0] w fun e w' => e = .returned (.tuple #[]) ∧ Ran S w w' p { d with lv := .slice none 0 0 } := by
  have c5 : w.cell? ⟨p, 5, none⟩ = some (.slice none 0 0) := by rw [← hl]; exact DskAt.c h 5
  have f5 := DskAt.f h 5
  have HR := Lib.hid (mkSet h 5 (.slice none 0 0) { d with lv := .slice none 0 0 } rfl ⟨rfl, rfl, rfl, rfl, rfl, rfl⟩)
  clear h
  go_enter Tryz.func38, Tryz.ntmps38
  go_wp2
  go_loop [5, 13, 14, 15, 16, 17, 18, 19, 20, 21, 22, 23] (fun _ i _ _ _ _ _ _ _ _ _ _ => i = .int .i64 0) (fun _ _ _ _ _ _ _ _ _ _ _ _ => 0)
  case atStart => rfl
  case round =>
    subst hrel
    go_wp2
    go_end0
    exact ⟨rfl, HR.out⟩
theorem tv_shape {w : World} {S : Nat → Prop} {dv tv : Value} {c : Cmd} (h : CmdAt w S dv tv c) : tv = .nilFunc ∨ ∃ g caps, tv = .func (.func g) #[] caps := by
  cases c with
  | app k s => obtain ⟨b1, b2, _, e, _⟩ := h; exact .inr ⟨_, _, e⟩
  | cut k n => exact h.elim
  | mov j k => obtain ⟨b1, b2, _, e, _⟩ := h; exact .inl e
  | rem k => obtain ⟨b1, _, e, _⟩ := h; exact .inl e
/-- The disk in the midst of a settle: k loose calls are sure. -/
def Mid (S : Nat → Prop) (w wr : World) (p : Nat) (d : Dsk) (l : List Cmd) (k : Nat) : Prop :=
  ∃ es' c', view es' = runs (view d.es2) (l.take k) ∧ Ran S w wr p { d with es2 := es', c2 := c' }
set_option maxHeartbeats 1600000 in
theorem settle_some {S : Nat → Prop} {w : World} {p : Nat} {d : Dsk} (h : DskAt w S p d) (l : List Cmd) (n b cap : Nat) (cs : Array Value) (hlv : d.lv = .slice (some ⟨b, 0, none⟩) l.length cap) (hn : n ≤ l.length) (hlc : l.length ≤ cap) (hcm : cap ≤ maxLen)
    (hb : At w S b (.cells cs 85 (0, 0))) (_hcs : cs.size = cap * 2) (h5 : ∀ i (h : i < l.length), ∃ dv tv, cs[i * 2]? = some dv ∧ cs[i * 2 + 1]? = some tv ∧ CmdAt w S dv tv l[i])
    (hok : oks (view d.es2) l) (hu : used (view d.es2) ≤ 16777216) :
    Calls Tryz.prog 38 #[.pointer (some ⟨p, 0, none⟩), .int .i64 n] w fun e w' => e = .returned (.tuple #[]) ∧
      ∃ es' c', view es' = runs (view d.es2) (l.take n) ∧ Ran S w w' p { d with es2 := es', c2 := c', lv := .slice none 0 0 } := by
  have c5 : w.cell? ⟨p, 5, none⟩ = some (.slice (some ⟨b, 0, none⟩) l.length cap) := by rw [← hlv]; exact DskAt.c h 5
  have f5 := DskAt.f h 5
  unfold maxLen at hcm
  have HB := Lib.hid hb
  have H5 := Lib.hid h5
  have HO := Lib.hid hok
  have HU := Lib.hid hu
  have HH := Lib.hid h
  clear hb h5 hok hu h hlv
  go_enter Tryz.func38, Tryz.ntmps38
  go_wp2
  go_loopw [5, 13, 14, 15, 16, 17, 18, 19, 20, 21, 22, 23] (fun _ i _ _ _ _ _ _ _ _ _ _ wr => ∃ k : Nat, k ≤ n ∧ i = .int .i64 k ∧ Mid S w wr p d l k) (fun _ i _ _ _ _ _ _ _ _ _ _ _ => n - (intOf i).toNat)
  case atStart => exact ⟨0, by omega, rfl, d.es2, d.c2, rfl, Bu.Ran.refl HH.out⟩
  case round =>
    obtain ⟨k, hk, rfl, es', c', hview, hran⟩ := hrel
    have HV := Lib.hid hview
    have HR := Lib.hid hran
    have g5 : wr.cell? ⟨p, 5, none⟩ = some d.lv := DskAt.c hran.at_ 5
    have q5 := DskAt.f hran.at_ 5
    have hbr := hran.plain _ _ ⟨_, _, _, rfl, by decide, by decide⟩ HB.out.2
    by_cases hlt : k < n
    · obtain ⟨dv, tv, x1, x2, x3⟩ := H5.out k (by omega)
      have y1 : wr.cell? ⟨b, k * 2, none⟩ = some dv := (cell_of hbr _).trans x1
      have y2 : wr.cell? ⟨b, k * 2 + 1, none⟩ = some tv := (cell_of hbr _).trans x2
      have hok1 : Cmd.ok (view es') l[k] := by rw [hview]; exact oks_at l _ k _ HO.out (List.getElem?_eq_getElem (by omega))
      have hu1 : used (view es') ≤ 16777216 := by rw [hview]; exact runs_used _ _ (oks_take k l _ HO.out) HU.out
      obtain ⟨f, caps, hdv, _, _⟩ := do_cmd false hran.at_ l[k] hok1 hu1 (x3.keep fun b v => ⟨Ch.Ran.keepPlain hran b _ (plain1 v), Ch.Ran.keepPlain hran b _ (plainn v)⟩)
      subst hdv
      rcases tv_shape x3 with rfl | ⟨g, caps2, rfl⟩
      · clear hbr hran hview x1 x2
        obtain ⟨Wd, hWd⟩ : ∃ Wd, Wd = (wr.alloc (.cells #[.func (.func f) #[] caps, .nilFunc] 85)).drew := ⟨_, rfl⟩
        have hnb : Wd.heap[wr.heap.size]? = some (.cells #[.func (.func f) #[] caps, .nilFunc] 85 (0, 0)) := by rw [hWd]; exact heap_new wr _
        have k0 : Wd.cell? ⟨wr.heap.size, 0, none⟩ = some (.func (.func f) #[] caps) := cell_of hnb 0
        have R1 : Ran S w Wd p { d with es2 := es', c2 := c' } := by rw [hWd]; exact Ran.drew (Ran.trans HR.out (DskAt.alloc HR.out.at_ _))
        obtain ⟨f', caps', hfe, hent, hcall⟩ := do_cmd false R1.at_ l[k] hok1 hu1 (x3.keep fun b v => ⟨Ch.Ran.keepPlain R1 b _ (plain1 v), Ch.Ran.keepPlain R1 b _ (plainn v)⟩)
        obtain ⟨rfl, rfl⟩ : f = f' ∧ caps = caps' := by cases hfe; exact ⟨rfl, rfl⟩
        have HE := Lib.hid hent
        have HCa := Lib.hid hcall
        have HWd := Lib.hid hWd
        have HR1 := Lib.hid R1
        clear hent hcall hWd R1 hnb hfe x3 hok1 hu1
        go_wp2_with fail
        refine wp_region_still_tail 5 (by kernel_rfl) (by kernel_rfl) ?_
        simp only [List.take_succ_cons, List.take_zero, List.drop_succ_cons, List.drop_zero]
        change wpStill _ _ (World.drew _) _ _ _
        rw [← HWd.out]
        repeat (with_reducible refine wpStill_step (fun K hK => ?_); go_simp; with_reducible refine hK _ ?_; clear hK K)
        with_reducible refine wpStill_nil ?_
        change wpList _ _ _ _ _ (World.drew _)
        rw [← HWd.out]
        go_wp2_with fail
        rw [HE.out, Oper.upon_enter]
        refine HCa.out.mono ?_
        rintro e w2 ⟨rfl, es2, c2, hv2, hr2⟩
        have HV2 := Lib.hid hv2
        have HR2 := Lib.hid (Ran.trans HR1.out hr2)
        clear hv2 hr2 k0 y1 y2 g5 q5
        go_wp2
        go_roundw
        case rel =>
          refine ⟨k + 1, by omega, by go_num, es2, c2, ?_, HR2.out⟩
          rw [HV2.out, List.take_succ_eq_append_getElem (by omega), runs_snoc, ← HV.out]
          rfl
        case measure => simp [intOf]; omega
      · clear hbr hran hview x1 x2
        obtain ⟨Wd, hWd⟩ : ∃ Wd, Wd = (wr.alloc (.cells #[.func (.func f) #[] caps, (.func (.func g) #[] caps2)] 85)).drew := ⟨_, rfl⟩
        have hnb : Wd.heap[wr.heap.size]? = some (.cells #[.func (.func f) #[] caps, (.func (.func g) #[] caps2)] 85 (0, 0)) := by rw [hWd]; exact heap_new wr _
        have k0 : Wd.cell? ⟨wr.heap.size, 0, none⟩ = some (.func (.func f) #[] caps) := cell_of hnb 0
        have R1 : Ran S w Wd p { d with es2 := es', c2 := c' } := by rw [hWd]; exact Ran.drew (Ran.trans HR.out (DskAt.alloc HR.out.at_ _))
        obtain ⟨f', caps', hfe, hent, hcall⟩ := do_cmd false R1.at_ l[k] hok1 hu1 (x3.keep fun b v => ⟨Ch.Ran.keepPlain R1 b _ (plain1 v), Ch.Ran.keepPlain R1 b _ (plainn v)⟩)
        obtain ⟨rfl, rfl⟩ : f = f' ∧ caps = caps' := by cases hfe; exact ⟨rfl, rfl⟩
        have HE := Lib.hid hent
        have HCa := Lib.hid hcall
        have HWd := Lib.hid hWd
        have HR1 := Lib.hid R1
        clear hent hcall hWd R1 hnb hfe x3 hok1 hu1
        go_wp2_with fail
        refine wp_region_still_tail 5 (by kernel_rfl) (by kernel_rfl) ?_
        simp only [List.take_succ_cons, List.take_zero, List.drop_succ_cons, List.drop_zero]
        change wpStill _ _ (World.drew _) _ _ _
        rw [← HWd.out]
        repeat (with_reducible refine wpStill_step (fun K hK => ?_); go_simp; with_reducible refine hK _ ?_; clear hK K)
        with_reducible refine wpStill_nil ?_
        change wpList _ _ _ _ _ (World.drew _)
        rw [← HWd.out]
        go_wp2_with fail
        rw [HE.out, Oper.upon_enter]
        refine HCa.out.mono ?_
        rintro e w2 ⟨rfl, es2, c2, hv2, hr2⟩
        have HV2 := Lib.hid hv2
        have HR2 := Lib.hid (Ran.trans HR1.out hr2)
        clear hv2 hr2 k0 y1 y2 g5 q5
        go_wp2
        go_roundw
        case rel =>
          refine ⟨k + 1, by omega, by go_num, es2, c2, ?_, HR2.out⟩
          rw [HV2.out, List.take_succ_eq_append_getElem (by omega), runs_snoc, ← HV.out]
          rfl
        case measure => simp [intOf]; omega
    · have : k = n := by omega
      subst this
      have HS := Lib.hid (Ran.trans hran (mkSet hran.at_ 5 (.slice none 0 0) { d with es2 := es', c2 := c', lv := .slice none 0 0 } rfl ⟨rfl, rfl, rfl, rfl, rfl, rfl⟩))
      clear hran hview hbr
      go_wp2
      go_end0
      exact ⟨rfl, es', c', HV.out, HS.out⟩
end Go.Proofs.YtaoneiicoaiehaaGreat.Se

namespace Go.Proofs.YtaoneiicoaiehaaGreat.Kl
set_option maxRecDepth 100000
open Go Go.RowKit Go.Lib Go.Proofs.YtaoneiicoaiehaaGreat.Mp Go.Proofs.YtaoneiicoaiehaaGreat.Dh Go.Proofs.YtaoneiicoaiehaaGreat.Ext Go.Proofs.YtaoneiicoaiehaaGreat.Fm Go.Proofs.YtaoneiicoaiehaaGreat.Dk
open Go.ChangeMaps (setBlock)
theorem clone_any (w : World) (m : Nat) (es : List Ent) (c : Nat) (hm : w.heap[m]? = some (obj es c)) :
    Calls Tryz.prog 63 #[.map (some m)] w fun e w' => e = .returned (.map (some w.heap.size)) ∧ w' = w.alloc (obj es c) := by
  have hq := fun w => run_eql_map_nil_sl (P := Tryz.prog) w 55 _ _ (some m) isStr.1
  unfold obj at hm ⊢
  generalize (es.map Ent.entry).toArray = arr at hm ⊢
  go_enter Tryz.func63, Tryz.ntmps63
  go_wp2
  rw [run_callFunc_extern Tryz.func89 (by kernel_rfl) (by kernel_rfl) (by kernel_rfl) (e := Extern.MapsClone.clone) (by kernel_rfl), run_maps_clone_sl w 55 hm]
  simp only [Result.andThen]
  rw [Oper.upon_value]
  clear hm hq
  have hta : ∀ (W : World) (v : Value), (Instr.typeAssert (.iface 55 v) 20 55 false).run Tryz.prog W = .ok v W := fun W v => run_typeAssert_map_sl W 55 _ _ _ v isStr.1
  go_wp2
  go_ret
  exact ⟨rfl, rfl⟩
def clipv : Value → Value
  | .slice a n _ => .slice a n n
  | v => v
theorem clip_any {S : Nat → Prop} (w : World) (v : Value) (t : List UInt8) (hv : TextAt w S v t) :
    Calls Tryz.prog 64 #[v] w fun e w' => e = .returned (clipv v) ∧ w' = w := by
  obtain ⟨a, cp, rfl, hl, hcm⟩ := hv.len
  have hsh : (a = none ∧ t = [] ∧ cp = 0) ∨ ∃ b, a = some ⟨b, 0, none⟩ := by
    rcases hv with ⟨h, h'⟩ | ⟨b, cap, cs, h, _⟩
    · subst h'; cases h; exact .inl ⟨rfl, rfl, rfl⟩
    · cases h; exact .inr ⟨b, rfl⟩
  clear hv
  unfold maxLen at hcm
  rcases hsh with ⟨rfl, rfl, rfl⟩ | ⟨b, rfl⟩
  · go_enter Tryz.func64, Tryz.ntmps64
    go_wp2
    go_ret
    exact ⟨rfl, rfl⟩
  · go_enter Tryz.func64, Tryz.ntmps64
    go_wp2
    go_ret
    exact ⟨rfl, rfl⟩
def clip (e : Ent) : Ent := { e with val := clipv e.val }
/-- The entries, where those that were met are clipped. -/
def esAt (es : List Ent) (seen : Array Nat) : List Ent := es.map fun e => if seen.contains e.born then clip e else e
theorem esAt_nil (es : List Ent) : esAt es #[] = es := by simp [esAt]
theorem has_push (seen : Array Nat) (a b : Nat) : (seen.push a).contains b = (seen.contains b || a == b) := by
  rw [Array.contains_push]
  have : (b == a) = (a == b) := by
    by_cases h : a = b
    · subst h; rfl
    · have h1 : (a == b) = false := by simpa using h
      have h2 : (b == a) = false := by simpa using Ne.symm h
      rw [h1, h2]
  first | rw [this, Bool.or_comm] | rw [this] | rw [Bool.or_comm]
theorem esAt_put (c : Nat) (seen : Array Nat) (e : Ent) : ∀ (es : List Ent), (es.map Ent.key).Nodup → (es.map Ent.born).Nodup → e ∈ es → Mp.put (esAt es seen) e.key (clipv e.val) e.text c = esAt es (seen.push e.born)
  | [], _, _, h => by simp at h
  | x :: es, hk, hb, h => by
    simp only [List.map_cons, List.nodup_cons] at hk hb
    by_cases hx : x = e
    · subst hx
      have h1 : ∀ y ∈ es, y.born ≠ x.born := fun y hy he => hb.1 (List.mem_map.2 ⟨y, hy, he⟩)
      have h2 : esAt es (seen.push x.born) = esAt es seen := by
        unfold esAt
        refine List.map_congr_left fun y hy => ?_
        have : (seen.push x.born).contains y.born = seen.contains y.born := by
          have h2 : (x.born == y.born) = false := by simp [Ne.symm (h1 y hy)]
          rw [has_push, h2, Bool.or_false]
        rw [this]
      show Mp.put ((if seen.contains x.born then clip x else x) :: esAt es seen) x.key (clipv x.val) x.text c = (if (seen.push x.born).contains x.born then clip x else x) :: esAt es (seen.push x.born)
      rw [h2]
      have h3 : (seen.push x.born).contains x.born = true := by rw [has_push, beq_self_eq_true, Bool.or_true]
      rw [h3, if_pos rfl]
      have h4 : (if seen.contains x.born then clip x else x).key = x.key := by split <;> rfl
      have h5 : (if seen.contains x.born then clip x else x).born = x.born := by split <;> rfl
      rw [Mp.put, if_pos h4, h5]
      rfl
    · have hm : e ∈ es := by rcases List.mem_cons.1 h with h | h; exact absurd h.symm hx; exact h
      have h1 : ¬ x.key = e.key := fun he => hk.1 (List.mem_map.2 ⟨e, hm, he.symm⟩)
      have h2 : ¬ x.born = e.born := fun he => hb.1 (List.mem_map.2 ⟨e, hm, he.symm⟩)
      show Mp.put ((if seen.contains x.born then clip x else x) :: esAt es seen) e.key (clipv e.val) e.text c = (if (seen.push e.born).contains x.born then clip x else x) :: esAt es (seen.push e.born)
      have h3 : (seen.push e.born).contains x.born = seen.contains x.born := by
        have h2' : (e.born == x.born) = false := by simp [Ne.symm h2]
        rw [has_push, h2', Bool.or_false]
      have h4 : ¬ (if seen.contains x.born then clip x else x).key = e.key := by split <;> exact h1
      rw [h3, Mp.put, if_neg h4, esAt_put c seen e es hk.2 hb.2 hm]
theorem esAt_find (seen : Array Nat) (k : ByteArray) : ∀ (es : List Ent), (find (esAt es seen) k).isSome = (find es k).isSome
  | [] => rfl
  | x :: es => by
    have ih := esAt_find seen k es
    show (find ((if seen.contains x.born then clip x else x) :: esAt es seen) k).isSome = _
    have h4 : (if seen.contains x.born then clip x else x).key = x.key := by split <;> rfl
    by_cases h : x.key = k
    · rw [find, if_pos (h4.trans h), find, if_pos h]; rfl
    · rw [find, if_neg (by rw [h4]; exact h), find, if_neg h, ih]
theorem esAt_all (es : List Ent) (seen : Array Nat) (h : ∀ e ∈ es, seen.contains e.born = true) : esAt es seen = es.map clip := by
  unfold esAt
  exact List.map_congr_left fun e he => by rw [h e he, if_pos rfl]
/-- How many entries were not met yet. -/
def leftN (w : World) (r : Nat) (es : List Ent) : Nat :=
  match w.heap[r]? with
  | some (.mapIter _ _ seen _) => (es.filter fun e => !seen.contains e.born).length
  | _ => 0
theorem filt_le (p q : Ent → Bool) (h : ∀ x, p x = true → q x = true) : ∀ l : List Ent, (l.filter p).length ≤ (l.filter q).length
  | [] => Nat.le_refl _
  | x :: l => by
    have ih := filt_le p q h l
    rcases hp : p x with _ | _
    · rcases hq : q x with _ | _
      · rw [List.filter_cons_of_neg (by simp [hp]), List.filter_cons_of_neg (by simp [hq])]; exact ih
      · rw [List.filter_cons_of_neg (by simp [hp]), List.filter_cons_of_pos hq, List.length_cons]; omega
    · rw [List.filter_cons_of_pos hp, List.filter_cons_of_pos (h x hp), List.length_cons, List.length_cons]; omega
theorem filt_lt (p q : Ent → Bool) (h : ∀ x, p x = true → q x = true) (e : Ent) (hp : p e = false) (hq : q e = true) : ∀ l : List Ent, e ∈ l → (l.filter p).length < (l.filter q).length
  | [], he => by simp at he
  | x :: l, he => by
    rcases List.mem_cons.1 he with rfl | he
    · rw [List.filter_cons_of_neg (by simp [hp]), List.filter_cons_of_pos hq, List.length_cons]
      have := filt_le p q h l; omega
    · have ih := filt_lt p q h e hp hq l he
      rcases hpx : p x with _ | _
      · rcases hqx : q x with _ | _
        · rw [List.filter_cons_of_neg (by simp [hpx]), List.filter_cons_of_neg (by simp [hqx])]; exact ih
        · rw [List.filter_cons_of_neg (by simp [hpx]), List.filter_cons_of_pos hqx, List.length_cons]; omega
      · rw [List.filter_cons_of_pos hpx, List.filter_cons_of_pos (h x hpx), List.length_cons, List.length_cons]; omega
theorem left_less (es : List Ent) (seen : Array Nat) (e : Ent) (he : e ∈ es) (hs : seen.contains e.born = false) :
    (es.filter fun x => !(seen.push e.born).contains x.born).length < (es.filter fun x => !seen.contains x.born).length :=
  filt_lt (fun x => !(seen.push e.born).contains x.born) (fun x => !seen.contains x.born) (fun x h => by
    simp only [has_push] at h
    rcases hx : seen.contains x.born with _ | _
    · rfl
    · rw [hx] at h; simp at h) e (by simp only [has_push, beq_self_eq_true, Bool.or_true]; rfl) (by simp only [hs]; rfl) es he
theorem wpList_next_text (w : World) {ops : Array Oper} {rest : List Oper} {o : Oper} {a : Act} {Q : Exit → Act → World → Prop} (hg : o.guard = none) (it : Operand) (hop : o.op = Op.next it false)
    (r mb since c0 c : Nat) (seen : Array Nat) (es : List Ent) (hit : a.eval it = .pointer (some ⟨r, 0, none⟩)) (hr : w.heap[r]? = some (.mapIter (some mb) since seen c0)) (hb : w.heap[mb]? = some (obj es c))
    (hold : ∀ e ∈ es, e.born < since) (hsc : since ≤ c0)
    (hDone : Hid (∀ e ∈ es, seen.contains e.born = true) → wpList Tryz.prog ops Q rest (a.put o.dst (.tuple #[.bool false])) w)
    (hMore : ∀ (e : Ent) (w1 : World), Hid (e ∈ es ∧ seen.contains e.born = false ∧ (w1 = w ∨ w1 = w.drew)) → wpList Tryz.prog ops Q rest (a.put o.dst (.tuple #[.bool true, .string e.key, e.val])) (setBlock w1 r (.mapIter (some mb) since (seen.push e.born) c))) :
    wpList Tryz.prog ops Q (o :: rest) a w := by
  refine wpList_plain hg fun K' hK' => ?_
  unfold Oper.wp
  have hold' : ∀ x ∈ (es.map Ent.entry).toArray.toList, x.born < since := by
    intro x hx
    simp only [List.mem_map] at hx
    obtain ⟨e, he, rfl⟩ := hx
    exact hold e he
  rcases run_next_at (P := Tryz.prog) w o.type r mb since c0 seen (es.map Ent.entry).toArray c hr hb hold' hsc with ⟨h0, hrun⟩ | ⟨x, hx, w1, hw1, hrun⟩
  · simp [execOp, hop, hit, hrun, Result.andThen]
    refine hK' _ _ (hDone (Lib.hid fun e he => ?_))
    rcases hs : seen.contains e.born with _ | _
    · exfalso
      have : e.entry ∈ (leftOf (es.map Ent.entry).toArray seen) := by
        unfold leftOf
        rw [Array.mem_filter]
        refine ⟨by simp; exact ⟨e, he, rfl⟩, ?_⟩
        show (!seen.contains e.born) = true
        rw [hs]; rfl
      have h1 := Array.size_pos_of_mem this
      omega
    · rfl
  · have hx' : ∃ e ∈ es, seen.contains e.born = false ∧ x = e.entry := by
      have hx2 : x ∈ (leftOf (es.map Ent.entry).toArray seen) := by simpa using hx
      unfold leftOf at hx2
      rw [Array.mem_filter] at hx2
      obtain ⟨h1, h2⟩ := hx2
      simp at h1
      obtain ⟨e, he, rfl⟩ := h1
      exact ⟨e, he, by simpa [Ent.entry] using h2, rfl⟩
    obtain ⟨e, he, hs, rfl⟩ := hx'
    simp [execOp, hop, hit, hrun, Result.andThen]
    exact hK' _ _ (hMore e w1 (Lib.hid ⟨he, hs, hw1⟩))
end Go.Proofs.YtaoneiicoaiehaaGreat.Kl
namespace Go.Proofs.YtaoneiicoaiehaaGreat.Fc
set_option maxRecDepth 100000
open Go Go.RowKit Go.Lib Go.Proofs.YtaoneiicoaiehaaGreat.Mp Go.Proofs.YtaoneiicoaiehaaGreat.Dh Go.Proofs.YtaoneiicoaiehaaGreat.Ext Go.Proofs.YtaoneiicoaiehaaGreat.Fm Go.Proofs.YtaoneiicoaiehaaGreat.Dk Go.Proofs.YtaoneiicoaiehaaGreat.Kl
open Go.ChangeMaps (setBlock)
theorem wpList_range_text (w : World) {ops : Array Oper} {rest : List Oper} {o : Oper} {a : Act} {Q : Exit → Act → World → Prop} (hg : o.guard = none) (m : Operand)
    (hop : o.op = Op.range 55 m) (mb : Nat) (es : List Ent) (c : Nat) (hm : a.eval m = .map (some mb)) (hb : w.heap[mb]? = some (obj es c)) (n : Nat) (hn : w.heap.size = n)
    (hK : wpList Tryz.prog ops Q rest (a.put o.dst (.pointer (some ⟨n, 0, none⟩))) (w.alloc (.mapIter (some mb) c #[] c))) : wpList Tryz.prog ops Q (o :: rest) a w := by
  subst hn
  refine wpList_plain hg fun K' hK' => ?_
  have hrun : (Instr.range 55 (.map (some mb))).run Tryz.prog w = .ok (.pointer (some ⟨w.heap.size, 0, none⟩)) (w.alloc (.mapIter (some mb) c #[] c)) := by
    unfold obj at hb
    simp [Instr.range, run_underlying isStr.1, MapKept.run_getObj_map hb]
  unfold Oper.wp
  simp [execOp, hop, hm, hrun, Result.andThen]
  exact hK' _ _ hK
/-- The world in the midst of a clone. -/
structure Mid (w wr : World) (es : List Ent) (c : Nat) (seen : Array Nat) : Prop where
  below : Below w.heap.size w wr
  size : wr.heap.size = w.heap.size + 3
  tmp : ∃ x y, wr.heap[w.heap.size]? = some (.cells #[x, y] 57 (0, 0))
  map : wr.heap[w.heap.size + 1]? = some (obj (esAt es seen) c)
  iter : wr.heap[w.heap.size + 2]? = some (.mapIter (some (w.heap.size + 1)) c seen c)
theorem fclone_any {S : Nat → Prop} {w : World} {p off m : Nat} (cs : Array Value) (T : TypeId) (es : List Ent) (c : Nat) (used : Int) (hp : w.heap[p]? = some (.cells cs T (0, 0))) (h0 : cs[off]? = some (.map (some m))) (h1 : cs[off + 1]? = some (.int .i64 used))
    (hm : w.heap[m]? = some (obj es c)) (hwf : Wf es c) (ht : ∀ e ∈ es, TextAt w S e.val e.text) :
    Calls Tryz.prog 39 #[.pointer (some ⟨p, off, none⟩)] w fun e w' => e = .returned (.agg #[.map (some (w.heap.size + 1)), .int .i64 used]) ∧
      Below w.heap.size w w' ∧ w'.heap[w.heap.size + 1]? = some (obj (es.map clip) c) ∧ w'.heap.size = w.heap.size + 3 := by
  have c0 : w.cell? ⟨p, off, none⟩ = some (.map (some m)) := by rw [cell_of hp]; exact h0
  have c1 : w.cell? ⟨p, off + 1, none⟩ = some (.int .i64 used) := by rw [cell_of hp]; exact h1
  have hplt := lt_of_at hp
  obtain ⟨W1, hW1⟩ : ∃ W1, W1 = w.alloc (.cells #[.map none, .int .i64 0] 57) := ⟨_, rfl⟩
  have hm1 : W1.heap[m]? = some (obj es c) := by rw [hW1, heap_alloc w _ _ (lt_of_at hm)]; exact hm
  have hs1 : W1.heap.size = w.heap.size + 1 := by rw [hW1, size_alloc]
  have HC0 := clone_any W1 m es c hm1
  have hnew := heap_new W1 (obj es c)
  rw [hs1] at HC0 hnew
  rw [hW1] at HC0 hnew
  have HZ : Hid (((w.alloc (.cells #[.map none, .int .i64 0] 57)).alloc (obj es c)).heap.size = w.heap.size + 2) := Lib.hid (by rw [size_alloc, size_alloc])
  have HI : Hid (Mid w (((w.alloc (.cells #[.map none, .int .i64 0] 57)).alloc (obj es c)).alloc (.mapIter (some (w.heap.size + 1)) c #[] c)) es c #[]) := Lib.hid (by
    refine ⟨(((Below.refl _ _).alloc (Nat.le_refl _) _).alloc (by rw [size_alloc]; omega) _).alloc (by rw [size_alloc, size_alloc]; omega) _, by rw [size_alloc, size_alloc, size_alloc], ⟨.map none, .int .i64 0, ?_⟩, ?_, ?_⟩
    · rw [heap_alloc _ _ _ (by rw [size_alloc, size_alloc]; omega), heap_alloc _ _ _ (by rw [size_alloc]; omega)]; exact heap_new w _
    · rw [esAt_nil, heap_alloc _ _ _ (by rw [size_alloc, size_alloc]; omega)]
      have := heap_new (w.alloc (.cells #[.map none, .int .i64 0] 57)) (obj es c)
      rw [size_alloc] at this; exact this
    · have := heap_new ((w.alloc (.cells #[.map none, .int .i64 0] 57)).alloc (obj es c)) (.mapIter (some (w.heap.size + 1)) c #[] c)
      rw [size_alloc, size_alloc] at this; exact this)
  have HO : Hid (∀ seen, ∀ e ∈ esAt es seen, e.born < c) := Lib.hid (by
    intro seen e he
    unfold esAt at he
    obtain ⟨x, hx, rfl⟩ := List.mem_map.1 he
    have := hwf.born x hx
    split <;> exact this)
  have HC := Lib.hid HC0
  have HN := Lib.hid hnew
  clear HC0 hnew hs1
  have HP := Lib.hid hp
  have HM := Lib.hid hm
  have HWF := Lib.hid hwf
  have HT := Lib.hid ht
  clear hp h0 h1 hm hwf ht hm1 hW1 W1
  go_enter Tryz.func39, Tryz.ntmps39
  go_wp2_with (first | (go_at_call 63; refine HC.out.mono ?_; rintro e w1 ⟨rfl, rfl⟩) | (at_range; refine wpList_range_text _ rfl _ rfl _ es c rfl HN.out (w.heap.size + 2) HZ.out ?_))
  go_frame
  go_loopw [4, 5, 13, 14, 15, 16, 17, 18, 19, 20, 21] (fun _ _ _ _ _ _ _ _ _ _ _ wr => ∃ seen, Mid w wr es c seen) (fun _ _ _ _ _ _ _ _ _ _ _ wr => leftN wr (w.heap.size + 2) es)
  case atStart => exact ⟨#[], HI.out⟩
  case round =>
    obtain ⟨seen, hmid⟩ := hrel
    have HMid := Lib.hid hmid
    have hit := hmid.iter
    have hmap := hmid.map
    have hold : ∀ e ∈ esAt es seen, e.born < c := HO.out seen
    go_wp2_with (at_next; refine wpList_next_text _ rfl _ rfl (w.heap.size + 2) (w.heap.size + 1) c c c seen (esAt es seen) rfl hit hmap hold (Nat.le_refl _) ?_ ?_)
    case _ =>
      intro HD
      have hlast : esAt es seen = es.map clip := esAt_all es seen (by
        intro e he
        have h1 := HD.out ((if seen.contains e.born then clip e else e)) (List.mem_map.2 ⟨e, he, rfl⟩)
        have h2 : (if seen.contains e.born then clip e else e).born = e.born := by split <;> rfl
        rw [h2] at h1; simpa using h1)
      have HLast := Lib.hid hlast
      clear hlast hit hmap hold
      obtain ⟨x, y, hxy⟩ := HMid.out.tmp
      have t0 : wr.cell? ⟨w.heap.size, 0, none⟩ = some x := cell_of hxy 0
      have t1 : wr.cell? ⟨w.heap.size, 1, none⟩ = some y := cell_of hxy 1
      have f0 : wr.frozen? ⟨w.heap.size, 0, none⟩ = false := free_of hxy 0
      have f1 : wr.frozen? ⟨w.heap.size, 1, none⟩ = false := free_of hxy 1
      have d0 : wr.cell? ⟨p, off, none⟩ = some (.map (some m)) := (HMid.out.below.cell hplt).trans c0
      have d1 : wr.cell? ⟨p, off + 1, none⟩ = some (.int .i64 used) := (HMid.out.below.cell hplt).trans c1
      have HXY := Lib.hid hxy
      clear hxy hmid c0 c1
      go_wp2
      have e0 := setCell_heap HXY.out 0 (.map (some (w.heap.size + 1)))
      have e1 := setCell_heap e0 1 (.int .i64 used)
      have q0 : (((wr.setCell ⟨w.heap.size, 0, none⟩ (.map (some (w.heap.size + 1)))).setCell ⟨w.heap.size, 1, none⟩ (.int .i64 used))).cell? ⟨w.heap.size, 0, none⟩ = some (.map (some (w.heap.size + 1))) := cell_of e1 0
      have q1 : (((wr.setCell ⟨w.heap.size, 0, none⟩ (.map (some (w.heap.size + 1)))).setCell ⟨w.heap.size, 1, none⟩ (.int .i64 used))).cell? ⟨w.heap.size, 1, none⟩ = some (.int .i64 used) := cell_of e1 1
      clear e0 e1
      refine bodyPost_ret (v := .agg #[.map (some (w.heap.size + 1)), .int .i64 used]) (by simp [results, Tryz.results39, go_sem, q0, q1]) rfl ⟨rfl, ?_, ?_, ?_⟩
      · exact (HMid.out.below.setCell (p := ⟨w.heap.size, 0, none⟩) (Nat.le_refl _) _).setCell (p := ⟨w.heap.size, 1, none⟩) (Nat.le_refl _) _
      · rw [Below.heap_setCell _ _ _ _ (Nat.succ_ne_self _), Below.heap_setCell _ _ _ _ (Nat.succ_ne_self _), HMid.out.map, HLast.out]
      · rw [setCell_size, setCell_size, HMid.out.size]
    case _ =>
      intro e w1 HE
      have hE := HE.out
      have hes : e ∈ es := by
        obtain ⟨x, hx, hxe⟩ := List.mem_map.1 hE.1
        rcases hs : seen.contains x.born with _ | _
        · rw [hs] at hxe; simp at hxe; exact hxe ▸ hx
        · rw [hs] at hxe
          simp at hxe
          have := hE.2.1
          rw [← hxe] at this
          have h3 : seen.contains x.born = false := by simpa [clip] using this
          rw [hs] at h3; cases h3
      have hw1 : w1.heap = wr.heap := by rcases hE.2.2 with h | h <;> rw [h]; rfl
      have hb1 : Below w.heap.size w w1 := by rcases hE.2.2 with h | h <;> rw [h]; exact HMid.out.below; exact HMid.out.below.drew
      obtain ⟨W, hW⟩ : ∃ W, W = setBlock w1 (w.heap.size + 2) (.mapIter (some (w.heap.size + 1)) c (seen.push e.born) c) := ⟨_, rfl⟩
      have hWi : W.heap[w.heap.size + 2]? = some (.mapIter (some (w.heap.size + 1)) c (seen.push e.born) c) := by
        rw [hW]; exact setBlock_at _ _ _ _ (by rw [hw1]; exact hit)
      have hWm : W.heap[w.heap.size + 1]? = some (obj (esAt es seen) c) := by
        rw [hW, setBlock_ne _ _ _ _ (by omega), hw1]; exact hmap
      have hent : (Instr.entry (.pointer (some ⟨w.heap.size + 2, 0, none⟩))).run Tryz.prog W = .ok (.tuple #[.string e.key, e.val]) W :=
        run_entry_at W (w.heap.size + 2) (w.heap.size + 1) c seen ((esAt es seen).map Ent.entry).toArray c e.entry hWi hWm (by simp; exact ⟨e, hE.1, rfl⟩) (by
          have : ((esAt es seen).map Ent.entry).toArray.toList.map (·.born) = es.map Ent.born := by
            simp only [esAt, List.map_map]
            refine List.map_congr_left fun x _ => ?_
            simp only [Function.comp, Ent.entry]
            split <;> rfl
          rw [this]; exact HWF.out.bornN)
      have HCl := Lib.hid (clip_any W e.val e.text (HT.out e hes |>.keep (w' := W) (S' := S) fun b o _ ha => ⟨ha.1, by
        have hlt := lt_of_at ha.2
        rw [hW, setBlock_ne _ _ _ _ (by omega), hb1.block b hlt]; exact ha.2⟩))
      rw [← hW]
      have HWm := Lib.hid hWm
      have HWi := Lib.hid hWi
      have HB1 := Lib.hid hb1
      have HW := Lib.hid hW
      have HES := Lib.hid hes
      have hw1s := Lib.hid hw1
      clear hWm hWi hb1 hW hes hw1 hE hit hmap hold hmid
      go_wp2_with (first | (go_at_call 64; refine HCl.out.mono ?_; rintro e2 w2 ⟨rfl, rfl⟩) | (at_mapUpdate; refine wpList_update_text _ rfl _ _ _ rfl (w.heap.size + 1) (esAt es seen) c e.key (clipv e.val) e.text rfl rfl rfl HWm.out rfl ?_))
      have hp : Mp.put (esAt es seen) e.key (clipv e.val) e.text c = esAt es (seen.push e.born) := esAt_put c seen e es HWF.out.keys HWF.out.bornN HES.out
      have hc : clockOf (esAt es seen) e.key c = c := by
        have h1 : (find (esAt es seen) e.key).isSome = true := by
          rw [esAt_find]
          rcases hf : find es e.key with _ | x
          · exact absurd (List.mem_map.2 ⟨e, HES.out, rfl⟩) ((find_none e.key es).1 hf)
          · rfl
        simp only [clockOf, h1, if_true]
      rw [hp, hc]
      have hsz : w2.heap.size = wr.heap.size := by rw [HW.out, setBlock_size, hw1s.out]
      have hit2 : (setBlock w2 (w.heap.size + 1) (obj (esAt es (seen.push e.born)) c)).heap[w.heap.size + 2]? = some (.mapIter (some (w.heap.size + 1)) c (seen.push e.born) c) := by
        rw [setBlock_ne _ _ _ _ (by omega)]; exact HWi.out
      refine ⟨⟨seen.push e.born, ⟨?_, ?_, ?_, ?_, hit2⟩⟩, ?_⟩
      · have hb2 : Below w.heap.size w1 (setBlock w2 (w.heap.size + 1) (obj (esAt es (seen.push e.born)) c)) := by
          rw [HW.out]
          refine ⟨rfl, rfl, rfl, by rw [setBlock_size, setBlock_size]; exact Nat.le_refl _, fun k hk => ?_⟩
          rw [setBlock_ne _ _ _ _ (by omega), setBlock_ne _ _ _ _ (by omega)]
        exact HB1.out.trans hb2
      · rw [setBlock_size, hsz]; exact HMid.out.size
      · obtain ⟨x, y, hxy⟩ := HMid.out.tmp
        exact ⟨x, y, by rw [setBlock_ne _ _ _ _ (by omega), HW.out, setBlock_ne _ _ _ _ (by omega), hw1s.out]; exact hxy⟩
      · exact setBlock_at _ _ _ _ HWm.out
      · unfold leftN
        rw [hit2, HMid.out.iter]
        exact left_less es seen e HES.out (by simpa using HE.out.2.1)
end Go.Proofs.YtaoneiicoaiehaaGreat.Fc
namespace Go.Proofs.YtaoneiicoaiehaaGreat.St
set_option maxRecDepth 100000
open Go Go.RowKit Go.Lib Go.Proofs.YtaoneiicoaiehaaGreat.Mp Go.Proofs.YtaoneiicoaiehaaGreat.Dh Go.Proofs.YtaoneiicoaiehaaGreat.Fm Go.Proofs.YtaoneiicoaiehaaGreat.Dk Go.Proofs.YtaoneiicoaiehaaGreat.Cl Go.Proofs.YtaoneiicoaiehaaGreat.Bu Go.Proofs.YtaoneiicoaiehaaGreat.Ch Go.Proofs.YtaoneiicoaiehaaGreat.La Go.Proofs.YtaoneiicoaiehaaGreat.Co Go.Proofs.YtaoneiicoaiehaaGreat.Nm
structure St where
  room : Int
  now : Fs
  sure : Fs
  loose : List Cmd
  fuse : Int
  still : Bool
structure Good (D : St) : Prop where
  oks : oks D.sure D.loose
  runs : runs D.sure D.loose = D.now
  used : used D.sure ≤ 16777216
  room : 0 ≤ D.room ∧ D.room ≤ 16777216
  fuse : -1 ≤ D.fuse ∧ D.fuse ≤ 9223372036854775807
theorem Good.now {D : St} (h : Good D) : Fm.used D.now ≤ 16777216 := by rw [← h.runs]; exact runs_used _ _ h.oks h.used
def Full (w : World) (S : Nat → Prop) (p : Nat) (D : St) : Prop :=
  ∃ d, DskAt w S p d ∧ LooseAt w S d.lv D.loose ∧ d.room = D.room ∧ view d.es1 = D.now ∧ view d.es2 = D.sure ∧ d.fuse = D.fuse ∧ d.still = D.still ∧ Good D
/-- What a call leaves: it touches its own blocks and new ones alone. -/
def To (S : Nat → Prop) (w w' : World) (p : Nat) (D' : St) : Prop := Tread S w w' ∧ Full w' (grow S w w') p D'
theorem Full.up {w : World} {S S' : Nat → Prop} {p : Nat} {D : St} (h : Full w S p D) (hs : ∀ b, S b → S' b) : Full w S' p D := by
  obtain ⟨d, h1, h2, h3⟩ := h
  exact ⟨d, DskAt.up h1 hs, LooseAt.keep h2 fun _ _ _ ha => ha.up hs, h3⟩
theorem Full.frame {w w' : World} {S : Nat → Prop} {p : Nat} {D : St} (h : Full w S p D) (hb : ∀ b, S b → b < w.heap.size → w'.heap[b]? = w.heap[b]?) : Full w' S p D := by
  obtain ⟨d, h1, h2, h3⟩ := h
  have hk : ∀ b o, At w S b o → At w' S b o := fun b o ha => ⟨ha.1, by rw [hb b ha.1 (lt_of_at ha.2)]; exact ha.2⟩
  exact ⟨d, ⟨hk _ _ h1.blk, hk _ _ h1.now, hk _ _ h1.sure, h1.ne, h1.wf1, h1.wf2, h1.texts.keep fun b o _ ha => hk b o ha⟩, LooseAt.keep h2 fun b o _ ha => hk b o ha, h3⟩
theorem Full.drew {w : World} {S : Nat → Prop} {p : Nat} {D : St} (h : Full w S p D) : Full w.drew S p D := Full.frame h fun _ _ _ => rfl
theorem To.refl {w : World} {S : Nat → Prop} {p : Nat} {D : St} (h : Full w S p D) : To S w w p D := ⟨Tread.refl S w, h.up grow_up⟩
theorem To.trans {S : Nat → Prop} {a b c : World} {p : Nat} {D1 D2 : St} (h : To S a b p D1) (k : To (grow S a b) b c p D2) : To S a c p D2 :=
  ⟨h.1.trans k.1, Full.up k.2 (grow_grow h.1.size k.1.size)⟩
theorem To.drew {S : Nat → Prop} {w w1 : World} {p : Nat} {D : St} (h : To S w w1 p D) : To S w w1.drew p D := ⟨h.1.drew, Full.drew h.2⟩
theorem To.of_drew {S : Nat → Prop} {w w1 : World} {p : Nat} {D : St} (h : To S w.drew w1 p D) : To S w w1 p D := ⟨h.1.of_drew, h.2⟩
theorem To.alloc {w : World} {S : Nat → Prop} {p : Nat} {D : St} (h : Full w S p D) (o : Obj) : To S w (w.alloc o) p D := by
  refine ⟨Tread.alloc S w o, ?_⟩
  refine Full.up (Full.frame h fun b _ hb => heap_alloc w o b hb) grow_up
/-- The fuse burns. -/
def burnt (D : St) : Int × St := if D.fuse = -1 then (0, D) else if D.fuse = 0 then (20, { D with still := true }) else (0, { D with fuse := D.fuse - 1 })
def doing (D : St) (c : Cmd) : Int × St :=
  if (burnt D).1 = 0 then (0, { (burnt D).2 with now := c.run D.now, loose := D.loose ++ [c] }) else burnt D
def stAppend (D : St) (k s : ByteArray) : Int × St :=
  if D.still then (20, D) else if nameOk k = false then (2, D) else if s.size ≠ 0 ∧ D.room < used D.now + s.size then (4, D) else doing D (.app k s)
def stTruncate (D : St) (k : ByteArray) (n : Int) : Int × St :=
  if D.still then (20, D) else if nameOk k = false then (2, D) else if n < 0 then (2, D) else
    match get D.now k with
    | none => (3, D)
    | some t => if (t.length : Int) < n then (2, D) else doing D (.cut k n.toNat)
def stRename (D : St) (j k : ByteArray) : Int × St :=
  if D.still then (20, D) else if nameOk j = false ∨ nameOk k = false then (2, D) else if j = k then (2, D) else
    match get D.now j with
    | none => (3, D)
    | some _ => doing D (.mov j k)
def stRemove (D : St) (k : ByteArray) : Int × St :=
  if D.still then (20, D) else if nameOk k = false then (2, D) else
    match get D.now k with
    | none => (3, D)
    | some _ => doing D (.rem k)
def stSync (D : St) : Int × St :=
  if D.still then (20, D) else if (burnt D).1 = 0 then (0, { (burnt D).2 with sure := D.now, loose := [] }) else burnt D
def keeps (D : St) (keep : Int) : Nat := (min (max keep 0) D.loose.length).toNat
/-- What is sure behind a crash. -/
def crashed (D : St) (keep t : Int) : Fs :=
  match D.loose[keeps D keep]? with
  | some (.app k s) => if 0 < t then Cmd.run (runs D.sure (D.loose.take (keeps D keep))) (.app k (torn s t)) else runs D.sure (D.loose.take (keeps D keep))
  | _ => runs D.sure (D.loose.take (keeps D keep))
def stCrash (D : St) (keep t : Int) : St := { D with now := crashed D keep t, sure := crashed D keep t, loose := [], fuse := -1, still := false }
/-- What a Read answers. -/
def stRead (D : St) (k : ByteArray) (o n : Int) : List UInt8 × Int :=
  if D.still then ([], 20) else if nameOk k = false then ([], 2) else if o < 0 ∨ n < 0 then ([], 2) else
    match get D.now k with
    | none => ([], 3)
    | some t => ((t.drop o.toNat).take n.toNat, 0)
theorem burnt_is (d : Dsk) (D : St) (hf : d.fuse = D.fuse) : (burn d).1 = (burnt D).1 := by
  unfold burn burnt
  rw [hf]
  split
  · rfl
  · split <;> rfl
theorem burn_full {d : Dsk} {D : St} (h1 : d.room = D.room) (h4 : d.fuse = D.fuse) (h5 : d.still = D.still) :
    (burn d).1 = (burnt D).1 ∧ (burn d).2.room = (burnt D).2.room ∧ (burn d).2.fuse = (burnt D).2.fuse ∧ (burn d).2.still = (burnt D).2.still ∧ (burn d).2.es1 = d.es1 ∧ (burn d).2.es2 = d.es2 ∧ (burn d).2.lv = d.lv ∧
      (burnt D).2.now = D.now ∧ (burnt D).2.sure = D.sure ∧ (burnt D).2.loose = D.loose ∧ (burnt D).2.room = D.room := by
  unfold burn burnt
  rw [h4]
  split
  · exact ⟨rfl, h1, h4, h5, rfl, rfl, rfl, rfl, rfl, rfl, rfl⟩
  · split
    · exact ⟨rfl, h1, rfl, rfl, rfl, rfl, rfl, rfl, rfl, rfl, rfl⟩
    · exact ⟨rfl, h1, rfl, h5, rfl, rfl, rfl, rfl, rfl, rfl, rfl⟩
theorem burnt_fuse {D : St} (h : -1 ≤ D.fuse ∧ D.fuse ≤ 9223372036854775807) : -1 ≤ (burnt D).2.fuse ∧ (burnt D).2.fuse ≤ 9223372036854775807 := by
  unfold burnt
  split
  · exact h
  · split
    · exact h
    · show -1 ≤ D.fuse - 1 ∧ D.fuse - 1 ≤ 9223372036854775807; omega
theorem burnt_or (D : St) : (burnt D).1 = 0 ∨ (burnt D).1 = 20 := by
  unfold burnt
  split
  · exact .inl rfl
  · split
    · exact .inr rfl
    · exact .inl rfl
theorem Good.burnt {D : St} (h : Good D) : Good (burnt D).2 := by
  have hf := burnt_fuse h.fuse
  obtain ⟨_, _, _, _, _, _, _, e1, e2, e3, e4⟩ := burn_full (d := ⟨D.room, 0, [], 0, 0, [], 0, .nilFunc, D.fuse, D.still⟩) (D := D) rfl rfl rfl
  exact ⟨by rw [e2, e3]; exact h.oks, by rw [e2, e3, e1]; exact h.runs, by rw [e2]; exact h.used, by rw [e4]; exact h.room, hf⟩
theorem change_full {S : Nat → Prop} {w : World} {p : Nat} {D : St} (h : Full w S p D) (c : Cmd) (dv tv : Value) (hc : CmdAt w S dv tv c) (hok : Cmd.ok D.now c) (hlen : D.loose.length ≤ 1099511627776) :
    Calls Tryz.prog 49 #[.pointer (some ⟨p, 0, none⟩), .agg #[dv, tv]] w fun e w' => e = .returned (.int .i64 (doing D c).1) ∧ To S w w' p (doing D c).2 := by
  obtain ⟨d, h1, h2, h3, h4, h5, h6, h7, h8⟩ := h
  obtain ⟨b1, b2, b3, b4, b5, b6, b7, b8, b9, b10, b11⟩ := burn_full h3 h6 h7
  have hgb := Good.burnt h8
  have hf : -1 ≤ d.fuse ∧ d.fuse ≤ 9223372036854775807 := by rw [h6]; exact h8.fuse
  have hu : used (view d.es1) ≤ 16777216 := by rw [h4]; exact h8.now
  rcases burnt_or D with hb | hb
  · refine (change_ok h1 hf dv tv (b1.trans hb) c hc (by rw [h4]; exact hok) hu D.loose h2 hlen).mono ?_
    rintro e w' ⟨rfl, es', c', v', hv, hl⟩
    unfold doing
    rw [if_pos hb]
    refine ⟨rfl, hl.tread, _, hl.at_, hl.loose, b2, ?_, ?_, b3, b4, ?_⟩
    · rw [hv, h4]
    · show view (burn d).2.es2 = (burnt D).2.sure
      rw [b6, h5, b9]
    · refine ⟨?_, ?_, hgb.used, hgb.room, hgb.fuse⟩
      · show oks (burnt D).2.sure (D.loose ++ [c])
        rw [b9]; exact oks_snoc c _ _ h8.oks (by rw [h8.runs]; exact hok)
      · show runs (burnt D).2.sure (D.loose ++ [c]) = c.run D.now
        rw [b9, runs_snoc, h8.runs]
  · refine (change_down h1 hf dv tv (b1.trans hb)).mono ?_
    rintro e w' ⟨rfl, hr⟩
    unfold doing
    rw [if_neg (by rw [hb]; decide), hb]
    refine ⟨rfl, hr.tread, _, hr.at_, ?_, b2, ?_, ?_, b3, b4, hgb⟩
    · rw [b7, b10]; exact LooseAt.keep h2 (Ch.Ran.keepPlain hr)
    · rw [b5, h4, b8]
    · rw [b6, h5, b9]
end Go.Proofs.YtaoneiicoaiehaaGreat.St
