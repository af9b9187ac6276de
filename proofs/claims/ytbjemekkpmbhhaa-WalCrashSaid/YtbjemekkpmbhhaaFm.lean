/- Files as a list of names and bytes, and what the calls that change do to them. -/
import Derived.Test.YtbjemekkpmbhhaaMp
namespace Go.Proofs.Ytbjemekkpmbhhaa.Fm
open Go Go.Proofs.Ytbjemekkpmbhhaa.Mp
abbrev Fs := List (ByteArray × List UInt8)
def get : Fs → ByteArray → Option (List UInt8)
  | [], _ => none
  | e :: es, k => if e.1 = k then some e.2 else get es k
def txt (fs : Fs) (k : ByteArray) : List UInt8 := (get fs k).getD []
def put : Fs → ByteArray → List UInt8 → Fs
  | [], k, t => [(k, t)]
  | e :: es, k, t => if e.1 = k then (k, t) :: es else e :: put es k t
def del : Fs → ByteArray → Fs
  | [], _ => []
  | e :: es, k => if e.1 = k then es else e :: del es k
def used : Fs → Nat
  | [] => 0
  | e :: es => e.2.length + used es
def view (es : List Ent) : Fs := es.map fun e => (e.key, e.text)
theorem get_view (k : ByteArray) : ∀ es : List Ent, get (view es) k = (find es k).map Ent.text
  | [] => rfl
  | e :: es => by
    have ih := get_view k es
    unfold view at ih ⊢
    by_cases h : e.key = k <;> simp [get, find, h, ih]
theorem view_put (k : ByteArray) (v : Value) (t : List UInt8) (c : Nat) : ∀ es : List Ent, view (Mp.put es k v t c) = put (view es) k t
  | [] => rfl
  | e :: es => by
    have ih := view_put k v t c es
    unfold view at ih ⊢
    by_cases h : e.key = k <;> simp [put, Mp.put, h, ih]
theorem view_del (k : ByteArray) : ∀ es : List Ent, view (Mp.del es k) = del (view es) k
  | [] => rfl
  | e :: es => by
    have ih := view_del k es
    unfold view at ih ⊢
    by_cases h : e.key = k <;> simp [del, Mp.del, h, ih]
theorem used_put (k : ByteArray) (t : List UInt8) : ∀ fs : Fs, used (put fs k t) + (txt fs k).length = used fs + t.length
  | [] => by simp [put, used, txt, get]
  | e :: es => by
    have ih := used_put k t es
    unfold txt at ih ⊢
    by_cases h : e.1 = k
    · simp [put, used, get, h]; omega
    · simp only [put, used, get, h, if_false]; omega
theorem used_del (k : ByteArray) : ∀ fs : Fs, used (del fs k) + (txt fs k).length = used fs
  | [] => by simp [del, used, txt, get]
  | e :: es => by
    have ih := used_del k es
    unfold txt at ih ⊢
    by_cases h : e.1 = k
    · simp [del, used, get, h]; omega
    · simp only [del, used, get, h, if_false]; omega
theorem get_put_ne (j k : ByteArray) (t : List UInt8) (hne : j ≠ k) : ∀ fs : Fs, get (put fs k t) j = get fs j
  | [] => by simp [put, get, Ne.symm hne]
  | e :: es => by
    have ih := get_put_ne j k t hne es
    by_cases h : e.1 = k
    · by_cases h' : e.1 = j
      · exact absurd (h'.symm.trans h) hne
      · simp [put, get, h, Ne.symm hne]
    · by_cases h' : e.1 = j
      · rw [put, if_neg h]; simp only [get, h', if_true]
      · simp only [put, get, h, h', if_false, ih]
theorem get_put_eq (k : ByteArray) (t : List UInt8) : ∀ fs : Fs, get (put fs k t) k = some t
  | [] => by simp [put, get]
  | e :: es => by
    by_cases h : e.1 = k
    · simp [put, get, h]
    · simp only [put, get, h, if_false, get_put_eq k t es]
theorem txt_le (k : ByteArray) (fs : Fs) : (txt fs k).length ≤ used fs := by have := used_del k fs; omega
inductive Cmd where
  | app (k s : ByteArray)
  | cut (k : ByteArray) (n : Nat)
  | mov (j k : ByteArray)
  | rem (k : ByteArray)
def Cmd.run (fs : Fs) : Cmd → Fs
  | .app k s => put fs k (txt fs k ++ s.data.toList)
  | .cut k n => put fs k ((txt fs k).take n)
  | .mov j k => del (put fs k (txt fs j)) j
  | .rem k => del fs k
/-- A call that is done where it may be. -/
def Cmd.ok (fs : Fs) : Cmd → Prop
  | .app _ s => used fs + s.size ≤ 16777216
  | .cut k n => n ≤ (txt fs k).length
  | .mov j k => j ≠ k ∧ (get fs j).isSome = true
  | .rem _ => True
theorem used_mov (j k : ByteArray) (fs : Fs) (h : j ≠ k) : used (del (put fs k (txt fs j)) j) + (txt fs k).length = used fs := by
  have h1 := used_put k (txt fs j) fs
  have h2 := used_del j (put fs k (txt fs j))
  have h3 : txt (put fs k (txt fs j)) j = txt fs j := by
    show ((get (put fs k (txt fs j)) j)).getD [] = _
    rw [get_put_ne j k _ h]; rfl
  rw [h3] at h2
  omega
theorem run_used (fs : Fs) (c : Cmd) (h : c.ok fs) (hu : used fs ≤ 16777216) : used (c.run fs) ≤ 16777216 := by
  cases c with
  | app k s => have := used_put k (txt fs k ++ s.data.toList) fs; simp [Cmd.run, Cmd.ok] at *; omega
  | cut k n => have := used_put k ((txt fs k).take n) fs; simp [Cmd.run, Cmd.ok] at *; omega
  | mov j k => have := used_mov j k fs h.1; simp only [Cmd.run]; omega
  | rem k => have := used_del k fs; simp only [Cmd.run]; omega
/-- Calls that are done one behind the other. -/
def runs (fs : Fs) (l : List Cmd) : Fs := l.foldl Cmd.run fs
def oks : Fs → List Cmd → Prop
  | _, [] => True
  | fs, c :: l => c.ok fs ∧ oks (c.run fs) l
theorem runs_snoc (fs : Fs) (l : List Cmd) (c : Cmd) : runs fs (l ++ [c]) = c.run (runs fs l) := by simp [runs]
theorem oks_snoc (c : Cmd) : ∀ (l : List Cmd) (fs : Fs), oks fs l → c.ok (runs fs l) → oks fs (l ++ [c])
  | [], _, _, h => ⟨h, trivial⟩
  | _ :: l, _, h, hc => ⟨h.1, oks_snoc c l _ h.2 hc⟩
theorem oks_take : ∀ (n : Nat) (l : List Cmd) (fs : Fs), oks fs l → oks fs (l.take n)
  | 0, _, _, _ => trivial
  | _ + 1, [], _, _ => trivial
  | n + 1, _ :: l, _, h => ⟨h.1, oks_take n l _ h.2⟩
theorem oks_at : ∀ (l : List Cmd) (fs : Fs) (n : Nat) (c : Cmd), oks fs l → l[n]? = some c → c.ok (runs fs (l.take n))
  | [], _, _, _, _, h => by simp at h
  | x :: l, fs, 0, c, ho, h => by simp at h; subst h; exact ho.1
  | x :: l, fs, n + 1, c, ho, h => oks_at l _ n c ho.2 (by simpa using h)
theorem runs_used : ∀ (l : List Cmd) (fs : Fs), oks fs l → used fs ≤ 16777216 → used (runs fs l) ≤ 16777216
  | [], _, _, h => h
  | c :: l, fs, ho, h => runs_used l _ ho.2 (run_used fs c ho.1 h)
-- entries
theorem put_split (k : ByteArray) (v : Value) (t : List UInt8) (c : Nat) : ∀ (es : List Ent) (e : Ent), find es k = some e →
    ∃ pre post, es = pre ++ e :: post ∧ Mp.put es k v t c = pre ++ ⟨k, v, t, e.born⟩ :: post ∧ Mp.del es k = pre ++ post
  | [], _, h => by simp [find] at h
  | x :: es, e, h => by
    by_cases hk : x.key = k
    · simp only [find, hk, if_true, Option.some.injEq] at h
      subst h
      exact ⟨[], es, rfl, by simp [Mp.put, hk], by simp [Mp.del, hk]⟩
    · simp only [find, hk, if_false] at h
      obtain ⟨pre, post, h1, h2, h3⟩ := put_split k v t c es e h
      exact ⟨x :: pre, post, by rw [h1]; rfl, by simp only [Mp.put, hk, if_false, h2]; rfl, by simp only [Mp.del, hk, if_false, h3]; rfl⟩
theorem find_none (k : ByteArray) : ∀ (es : List Ent), find es k = none ↔ k ∉ es.map Ent.key
  | [] => by simp [find]
  | x :: es => by
    have ih := find_none k es
    by_cases hk : x.key = k
    · simp [find, hk]
    · simp only [find, hk, if_false, ih, List.map_cons, List.mem_cons, not_or]
      exact ⟨fun h => ⟨Ne.symm hk, h⟩, fun h => h.2⟩
end Go.Proofs.Ytbjemekkpmbhhaa.Fm
