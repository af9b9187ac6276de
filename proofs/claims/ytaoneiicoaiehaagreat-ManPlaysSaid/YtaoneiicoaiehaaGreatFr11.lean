/- The document's files, rows by rising names: the plain side of find, without, with. -/
import Derived.Test.YtaoneiicoaiehaaGreatOl11
import Derived.Test.YtaoneiicoaiehaaGreatDb1
namespace Go.Proofs.YtaoneiicoaiehaaGreat.Fr11
open Go Go.Proofs.YtaoneiicoaiehaaGreat.Ol11
abbrev Fl := ByteArray × ByteArray
def look (k : ByteArray) : List Fl → Option ByteArray
  | [] => none
  | q :: l => if q.1 = k then some q.2 else look k l
def wo (k : ByteArray) : List Fl → List Fl
  | [] => []
  | q :: l => if q.1 = k then wo k l else q :: wo k l
/-- With a file; d: it has been put. -/
def wi (f : Fl) : Bool → List Fl → List Fl
  | d, [] => if d then [] else [f]
  | d, q :: l => (if d = false ∧ lt q.1 f.1 = false then [f] else []) ++ ((if q.1 = f.1 then [] else [q]) ++ wi f (d || !lt q.1 f.1) l)
def Srt (l : List Fl) : Prop := l.Pairwise fun p q => lt p.1 q.1 = true
theorem look_wo (k x : ByteArray) : ∀ l : List Fl, look x (wo k l) = if x = k then none else look x l
  | [] => by simp [wo, look]
  | q :: l => by
    have ih := look_wo k x l
    unfold wo
    by_cases h : q.1 = k
    · rw [if_pos h, ih]
      by_cases e : x = k
      · rw [if_pos e, if_pos e]
      · rw [if_neg e, if_neg e, look, if_neg (fun h2 => e (h2.symm.trans h))]
    · rw [if_neg h, look, look, ih]
      by_cases e : x = k
      · rw [if_pos e, if_pos e, if_neg (fun h2 => h (h2.trans e))]
      · rw [if_neg e, if_neg e]
theorem wi_true (f : Fl) : ∀ l : List Fl, wi f true l = wo f.1 l
  | [] => rfl
  | q :: l => by
    have ih := wi_true f l
    unfold wi wo
    rw [if_neg (by simp), Bool.true_or, ih]
    by_cases h : q.1 = f.1
    · rw [if_pos h, if_pos h]; rfl
    · rw [if_neg h, if_neg h]; rfl
theorem look_wi (f : Fl) (x : ByteArray) : ∀ l : List Fl, look x (wi f false l) = if x = f.1 then some f.2 else look x l
  | [] => by
    show (if f.1 = x then some f.2 else none) = _
    by_cases e : x = f.1
    · rw [if_pos e.symm, if_pos e]
    · rw [if_neg (fun h => e h.symm), if_neg e]; rfl
  | q :: l => by
    have ih := look_wi f x l
    unfold wi
    cases hl : lt q.1 f.1 with
    | true =>
      have hne : q.1 ≠ f.1 := lt_ne hl
      rw [if_neg (by simp), if_neg hne]
      show look x (q :: wi f false l) = _
      rw [look, ih, look]
      by_cases e : x = f.1
      · rw [if_pos e, if_pos e, if_neg (fun h => hne (h.trans e))]
      · rw [if_neg e, if_neg e]
    | false =>
      rw [if_pos ⟨rfl, rfl⟩]
      show look x (f :: ((if q.1 = f.1 then [] else [q]) ++ wi f true l)) = _
      rw [look, wi_true]
      by_cases e : x = f.1
      · rw [if_pos e.symm, if_pos e]
      · rw [if_neg (fun h => e h.symm), if_neg e]
        by_cases h : q.1 = f.1
        · rw [if_pos h]
          show look x (wo f.1 l) = _
          rw [look_wo, if_neg e, look, if_neg (fun h2 => e (h2.symm.trans h))]
        · rw [if_neg h]
          show look x (q :: wo f.1 l) = _
          rw [look, look_wo, if_neg e, look]
theorem mem_wo {k : ByteArray} {q : Fl} : ∀ {l : List Fl}, q ∈ wo k l → q ∈ l ∧ q.1 ≠ k
  | [], h => by cases h
  | p :: l, h => by
    unfold wo at h
    split at h
    · have := mem_wo h; exact ⟨List.mem_cons_of_mem _ this.1, this.2⟩
    · rename_i hp
      rcases List.mem_cons.1 h with e | e
      · rw [e]; exact ⟨List.mem_cons_self .., hp⟩
      · have := mem_wo e; exact ⟨List.mem_cons_of_mem _ this.1, this.2⟩
theorem srt_wo (k : ByteArray) : ∀ {l : List Fl}, Srt l → Srt (wo k l)
  | [], _ => List.Pairwise.nil
  | q :: l, h => by
    obtain ⟨h1, h2⟩ := List.pairwise_cons.1 h
    unfold wo
    split
    · exact srt_wo k h2
    · exact List.pairwise_cons.2 ⟨fun p hp => h1 p (mem_wo hp).1, srt_wo k h2⟩
theorem mem_wi {f q : Fl} : ∀ {d : Bool} {l : List Fl}, q ∈ wi f d l → q = f ∨ q ∈ l
  | d, [], h => by
    unfold wi at h
    split at h
    · cases h
    · exact .inl (List.mem_singleton.1 h)
  | d, p :: l, h => by
    unfold wi at h
    rcases List.mem_append.1 h with h | h
    · split at h
      · exact .inl (List.mem_singleton.1 h)
      · cases h
    · rcases List.mem_append.1 h with h | h
      · split at h
        · cases h
        · rw [List.mem_singleton] at h; rw [h]; exact .inr (List.mem_cons_self ..)
      · rcases mem_wi h with h | h
        · exact .inl h
        · exact .inr (List.mem_cons_of_mem _ h)
theorem srt_wi (f : Fl) : ∀ {l : List Fl}, Srt l → Srt (wi f false l)
  | [], _ => List.pairwise_singleton _ _
  | q :: l, h => by
    obtain ⟨h1, h2⟩ := List.pairwise_cons.1 h
    unfold wi
    cases hl : lt q.1 f.1 with
    | true =>
      rw [if_neg (by simp), if_neg (lt_ne hl)]
      show Srt (q :: wi f false l)
      refine List.pairwise_cons.2 ⟨fun p hp => ?_, srt_wi f h2⟩
      rcases mem_wi hp with e | e
      · rw [e]; exact hl
      · exact h1 p e
    | false =>
      rw [if_pos ⟨rfl, rfl⟩]
      show Srt (f :: ((if q.1 = f.1 then [] else [q]) ++ wi f true l))
      rw [wi_true]
      have hb : ∀ p ∈ l, lt f.1 p.1 = true := fun p hp => le_lt hl (h1 p hp)
      by_cases e : q.1 = f.1
      · rw [if_pos e]
        exact List.pairwise_cons.2 ⟨fun p hp => hb p (mem_wo hp).1, srt_wo _ h2⟩
      · rw [if_neg e]
        refine List.pairwise_cons.2 ⟨fun p hp => ?_, List.pairwise_cons.2 ⟨fun p hp => h1 p (mem_wo hp).1, srt_wo _ h2⟩⟩
        rcases List.mem_cons.1 hp with e2 | e2
        · rw [e2]
          cases hc : lt f.1 q.1 with
          | true => rfl
          | false => exact absurd (lt_total hl hc) e
        · exact hb p (mem_wo e2).1
theorem look_none {x : ByteArray} : ∀ {l : List Fl}, (∀ q ∈ l, q.1 ≠ x) → look x l = none
  | [], _ => rfl
  | q :: l, h => by rw [look, if_neg (h q (List.mem_cons_self ..))]; exact look_none fun p hp => h p (List.mem_cons_of_mem _ hp)
/-- Rows in order that tell the same are the same. -/
theorem srt_uniq : ∀ {l m : List Fl}, Srt l → Srt m → (∀ x, look x l = look x m) → l = m
  | [], [], _, _, _ => rfl
  | [], q :: m, _, _, h => by
    have h1 : look q.1 (q :: m) = some q.2 := by rw [look, if_pos rfl]
    have h2 := h q.1
    rw [h1] at h2
    cases h2
  | q :: l, [], _, _, h => by
    have h1 : look q.1 (q :: l) = some q.2 := by rw [look, if_pos rfl]
    have h2 := h q.1
    rw [h1] at h2
    cases h2
  | p :: l, q :: m, hl, hm, h => by
    obtain ⟨h1, h2⟩ := List.pairwise_cons.1 hl
    obtain ⟨k1, k2⟩ := List.pairwise_cons.1 hm
    have hpq : p.1 = q.1 := by
      apply Classical.byContradiction
      intro hne
      cases hc : lt p.1 q.1 with
      | true =>
        have e := h p.1
        rw [look, if_pos rfl, look, if_neg (fun e => hne e.symm), look_none (fun r hr e => by have := lt_trans hc (k1 r hr); rw [e, lt_irrefl] at this; cases this)] at e
        cases e
      | false =>
        cases hd : lt q.1 p.1 with
        | true =>
          have e := h q.1
          rw [look, if_neg hne, look, if_pos rfl, look_none (fun r hr e => by have := lt_trans hd (h1 r hr); rw [e, lt_irrefl] at this; cases this)] at e
          cases e
        | false => exact hne (lt_total hc hd)
    have hv : p.2 = q.2 := by
      have e := h p.1
      rw [look, if_pos rfl, look, if_pos hpq.symm] at e
      injection e
    have hpe : p = q := Prod.ext hpq hv
    subst hpe
    rw [srt_uniq h2 k2 (fun x => ?_)]
    by_cases e : p.1 = x
    · rw [look_none (fun r hr e2 => by have := h1 r hr; rw [e2, e, lt_irrefl] at this; cases this), look_none (fun r hr e2 => by have := k1 r hr; rw [e2, e, lt_irrefl] at this; cases this)]
    · have := h x
      rw [look, if_neg e, look, if_neg e] at this
      exact this
end Go.Proofs.YtaoneiicoaiehaaGreat.Fr11
