/- A call is laid behind the loose ones. -/
import Derived.Test.YtbjemekkpmbhhaaCh
import Derived.Laws.Append
namespace Go.Proofs.Ytbjemekkpmbhhaa.La
open Go Go.RowKit Go.Lib Go.Proofs.Ytbjemekkpmbhhaa.Mp Go.Proofs.Ytbjemekkpmbhhaa.Dh Go.Proofs.Ytbjemekkpmbhhaa.Fm Go.Proofs.Ytbjemekkpmbhhaa.Dk Go.Proofs.Ytbjemekkpmbhhaa.Cl Go.Proofs.Ytbjemekkpmbhhaa.Bu Go.Proofs.Ytbjemekkpmbhhaa.Ch
theorem undCs : Try.prog.underlying 47 = some (.slice 64) := by kernel_rfl
theorem infoC : (Try.prog.info? 64).map (fun i => (i.zero, i.size, i.bytes)) = some (some (.agg #[.nilFunc, .nilFunc]), 2, 16) := by kernel_rfl
def isLoose (o : Obj) : Prop := ∃ cs fr, o = .cells cs 64 fr
structure LAppended (S : Nat → Prop) (w w' : World) (v' : Value) (l' : List Cmd) : Prop where
  tread : Tread S w w'
  loose : LooseAt w' (grow S w w') v' l'
  plain : ∀ (b : Nat) (o : Obj), ¬ isLoose o → w.heap[b]? = some o → w'.heap[b]? = some o
theorem LAppended.of_drew {S : Nat → Prop} {w w' : World} {v' : Value} {l' : List Cmd} (h : LAppended S w.drew w' v' l') : LAppended S w w' v' l' := ⟨h.tread.of_drew, h.loose, h.plain⟩
theorem entries_snoc {w : World} {S : Nat → Prop} (cs : List Value) (l : List Cmd) (c : Cmd) (dv tv : Value) (rest : List Value) (hcs : l.length * 2 ≤ cs.length)
    (h5 : ∀ i (h : i < l.length), ∃ dv tv, cs[i * 2]? = some dv ∧ cs[i * 2 + 1]? = some tv ∧ CmdAt w S dv tv l[i]) (hc : CmdAt w S dv tv c) :
    ∀ i (h : i < (l ++ [c]).length), ∃ dv' tv', (cs.take (l.length * 2) ++ [dv, tv] ++ rest)[i * 2]? = some dv' ∧ (cs.take (l.length * 2) ++ [dv, tv] ++ rest)[i * 2 + 1]? = some tv' ∧ CmdAt w S dv' tv' (l ++ [c])[i] := by
  intro i hi
  have hlt : (cs.take (l.length * 2)).length = l.length * 2 := by simp; omega
  by_cases hil : i < l.length
  · obtain ⟨d', t', h1, h2, h3⟩ := h5 i hil
    refine ⟨d', t', ?_, ?_, ?_⟩
    · rw [List.append_assoc, List.getElem?_append_left (by rw [hlt]; omega), List.getElem?_take, if_pos (by omega)]; exact h1
    · rw [List.append_assoc, List.getElem?_append_left (by rw [hlt]; omega), List.getElem?_take, if_pos (by omega)]; exact h2
    · rw [List.getElem_append_left hil]; exact h3
  · have hie : i = l.length := by simp at hi; omega
    subst hie
    refine ⟨dv, tv, ?_, ?_, ?_⟩
    · rw [List.append_assoc, List.getElem?_append_right (by rw [hlt]; exact Nat.le_refl _), hlt]; simp
    · rw [List.append_assoc, List.getElem?_append_right (by rw [hlt]; omega), hlt]
      rw [show l.length * 2 + 1 - l.length * 2 = 1 by omega]; rfl
    · simpa using hc
theorem CmdAt.one {w : World} {S : Nat → Prop} {dv tv : Value} {c : Cmd} (h : CmdAt w S dv tv c) : ∀ u ∈ [dv, tv], u.oneCell' = true := by
  intro u hu
  simp only [List.mem_cons, List.not_mem_nil, or_false] at hu
  cases c with
  | app k s => obtain ⟨b1, b2, rfl, rfl, _⟩ := h; rcases hu with rfl | rfl <;> rfl
  | cut k n => obtain ⟨b1, b2, rfl, rfl, _⟩ := h; rcases hu with rfl | rfl <;> rfl
  | mov j k => exact h.elim
  | rem k => obtain ⟨b1, rfl, rfl, _⟩ := h; rcases hu with rfl | rfl <;> rfl
theorem cap_not (v : Value) : ¬ isLoose (cap1 v) ∧ ¬ isLoose (capn v) := ⟨fun ⟨_, _, h⟩ => (by cases h), fun ⟨_, _, h⟩ => (by cases h)⟩
theorem run_append_loose (S : Nat → Prop) (w : World) (ty : TypeId) (lv : Value) (l : List Cmd) (c : Cmd) (dv tv : Value) (nb : Nat) (hl : LooseAt w S lv l) (hn : w.heap[nb]? = some (.cells #[dv, tv] 64 (0, 0)))
    (hc : CmdAt w S dv tv c) (hlen : l.length ≤ 1099511627776) :
    ∃ v' w', (Builtin.append_ #[47, 47] ty #[lv, .slice (some ⟨nb, 0, none⟩) 1 1]).run Try.prog w = .ok v' w' ∧ LAppended S w w' v' (l ++ [c]) := by
  obtain ⟨i, hi, hz0, hz1, hz2⟩ := info_parts infoC
  have hnews : ∀ j u, [dv, tv][j]? = some u → w.cell? ((⟨nb, 0, none⟩ : Addr).add j) = some u := by
    intro j u hj
    have : Addr.add ⟨nb, 0, none⟩ j = ⟨nb, j, none⟩ := by cases j <;> simp [Addr.add]
    rw [this, cell_of hn]; simpa using hj
  have h1 := CmdAt.one hc
  have hzc : (Value.agg #[Value.nilFunc, Value.nilFunc]).cells.size = 2 := rfl
  rcases hl with ⟨rfl, rfl⟩ | ⟨b, cap, cs, rfl, ha, h2, h3, h4, h5⟩
  · have hr := run_append_nil (P := Try.prog) w 47 ty 64 i _ undCs hi hz0 ⟨nb, 0, none⟩ 1 1 [dv, tv] (by rw [hz1]; rfl) hnews (by omega) (by omega) (by rw [hz2]; omega)
    have hge := grownCap_ge w 1 0 64
    have hcm := grownCap_le_maxLen w 1 0 64 (by unfold maxLen; omega)
    have hg : ∀ b, b < w.heap.size → (w.drew.alloc (.cells ([dv, tv].toArray ++ Builtin.zeroCells (Value.agg #[.nilFunc, .nilFunc]).cells (grownCap w 1 0 64 - 1)) 64)).heap[b]? = w.heap[b]? := fun b hb => heap_alloc w.drew _ b hb
    refine ⟨_, _, hr, (Tread.alloc S w.drew _).of_drew, .inr ⟨w.heap.size, _, _, rfl, ⟨.inr ⟨Nat.le_refl _, by rw [size_alloc]; exact Nat.lt_succ_self _⟩, heap_new w.drew _⟩, hge, hcm, ?_, ?_⟩, fun b o _ hb => (hg b (lt_of_at hb)).trans hb⟩
    · simp only [Array.size_append, List.size_toArray, size_zeroCells, hzc, List.length_cons, List.length_nil]; omega
    · have hc' : CmdAt (w.drew.alloc (.cells ([dv, tv].toArray ++ Builtin.zeroCells (Value.agg #[.nilFunc, .nilFunc]).cells (grownCap w 1 0 64 - 1)) 64)) (grow S w (w.drew.alloc (.cells ([dv, tv].toArray ++ Builtin.zeroCells (Value.agg #[.nilFunc, .nilFunc]).cells (grownCap w 1 0 64 - 1)) 64))) dv tv c :=
        hc.keep fun b v => ⟨fun h => ⟨.inl h.1, (hg b (lt_of_at h.2)).trans h.2⟩, fun h => ⟨.inl h.1, (hg b (lt_of_at h.2)).trans h.2⟩⟩
      have := entries_snoc [] [] c dv tv (Builtin.zeroCells (Value.agg #[.nilFunc, .nilFunc]).cells (grownCap w 1 0 64 - 1)).toList (by simp) (fun i h => by simp at h) hc'
      intro i hi
      obtain ⟨d', t', x1, x2, x3⟩ := this i hi
      refine ⟨d', t', ?_, ?_, x3⟩
      · rw [← Array.getElem?_toList, Array.toList_append]; simpa using x1
      · rw [← Array.getElem?_toList, Array.toList_append]; simpa using x2
  · have h5' : ∀ i (h : i < l.length), ∃ dv tv, cs.toList[i * 2]? = some dv ∧ cs.toList[i * 2 + 1]? = some tv ∧ CmdAt w S dv tv l[i] := fun i hi => by
      obtain ⟨d', t', x1, x2, x3⟩ := h5 i hi
      exact ⟨d', t', by rw [Array.getElem?_toList]; exact x1, by rw [Array.getElem?_toList]; exact x2, x3⟩
    by_cases hroom : l.length + 1 ≤ cap
    · have hr := run_append_room (P := Try.prog) w 47 ty 64 i undCs hi b l.length cap cs ha.2 ⟨nb, 0, none⟩ 1 1 [dv, tv] (by rw [hz1]; rfl) hnews h1 hroom (by rw [hz1]; simp; omega)
      rw [hz1] at hr
      have hpl : ∀ x o, ¬ isLoose o → w.heap[x]? = some o → (w.setRow b (cs.toList.take (l.length * 2) ++ [dv, tv] ++ cs.toList.drop (l.length * 2 + [dv, tv].length)).toArray).heap[x]? = some o := fun x o ho hx => by
        rw [setRow_other w b x _ (fun e => ho ⟨cs, (0, 0), by subst e; rw [ha.2] at hx; cases hx; rfl⟩)]; exact hx
      have hk : ∀ x v, (At w S x (cap1 v) → At (w.setRow b (cs.toList.take (l.length * 2) ++ [dv, tv] ++ cs.toList.drop (l.length * 2 + [dv, tv].length)).toArray) (grow S w (w.setRow b (cs.toList.take (l.length * 2) ++ [dv, tv] ++ cs.toList.drop (l.length * 2 + [dv, tv].length)).toArray)) x (cap1 v)) ∧
          (At w S x (capn v) → At (w.setRow b (cs.toList.take (l.length * 2) ++ [dv, tv] ++ cs.toList.drop (l.length * 2 + [dv, tv].length)).toArray) (grow S w (w.setRow b (cs.toList.take (l.length * 2) ++ [dv, tv] ++ cs.toList.drop (l.length * 2 + [dv, tv].length)).toArray)) x (capn v)) :=
        fun x v => ⟨fun h => ⟨.inl h.1, hpl _ _ (cap_not v).1 h.2⟩, fun h => ⟨.inl h.1, hpl _ _ (cap_not v).2 h.2⟩⟩
      refine ⟨_, _, hr, ⟨rfl, rfl, rfl, by simp, fun k _ hk => setRow_other w b k _ (fun e => hk (e ▸ ha.1))⟩, .inr ⟨b, cap, _, by simp, ⟨.inl ha.1, setRow_heap w b cs _ _ _ ha.2⟩, by simp; omega, h3, ?_, ?_⟩, hpl⟩
      · simp; omega
      · have := entries_snoc (w := w) (S := S) cs.toList l c dv tv (cs.toList.drop (l.length * 2 + [dv, tv].length)) (by simp; omega) h5' hc
        intro i hi
        obtain ⟨d', t', x1, x2, x3⟩ := this i hi
        exact ⟨d', t', by simpa using x1, by simpa using x2, x3.keep hk⟩
    · have holds : ∀ j u, (cs.toList.take (l.length * 2))[j]? = some u → w.cell? ((⟨b, 0, none⟩ : Addr).add j) = some u := by
        intro j u hj
        have : Addr.add ⟨b, 0, none⟩ j = ⟨b, j, none⟩ := by cases j <;> simp [Addr.add]
        rw [this, cell_of ha.2]
        rw [List.getElem?_take] at hj
        by_cases hl : j < l.length * 2
        · rw [if_pos hl] at hj; simpa using hj
        · rw [if_neg hl] at hj; cases hj
      have hr := run_append_grow (P := Try.prog) w 47 ty 64 i _ undCs hi hz0 ⟨b, 0, none⟩ l.length cap (cs.toList.take (l.length * 2)) (by rw [hz1]; simp; omega) holds ⟨nb, 0, none⟩ 1 1 [dv, tv] (by rw [hz1]; rfl) hnews (by omega) (by omega) (by rw [hz2]; exact growslice_fits (by omega) (by omega))
      have hge := grownCap_ge w (l.length + 1) cap 64
      have hcm := grownCap_le_maxLen w (l.length + 1) cap 64 (by unfold maxLen; omega)
      obtain ⟨X, hX⟩ : ∃ X, X = (cs.toList.take (l.length * 2)).toArray ++ [dv, tv].toArray ++ Builtin.zeroCells (Value.agg #[.nilFunc, .nilFunc]).cells (grownCap w (l.length + 1) cap 64 - (l.length + 1)) := ⟨_, rfl⟩
      rw [← hX] at hr
      have hg : ∀ b, b < w.heap.size → (w.drew.alloc (.cells X 64)).heap[b]? = w.heap[b]? := fun b hb => heap_alloc w.drew _ b hb
      have hk : ∀ x v, (At w S x (cap1 v) → At (w.drew.alloc (.cells X 64)) (grow S w (w.drew.alloc (.cells X 64))) x (cap1 v)) ∧ (At w S x (capn v) → At (w.drew.alloc (.cells X 64)) (grow S w (w.drew.alloc (.cells X 64))) x (capn v)) :=
        fun x v => ⟨fun h => ⟨.inl h.1, (hg x (lt_of_at h.2)).trans h.2⟩, fun h => ⟨.inl h.1, (hg x (lt_of_at h.2)).trans h.2⟩⟩
      refine ⟨_, _, hr, (Tread.alloc S w.drew _).of_drew, .inr ⟨w.heap.size, _, X, by simp, ⟨.inr ⟨Nat.le_refl _, by rw [size_alloc]; exact Nat.lt_succ_self _⟩, heap_new w.drew _⟩, by simpa using hge, hcm, ?_, ?_⟩, fun b o _ hb => (hg b (lt_of_at hb)).trans hb⟩
      · rw [hX]; simp only [Array.size_append, List.size_toArray, size_zeroCells, hzc, List.length_cons, List.length_nil, List.length_take, Array.length_toList]; omega
      · have := entries_snoc (w := w) (S := S) cs.toList l c dv tv (Builtin.zeroCells (Value.agg #[.nilFunc, .nilFunc]).cells (grownCap w (l.length + 1) cap 64 - (l.length + 1))).toList (by simp; omega) h5' hc
        intro i hi
        obtain ⟨d', t', x1, x2, x3⟩ := this i hi
        refine ⟨d', t', ?_, ?_, x3.keep hk⟩
        · rw [hX, ← Array.getElem?_toList]; simpa using x1
        · rw [hX, ← Array.getElem?_toList]; simpa using x2
end Go.Proofs.Ytbjemekkpmbhhaa.La
