/- Rows of pairs appended to rows of the walk's own. -/
import Derived.Test.YtkbjmbllnnghlaaSl9
import Derived.Laws.OwnMore
namespace Go.Proofs.Ytkbjmbllnnghlaa.Rr9
open Go Go.RowKit Go.Proofs.Ytkbjmbllnnghlaa.Pm9 Go.Proofs.Ytkbjmbllnnghlaa.Wd9 Go.Proofs.Ytkbjmbllnnghlaa.Mt9 Go.Proofs.Ytkbjmbllnnghlaa.Sn9 Go.Proofs.Ytkbjmbllnnghlaa.Rd9 Go.Proofs.Ytkbjmbllnnghlaa.Rp9 Go.Proofs.Ytkbjmbllnnghlaa.Sl9
theorem one_cells (L : List Pr) : ∀ u ∈ cellsP L, u.oneCell' = true := by
  intro u hu
  obtain ⟨x, _, hx⟩ := List.mem_flatMap.1 hu
  exact one3 x u hx
theorem run_rows {w : World} {B B2 : Nat} {H L : List Pr} {v : Value} {A2 : Option Addr} {c2 : Nat} (ty : TypeId) (h : Row9 B H v w) (h2 : Row9 B2 L (.slice A2 L.length c2) w) (hn : H.length + L.length ≤ 1000000) (hB : B ≤ w.heap.size) (hap : ∀ g, v.ownBlock = some g → g < B2) :
    ∃ A' c' w', (Builtin.append_ #[22, 22] ty #[v, .slice A2 L.length c2]).run Try.prog w = .ok (.slice A' (H.length + L.length) c') w' ∧ Row9 B (H ++ L) (.slice A' (H.length + L.length) c') w' ∧ Below B w w' ∧ Reads w' A2 L := by
  obtain ⟨i, hi, hz0, hz1, hz2⟩ := info_parts infoP
  rcases h2.2 with ⟨h1, h0⟩ | ⟨g, cap, cur, h1, _⟩
  · obtain rfl : L = [] := List.length_eq_zero_iff.1 h0
    obtain ⟨A, c, rfl⟩ := h.shape
    injection h1 with e1 e2 e3
    subst e1 e3
    refine ⟨A, c, w, run_append_owned_none w B _ _ _ i 3 Try.underlying22 hi _ _ _ h, ?_, Below.refl _ _, Reads.nil _ _⟩
    rw [List.append_nil]
    exact h
  · injection h1 with e1 e2 e3
    subst e1
    have hcells := World.ownsRow.cells h2 (g := g) rfl
    obtain ⟨v', w', hrun, hown, hg, _⟩ := run_append_own (P := Try.prog) w B 22 ty 33 i _ 3 40 Try.underlying22 hi hz0 hz1 hz2 rfl (by decide) v H.length (cellsP H) h ⟨g, 0, none⟩ L.length c2 (cellsP L) (by rw [cellsP_len, Nat.mul_comm]) hcells (one_cells L) (by unfold maxLen; omega) (by omega) hB
    rw [← cellsP_append, ← List.length_append] at hown
    obtain ⟨A', c', rfl⟩ := row_shape hown
    rw [List.length_append] at hown hrun
    refine ⟨A', c', w', hrun, ?_, (Below.refl B w).grown hg hB h.own_lt, fun hL => ?_⟩
    · unfold Row9
      rw [List.length_append]
      exact hown
    · obtain ⟨b, o, e, hb, hc⟩ := reads_of_own h2 hL
      cases e
      have hB2 : B2 ≤ g := h2.own_lt g rfl
      have hk : w'.heap[g]? = w.heap[g]? := hg.block g hb fun e => by have := hap g e.symm; omega
      refine ⟨g, 0, rfl, by have := hg.size; omega, fun k hk' => ?_⟩
      obtain ⟨x0, x1, x2⟩ := hc k hk'
      have ec : ∀ i, w'.cell? ⟨g, i, none⟩ = w.cell? ⟨g, i, none⟩ := fun i => by simp [World.cell?, hk]
      exact ⟨(ec _).trans x0, (ec _).trans x1, (ec _).trans x2⟩
theorem own_block_lt {B : Nat} {H : List Pr} {v : Value} {w : World} (h : Row9 B H v w) : ∀ g, v.ownBlock = some g → g < w.heap.size := by
  intro g hg
  rcases h.2 with ⟨rfl, _⟩ | ⟨g', cap, cur, rfl, _, hb, _⟩
  · cases hg
  · obtain rfl : g' = g := by simpa [Value.ownBlock] using hg
    exact lt_of_at hb
theorem take_self {α : Type} (l : List α) (m : Nat) : l.take (l.take m).length = l.take m := by
  rw [List.length_take]
  by_cases h : m ≤ l.length
  · rw [Nat.min_eq_left h]
  · rw [Nat.min_eq_right (by omega), List.take_length, List.take_of_length_le (by omega)]
theorem text_zero (a : ByteArray) : (a ++ ⟨#[0]⟩ : ByteArray).toList = a.toList ++ [0] := by
  rw [ByteArray.toList_eq, ByteArray.toList_eq, ByteArray.data_append, Array.toList_append]
/-- One more part. -/
theorem part_on {Q D : List Pr} {jj m : Nat} (hD : D = (Q.drop jj).take m) : Q.take jj ++ D = Q.take (jj + D.length) := by
  rw [List.take_add]
  congr 1
  rw [hD, take_self]
theorem part_next {Q D : List Pr} {jj m J : Nat} {k : ByteArray} (hs : Sorted Q) (hD : D = (Q.drop jj).take m) (hJ : D.length = J + 1) (hJD : J < D.length) (hk : k.toList = D[J].k.toList ++ [0]) : (Q.filter fun q => !lt q.k k) = Q.drop (jj + D.length) := by
  have hl : D.length ≤ Q.length - jj := by rw [hD, List.length_take, List.length_drop]; omega
  have hjj : jj + J < Q.length := by omega
  have e1 : Q = Q.take (jj + J) ++ Q[jj + J] :: Q.drop (jj + J + 1) := by
    conv => lhs; rw [← List.take_append_drop (jj + J) Q, List.drop_eq_getElem_cons hjj]
  have e2 : D[J] = Q[jj + J] := by
    have h1 : D[J]? = some D[J] := List.getElem?_eq_getElem hJD
    have h2 : D[J]? = Q[jj + J]? := by
      rw [hD, List.getElem?_take, List.getElem?_drop]
      have : J < m := by
        have h3 : D.length ≤ m := by rw [hD]; exact List.length_take_le _ _
        omega
      rw [if_pos this]
    rw [h2, List.getElem?_eq_getElem hjj] at h1
    exact (Option.some.inj h1).symm
  rw [e2] at hk
  have hs2 : Sorted (Q.take (jj + J) ++ Q[jj + J] :: Q.drop (jj + J + 1)) := by rw [← e1]; exact hs
  have h := drop_next hs2 hk
  rw [← e1] at h
  rw [h, hJ]; rfl
/-- An append whose run is known, as a step of a walk. -/
theorem step_rows {w : World} {ops : Array Oper} {rest : List Oper} {o : Oper} {a : Act} {Q : Exit → Act → World → Prop} (hw : Region.wanted o (yielded ops a.tmps) = true) (s x : Operand) (t : TypeId)
    (ho : o.op = .call { callee := .builtin .append, args := #[s, x], argTypes := #[t, t] }) (v y v2 : Value) (w2 : World) (hs : a.eval s = v) (hx : a.eval x = y) (hrun : (Builtin.append_ #[t, t] o.type #[v, y]).run Try.prog w = .ok v2 w2)
    (h : wpList Try.prog ops Q rest (a.put o.dst v2) w2) : wpList Try.prog ops Q (o :: rest) a w := by
  refine wpList_step fun K hK => ?_
  rw [if_pos hw]
  unfold Oper.wp execOp
  simp only [ho, resolve, invoke, builtin, Sem.run_bind, Sem.run_pure, Result.andThen_ok, List.map_toArray, List.map_cons, List.map_nil, hs, hx, hrun]
  exact hK _ _ h
end Go.Proofs.Ytkbjmbllnnghlaa.Rr9
