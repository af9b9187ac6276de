/- Pairs and rows of pairs that came in: their cells, their places, and that no text is too long for a machine. -/
import Derived.Test.YtmnaamjoikfpbaaRd9
import Derived.ProofKit
import Derived.OpenShut
import Derived.Deep.Slices
import Derived.ChangeSame
import Derived.SizedLaws
namespace Go.Proofs.Ytmnaamjoikfpbaa.Op9
open Go Go.ChangeShapes Go.WideShapes Go.Deep Go.RowKit Go.Proofs.Ytmnaamjoikfpbaa.Pm9 Go.Proofs.Ytmnaamjoikfpbaa.Rd9
def dat {H : Type} (a : Pr) : DataW H := .agg [.lit (.string a.k.data.toList), .lit (.string a.v.data.toList), .lit (.bool a.g)]
section
variable {H : Type} {enc : TypeId × Value → H} {w : World} {base : Nat} {spare : Nat → Bool} {held : Bool}
set_option maxRecDepth 100000 in
/-- Three cells that read as a pair. -/
theorem read_pair {fuel : Nat} {cs : List Value} {x : DataW H × List MemPlace} (h : DataW.trod enc Try.prog w base spare held fuel 39 cs = some x) :
    ∃ a : Pr, cs = cells3 a ∧ x = (dat a, []) := by
  obtain ⟨xs, n, _, hx, hc, hlen, hg⟩ := DataW.trod_struct Try.underlying39 h
  have hC : Try.prog.cellsOf 39 = 3 := by kernel_rfl
  rw [hC] at hc
  match cs, hc, xs, hlen with
  | [c0, c1, c2], _, [y0, y1, y2], _ =>
    have q0 : Try.prog.cellsOf 9 = 1 := by kernel_rfl
    have q2 : Try.prog.cellsOf 4 = 1 := by kernel_rfl
    have g0 : DataW.trod enc Try.prog w base spare held n 9 [c0] = some y0 := by have h := hg 0 _ rfl; simpa [q0] using h
    have g1 : DataW.trod enc Try.prog w base spare held n 9 [c1] = some y1 := by have h := hg 1 _ rfl; simpa [q0] using h
    have g2 : DataW.trod enc Try.prog w base spare held n 4 [c2] = some y2 := by have h := hg 2 _ rfl; simpa [q2] using h
    obtain ⟨a0, e0, f0, _⟩ := DataW.trod_string Try.underlying9 g0
    obtain ⟨a1, e1, f1, _⟩ := DataW.trod_string Try.underlying9 g1
    obtain ⟨a2, e2, f2⟩ := DataW.trod_bool Try.underlying4 g2
    simp only [List.cons.injEq, and_true] at e0 e1 e2
    subst e0 e1 e2 f0 f1 f2
    exact ⟨⟨a0, a1, a2⟩, rfl, hx⟩
end
theorem text_size {H : Type} (a : Pr) (h : ((dat a : DataW H).weights Try.prog 39).all (· ≤ reachBytes) = true) : a.k.size ≤ 140737488351232 ∧ a.v.size ≤ 140737488351232 := by
  have h0 := List.all_eq_true.1 h a.k.data.toList.length (by simp [dat, DataW.weights, Try.underlying39, DataW.weightsEach])
  have h1 := List.all_eq_true.1 h a.v.data.toList.length (by simp [dat, DataW.weights, Try.underlying39, DataW.weightsEach])
  have hr : reachBytes = 140737488351232 := rfl
  exact ⟨by simpa [hr] using h0, by simpa [hr] using h1⟩
set_option maxRecDepth 100000 in
/-- A pair by itself. -/
theorem open_pair {H : Type} {enc : TypeId × Value → H} {W : World} {r : Reach} {b0 : Nat} {v : Value} {d : DataW H} {p : List MemPlace} (hv : Value.okWide Try.prog W r b0 39 v)
    (h : DataW.Trod enc Try.prog W 0 (fun _ => true) true 39 v d p) (hsz : (d.weights Try.prog 39).all (· ≤ reachBytes) = true) :
    ∃ a : Pr, v = .agg #[.string a.k, .string a.v, .bool a.g] ∧ (a.k.size ≤ 140737488351232 ∧ a.v.size ≤ 140737488351232) ∧ p = [] := by
  obtain ⟨cs, rfl, _⟩ := okWide_struct Try.underlying39 hv
  obtain ⟨fuel, hf⟩ := h
  obtain ⟨a, e, hx⟩ := read_pair hf
  simp only [Prod.mk.injEq] at hx
  obtain ⟨rfl, rfl⟩ := hx
  refine ⟨a, ?_, text_size a hsz, rfl⟩
  obtain ⟨l⟩ := cs
  simp only [Value.cells] at e
  subst e
  rfl
theorem pick_list {α : Type} (p : Nat → α → Prop) : ∀ n : Nat, (∀ i, i < n → ∃ a, p i a) → ∃ l : List α, l.length = n ∧ ∀ i (h : i < l.length), p i l[i]
  | 0, _ => ⟨[], rfl, fun i h => by simp at h⟩
  | n + 1, h => by
    obtain ⟨l, hl, hp⟩ := pick_list p n fun i hi => h i (by omega)
    obtain ⟨a, ha⟩ := h n (by omega)
    refine ⟨l ++ [a], by simp [hl], fun i hi => ?_⟩
    by_cases hil : i < l.length
    · rw [List.getElem_append_left hil]; exact hp i hil
    · have : i = n := by simp at hi; omega
      subst this
      simp [hl]
      exact ha
theorem weights_in {H : Type} {P : Program} {e : TypeId} : ∀ (l : List (DataW H)) (d : DataW H), d ∈ l → ∀ x ∈ d.weights P e, x ∈ DataW.weightsAll P e l
  | [], d, hd, _, _ => by simp at hd
  | a :: l, d, hd, x, hx => by
    simp only [DataW.weightsAll, List.mem_append]
    rcases List.mem_cons.1 hd with rfl | hd
    · exact .inl hx
    · exact .inr (weights_in l d hd x hx)
/-- A row of pairs that came in. -/
structure PairsAt (W : World) (A : Option Addr) (L : List Pr) : Prop where
  reads : Reads W A L
  text : ∀ x ∈ L, x.k.size ≤ 140737488351232 ∧ x.v.size ≤ 140737488351232
  len : L.length ≤ 140737488351232
set_option maxRecDepth 100000 in
theorem open_pairs {H : Type} {enc : TypeId × Value → H} {W : World} {r : Reach} {b0 : Nat} {v : Value} {d : DataW H} {p : List MemPlace} (hv : Value.okWide Try.prog W r b0 22 v)
    (h : DataW.Trod enc Try.prog W 0 (fun _ => true) true 22 v d p) (hsz : (d.weights Try.prog 22).all (· ≤ reachBytes) = true) :
    ∃ (A : Option Addr) (c : Nat) (L : List Pr), v = .slice A L.length c ∧ PairsAt W A L ∧ (∀ x ∈ p, x.block < W.heap.size) := by
  obtain ⟨a0, len0, cap0, rfl⟩ := okWide_slice Try.underlying22 hv
  obtain ⟨fuel, hf⟩ := h
  have hC : Try.prog.cellsOf 39 = 3 := by kernel_rfl
  rcases open_slice Try.underlying22 hf with ⟨hc, hx⟩ | ⟨a, len, cap, m, n, D, Pl, hc, _, hlc, _, hm, hx, hi⟩
  · simp only [Value.cells, List.cons.injEq, and_true] at hc
    cases hc
    simp only [Prod.mk.injEq] at hx
    exact ⟨none, 0, [], rfl, ⟨Reads.nil _ _, (fun v hv => (by cases hv)), (by decide)⟩, fun x hx' => by rw [hx.2] at hx'; cases hx'⟩
  · simp only [Value.cells, List.cons.injEq, and_true] at hc
    cases hc
    simp only [if_true] at hm
    simp only [Prod.mk.injEq] at hx
    rw [hC] at hx hi
    have hel : ∀ i, i < m → ∃ u : Pr, (∀ j c, (cells3 u)[j]? = some c → W.cell? (a.add (i * 3 + j)) = some c) ∧ D i = dat u ∧ Pl i = [] := by
      intro i him
      obtain ⟨cs', hcc, ht⟩ := hi i him
      obtain ⟨u, rfl, hd⟩ := read_pair ht
      obtain ⟨_, _, hat⟩ := World.cells?_some hcc
      simp only [Prod.mk.injEq] at hd
      refine ⟨u, fun j c hj => ?_, hd.1, hd.2⟩
      have hj4 : j < 3 := by simpa [cells3] using (List.getElem?_eq_some_iff.1 hj).1
      have := hat j hj4
      rw [hj, add_add] at this
      exact this
    obtain ⟨l, hl, hlp⟩ := pick_list _ len0 fun i hi' => hel i (by omega)
    have hw0 : (len0 + (m - len0)) * Try.prog.bytesOf 39 ≤ reachBytes := by
      have h1 := List.all_eq_true.1 hsz ((len0 + (m - len0)) * Try.prog.bytesOf 39) (by
        rw [hx.1]
        simp [DataW.weights, Try.underlying22])
      simpa using h1
    have hb40 : Try.prog.bytesOf 39 = 40 := by kernel_rfl
    rw [hb40] at hw0
    have hreach : reachBytes = 140737488351232 := rfl
    have hblk : ∀ i, i < m → a.block < W.heap.size := fun i hi' => by
      obtain ⟨u, hcell, _⟩ := hel i hi'
      have hc0 := hcell 0 _ rfl
      have hbl : (a.add (i * 3 + 0)).block = a.block := by unfold Addr.add; split <;> rfl
      rcases Nat.lt_or_ge a.block W.heap.size with h' | h'
      · exact h'
      · have e : W.heap[(a.add (i * 3 + 0)).block]? = none := by rw [hbl]; simp; omega
        unfold World.cell? at hc0
        rw [e] at hc0
        cases hc0
    have hspot : 0 < m → a.spot = none := fun h0 => by
      obtain ⟨u, hcell, _⟩ := hel 0 h0
      have hc0 := hcell 0 _ rfl
      cases hs : a.spot with
      | none => rfl
      | some x =>
        unfold World.cell? at hc0
        simp [Addr.add, hs] at hc0
        split at hc0 <;> simp at hc0
    refine ⟨some a, cap0, l, by rw [hl], ⟨fun hne => ?_, fun u hu => ?_, by rw [hl]; omega⟩, fun x hx' => ?_⟩
    · have hpos : 0 < l.length := List.length_pos_iff.2 hne
      obtain ⟨b, o, sp⟩ := a
      have hsp := hspot (by omega)
      dsimp only at hsp
      subst hsp
      refine ⟨b, o, rfl, hblk 0 (by omega), fun k hk => ?_⟩
      have he := (hlp k hk).1
      refine ⟨?_, ?_, ?_⟩
      · have := he 0 _ rfl; rwa [Addr.add_lit, Nat.add_zero] at this
      · have := he 1 _ rfl; rwa [Addr.add_lit, ← Nat.add_assoc] at this
      · have := he 2 _ rfl; rwa [Addr.add_lit, ← Nat.add_assoc] at this
    · obtain ⟨k, hk, rfl⟩ := List.getElem_of_mem hu
      obtain ⟨_, hd, _⟩ := hlp k hk
      refine text_size (H := H) l[k] ?_
      rw [List.all_eq_true]
      intro x hx2
      have h2 := weights_in (P := Try.prog) (e := 39) ((List.range len0).map D) (D k) (List.mem_map.2 ⟨k, by simp; omega, rfl⟩) x (by rw [hd]; exact hx2)
      have h1 := List.all_eq_true.1 hsz x (by
        rw [hx.1]
        simp only [DataW.weights, Try.underlying22, List.mem_cons, List.mem_append]
        exact .inr (.inl h2))
      exact h1
    · rw [hx.2, List.mem_append] at hx'
      rcases hx' with hx' | hx'
      · unfold MemPlace.row at hx'
        obtain ⟨i, hi', rfl⟩ := List.mem_map.1 hx'
        have : i < m * 3 := by simpa using hi'
        exact hblk 0 (by omega)
      · obtain ⟨i, hi', hxi⟩ := List.mem_flatMap.1 hx'
        obtain ⟨u, _, _, hpl⟩ := hel i (by simpa using hi')
        rw [hpl] at hxi
        cases hxi
end Go.Proofs.Ytmnaamjoikfpbaa.Op9

