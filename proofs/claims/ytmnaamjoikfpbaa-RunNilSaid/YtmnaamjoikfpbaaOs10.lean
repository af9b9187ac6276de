/- A step that came in. -/
import Derived.Test.YtmnaamjoikfpbaaOp9
namespace Go.Proofs.Ytmnaamjoikfpbaa.Os10
open Go Go.ChangeShapes Go.WideShapes Go.Deep Go.RowKit Go.Proofs.Ytmnaamjoikfpbaa.Pm9 Go.Proofs.Ytmnaamjoikfpbaa.Rd9 Go.Proofs.Ytmnaamjoikfpbaa.Op9
set_option maxRecDepth 100000 in
theorem open_row {H : Type} {enc : TypeId × Value → H} {W : World} {fuel : Nat} {v : Value} {d : DataW H} {p : List MemPlace} (hf : DataW.trod enc Try.prog W 0 (fun _ => true) true fuel 22 [v] = some (d, p)) :
    ∃ (A : Option Addr) (c : Nat) (L : List Pr), v = .slice A L.length c ∧ ((d.weights Try.prog 22).all (· ≤ reachBytes) = true → PairsAt W A L) ∧ (∀ x ∈ p, x.block < W.heap.size) := by
  have hC : Try.prog.cellsOf 39 = 3 := by kernel_rfl
  rcases open_slice Try.underlying22 hf with ⟨hc, hx⟩ | ⟨a, len, cap, m, n, D, Pl, hc, _, hlc, _, hm, hx, hi⟩
  · simp only [List.cons.injEq, and_true] at hc
    subst hc
    simp only [Prod.mk.injEq] at hx
    exact ⟨none, 0, [], rfl, fun _ => ⟨Reads.nil _ _, (fun v hv => (by cases hv)), (by decide)⟩, fun x hx' => by rw [hx.2] at hx'; cases hx'⟩
  · simp only [List.cons.injEq, and_true] at hc
    subst hc
    simp only [if_true] at hm
    simp only [Prod.mk.injEq] at hx
    rw [hC] at hx hi
    have hel : ∀ i, i < m → ∃ u : Pr, (∀ j c, (cells3 u)[j]? = some c → W.cell? (a.add (i * 3 + j)) = some c) ∧ D i = dat u ∧ Pl i = [] := by
      intro i him
      obtain ⟨cs', hcc, ht⟩ := hi i him
      obtain ⟨u, rfl, hd⟩ := read_pair ht
      obtain ⟨_, _, hat⟩ := World.cells?_some hcc
      simp only [Prod.mk.injEq] at hd
      refine ⟨u, fun j c hj => ?_, hd.1, hd.2⟩
      have hj4 : j < 3 := by simpa [cells3] using (List.getElem?_eq_some_iff.1 hj).1
      have := hat j hj4
      rw [hj, add_add] at this
      exact this
    obtain ⟨l, hl, hlp⟩ := pick_list _ len fun i hi' => hel i (by omega)
    have hblk : ∀ i, i < m → a.block < W.heap.size := fun i hi' => by
      obtain ⟨u, hcell, _⟩ := hel i hi'
      have hc0 := hcell 0 _ rfl
      have hbl : (a.add (i * 3 + 0)).block = a.block := by unfold Addr.add; split <;> rfl
      rcases Nat.lt_or_ge a.block W.heap.size with h' | h'
      · exact h'
      · have e : W.heap[(a.add (i * 3 + 0)).block]? = none := by rw [hbl]; simp; omega
        unfold World.cell? at hc0
        rw [e] at hc0
        cases hc0
    have hspot : 0 < m → a.spot = none := fun h0 => by
      obtain ⟨u, hcell, _⟩ := hel 0 h0
      have hc0 := hcell 0 _ rfl
      cases hs : a.spot with
      | none => rfl
      | some x =>
        unfold World.cell? at hc0
        simp [Addr.add, hs] at hc0
        split at hc0 <;> simp at hc0
    refine ⟨some a, cap, l, by rw [hl], fun hsz => ?_, fun x hx' => ?_⟩
    · have hw0 : (len + (m - len)) * Try.prog.bytesOf 39 ≤ reachBytes := by
        have h1 := List.all_eq_true.1 hsz ((len + (m - len)) * Try.prog.bytesOf 39) (by
          rw [hx.1]
          simp [DataW.weights, Try.underlying22])
        simpa using h1
      have hb40 : Try.prog.bytesOf 39 = 40 := by kernel_rfl
      rw [hb40] at hw0
      have hreach : reachBytes = 140737488351232 := rfl
      refine ⟨fun hne => ?_, fun u hu => ?_, by rw [hl]; omega⟩
      · have hpos : 0 < l.length := List.length_pos_iff.2 hne
        obtain ⟨b, o, sp⟩ := a
        have hsp := hspot (by omega)
        dsimp only at hsp
        subst hsp
        refine ⟨b, o, rfl, hblk 0 (by omega), fun k hk => ?_⟩
        have he := (hlp k hk).1
        refine ⟨?_, ?_, ?_⟩
        · have := he 0 _ rfl; rwa [Addr.add_lit, Nat.add_zero] at this
        · have := he 1 _ rfl; rwa [Addr.add_lit, ← Nat.add_assoc] at this
        · have := he 2 _ rfl; rwa [Addr.add_lit, ← Nat.add_assoc] at this
      · obtain ⟨k, hk, rfl⟩ := List.getElem_of_mem hu
        obtain ⟨_, hd, _⟩ := hlp k hk
        refine text_size (H := H) l[k] ?_
        rw [List.all_eq_true]
        intro x hx2
        have h2 := weights_in (P := Try.prog) (e := 39) ((List.range len).map D) (D k) (List.mem_map.2 ⟨k, by simp; omega, rfl⟩) x (by rw [hd]; exact hx2)
        have h1 := List.all_eq_true.1 hsz x (by
          rw [hx.1]
          simp only [DataW.weights, Try.underlying22, List.mem_cons, List.mem_append]
          exact .inr (.inl h2))
        exact h1
    · rw [hx.2, List.mem_append] at hx'
      rcases hx' with hx' | hx'
      · unfold MemPlace.row at hx'
        obtain ⟨i, hi', rfl⟩ := List.mem_map.1 hx'
        have : i < m * 3 := by simpa using hi'
        exact hblk 0 (by omega)
      · obtain ⟨i, hi', hxi⟩ := List.mem_flatMap.1 hx'
        obtain ⟨u, _, _, hpl⟩ := hel i (by simpa using hi')
        rw [hpl] at hxi
        cases hxi
set_option maxRecDepth 100000 in
/-- A step that came in: its cells, its pairs, its places. -/
theorem open_step {H : Type} {enc : TypeId × Value → H} {W : World} {r : Reach} {b0 : Nat} {v : Value} {d : DataW H} {p : List MemPlace} (hv : Value.okWide Try.prog W r b0 53 v)
    (h : DataW.Trod enc Try.prog W 0 (fun _ => true) true 53 v d p) (hsz : (d.weights Try.prog 53).all (· ≤ reachBytes) = true) :
    ∃ (o : Int) (f : ByteArray) (A : Option Addr) (c : Nat) (L : List Pr) (k a b : ByteArray) (n m : Int), v = .agg #[.int .i64 o, .string f, .slice A L.length c, .string k, .string a, .string b, .int .i64 n, .int .i64 m] ∧
      (PairsAt W A L ∧ f.size ≤ 140737488351232 ∧ k.size ≤ 140737488351232 ∧ a.size ≤ 140737488351232 ∧ b.size ≤ 140737488351232) ∧ (∀ x ∈ p, x.block < W.heap.size) := by
  obtain ⟨cs, rfl, _⟩ := okWide_struct Try.underlying53 hv
  obtain ⟨fuel, hf⟩ := h
  obtain ⟨xs, n, _, hx, hc, hlen, hg⟩ := DataW.trod_struct Try.underlying53 hf
  have hC : Try.prog.cellsOf 53 = 8 := by kernel_rfl
  rw [hC] at hc
  obtain ⟨l⟩ := cs
  simp only [Value.cells] at hc hg
  match l, hc, xs, hlen with
  | [c0, c1, c2, c3, c4, c5, c6, c7], _, [y0, y1, y2, y3, y4, y5, y6, y7], _ =>
    have qs : Try.prog.cellsOf 9 = 1 := by kernel_rfl
    have qi : Try.prog.cellsOf 3 = 1 := by kernel_rfl
    have ql : Try.prog.cellsOf 22 = 1 := by kernel_rfl
    have g0 : DataW.trod enc Try.prog W 0 (fun _ => true) true n 3 [c0] = some y0 := by have h := hg 0 _ rfl; simpa [qi] using h
    have g1 : DataW.trod enc Try.prog W 0 (fun _ => true) true n 9 [c1] = some y1 := by have h := hg 1 _ rfl; simpa [qs] using h
    have g2 : DataW.trod enc Try.prog W 0 (fun _ => true) true n 22 [c2] = some y2 := by have h := hg 2 _ rfl; simpa [ql] using h
    have g3 : DataW.trod enc Try.prog W 0 (fun _ => true) true n 9 [c3] = some y3 := by have h := hg 3 _ rfl; simpa [qs] using h
    have g4 : DataW.trod enc Try.prog W 0 (fun _ => true) true n 9 [c4] = some y4 := by have h := hg 4 _ rfl; simpa [qs] using h
    have g5 : DataW.trod enc Try.prog W 0 (fun _ => true) true n 9 [c5] = some y5 := by have h := hg 5 _ rfl; simpa [qs] using h
    have g6 : DataW.trod enc Try.prog W 0 (fun _ => true) true n 3 [c6] = some y6 := by have h := hg 6 _ rfl; simpa [qi] using h
    have g7 : DataW.trod enc Try.prog W 0 (fun _ => true) true n 3 [c7] = some y7 := by have h := hg 7 _ rfl; simpa [qi] using h
    clear hg
    obtain ⟨a0, e0, f0, _⟩ := DataW.trod_int Try.underlying3 g0
    obtain ⟨a1, e1, f1, _⟩ := DataW.trod_string Try.underlying9 g1
    obtain ⟨d2, p2⟩ := y2
    obtain ⟨A, cp, L, e2, hL, hp⟩ := open_row g2
    obtain ⟨a3, e3, f3, _⟩ := DataW.trod_string Try.underlying9 g3
    obtain ⟨a4, e4, f4, _⟩ := DataW.trod_string Try.underlying9 g4
    obtain ⟨a5, e5, f5, _⟩ := DataW.trod_string Try.underlying9 g5
    obtain ⟨a6, e6, f6, _⟩ := DataW.trod_int Try.underlying3 g6
    obtain ⟨a7, e7, f7, _⟩ := DataW.trod_int Try.underlying3 g7
    simp only [List.cons.injEq, and_true] at e0 e1 e3 e4 e5 e6 e7
    subst e0 e1 e2 e3 e4 e5 e6 e7 f0 f1 f3 f4 f5 f6 f7
    simp only [Prod.mk.injEq] at hx
    obtain ⟨rfl, rfl⟩ := hx
    have hr : reachBytes = 140737488351232 := rfl
    have hw := List.all_eq_true.1 hsz
    have hs : ∀ s : ByteArray, (∀ x ∈ (DataW.lit (.string s.data.toList) : DataW H).weights Try.prog 9, x ≤ reachBytes) → s.size ≤ 140737488351232 := fun s h => by
      have h := h s.data.toList.length (by simp [DataW.weights])
      simpa [hr] using h
    have hin : ∀ (j : Nat) (t : TypeId) (D : DataW H), ([3, 9, 22, 9, 9, 9, 3, 3] : List TypeId)[j]? = some t → ([.lit (.int .i64 a0), .lit (.string a1.data.toList), d2, .lit (.string a3.data.toList), .lit (.string a4.data.toList), .lit (.string a5.data.toList), .lit (.int .i64 a6), .lit (.int .i64 a7)] : List (DataW H))[j]? = some D → ∀ x ∈ D.weights Try.prog t, x ≤ reachBytes := fun j t D h1 h2 x hx => by
      have h := hw x (by
        simp only [DataW.weights, Try.underlying53]
        exact DataW.weights_mem_each (j := j) (t := t) (d := D) h1 h2 x hx)
      simpa using h
    refine ⟨a0, a1, A, cp, L, a3, a4, a5, a6, a7, rfl, ⟨hL ?_, hs a1 (hin 1 _ _ rfl rfl), hs a3 (hin 3 _ _ rfl rfl), hs a4 (hin 4 _ _ rfl rfl), hs a5 (hin 5 _ _ rfl rfl)⟩, fun x hx => hp x (by simpa using hx)⟩
    rw [List.all_eq_true]
    exact fun x hx => by simpa using hin 2 _ _ rfl rfl x hx
end Go.Proofs.Ytmnaamjoikfpbaa.Os10
