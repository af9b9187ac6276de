/- Values and rows that came in: their cells, their places, and what their fields hold. -/
import Derived.Test.YtbkaphcipbhmhaaDoorVh
import Derived.ProofKit
import Derived.OpenShut
import Derived.Deep.Slices
import Derived.ChangeSame
import Derived.SizedLaws
namespace Go.Proofs.YtbkaphcipbhmhaaDoor.Vz
open Go Go.ChangeShapes Go.WideShapes Go.Deep Go.RowKit Go.Proofs.YtbkaphcipbhmhaaDoor.RowKit Go.Proofs.YtbkaphcipbhmhaaDoor.Vm Go.Proofs.YtbkaphcipbhmhaaDoor.Vr Go.Proofs.YtbkaphcipbhmhaaDoor.Vh
def dat {H : Type} (a : V) : DataW H := .agg [.lit (.int .u8 a.k), .lit (.int .i64 a.n), .lit (.int .u64 (a.r : Int)), .lit (.string a.s.data.toList)]
/-- The ranges of a value's numbers. -/
structure Nums (a : V) : Prop where
  k : 0 ≤ a.k ∧ a.k ≤ 255
  n : -9223372036854775808 ≤ a.n ∧ a.n ≤ 9223372036854775807
  r : a.r < 18446744073709551616
theorem wf_i64 {a : Int} (h : (Lit.int .i64 a).wf = true) : -9223372036854775808 ≤ a ∧ a ≤ 9223372036854775807 := by
  simpa [Lit.wf, IntKind.min, IntKind.max, IntKind.signed, IntKind.bits] using h
section
variable {H : Type} {enc : TypeId × Value → H} {w : World} {base : Nat} {spare : Nat → Bool} {held : Bool}
set_option maxRecDepth 100000 in
/-- Four cells that read as a value. -/
theorem read_val {fuel : Nat} {cs : List Value} {x : DataW H × List MemPlace} (h : DataW.trod enc Tryd.prog w base spare held fuel 38 cs = some x) :
    ∃ a : V, cs = [.int .u8 a.k, .int .i64 a.n, .int .u64 (a.r : Int), .string a.s] ∧ x = (dat a, []) ∧ Nums a := by
  obtain ⟨xs, n, _, hx, hc, hlen, hg⟩ := DataW.trod_struct Tryd.underlying38 h
  have hC : Tryd.prog.cellsOf 38 = 4 := by kernel_rfl
  rw [hC] at hc
  match cs, hc, xs, hlen with
  | [c0, c1, c2, c3], _, [y0, y1, y2, y3], _ =>
    have q0 : Tryd.prog.cellsOf 5 = 1 := by kernel_rfl
    have q1 : Tryd.prog.cellsOf 2 = 1 := by kernel_rfl
    have q2 : Tryd.prog.cellsOf 36 = 1 := by kernel_rfl
    have q3 : Tryd.prog.cellsOf 9 = 1 := by kernel_rfl
    have g0 : DataW.trod enc Tryd.prog w base spare held n 5 [c0] = some y0 := by have h := hg 0 _ rfl; simpa [q0] using h
    have g1 : DataW.trod enc Tryd.prog w base spare held n 2 [c1] = some y1 := by have h := hg 1 _ rfl; simpa [q1] using h
    have g2 : DataW.trod enc Tryd.prog w base spare held n 36 [c2] = some y2 := by have h := hg 2 _ rfl; simpa [q2] using h
    have g3 : DataW.trod enc Tryd.prog w base spare held n 9 [c3] = some y3 := by have h := hg 3 _ rfl; simpa [q3] using h
    obtain ⟨a0, e0, f0, w0⟩ := DataW.trod_int Tryd.underlying5 g0
    obtain ⟨a1, e1, f1, w1⟩ := DataW.trod_int Tryd.underlying2 g1
    obtain ⟨a2, e2, f2, w2⟩ := DataW.trod_int Tryd.underlying36 g2
    obtain ⟨a3, e3, f3, _⟩ := DataW.trod_string Tryd.underlying9 g3
    simp only [List.cons.injEq, and_true] at e0 e1 e2 e3
    subst e0 e1 e2 e3 f0 f1 f2 f3
    have u0 := wf_u8 w0
    have u2 := wf_u64 w2
    obtain ⟨R, rfl⟩ : ∃ R : Nat, a2 = (R : Int) := ⟨a2.toNat, by omega⟩
    exact ⟨⟨a0, a1, R, a3⟩, rfl, hx, ⟨⟨u0.1, by show a0 ≤ 255; omega⟩, wf_i64 w1, by show R < _; omega⟩⟩
end
theorem text_size {H : Type} (a : V) (h : ((dat a : DataW H).weights Tryd.prog 38).all (· ≤ reachBytes) = true) : a.s.size ≤ 140737488351232 := by
  have h := List.all_eq_true.1 h a.s.data.toList.length (by simp [dat, DataW.weights, Tryd.underlying38, DataW.weightsEach])
  have hr : reachBytes = 140737488351232 := rfl
  simpa [hr] using h
/-- A value by itself. -/
theorem open_val {H : Type} {enc : TypeId × Value → H} {W : World} {r : Reach} {b0 : Nat} {v : Value} {d : DataW H} {p : List MemPlace} (hv : Value.okWide Tryd.prog W r b0 38 v)
    (h : DataW.Trod enc Tryd.prog W 0 (fun _ => true) true 38 v d p) (hsz : (d.weights Tryd.prog 38).all (· ≤ reachBytes) = true) : ∃ a : V, v = vv a ∧ a.ok ∧ p = [] := by
  obtain ⟨cs, rfl, _⟩ := okWide_struct Tryd.underlying38 hv
  obtain ⟨fuel, hf⟩ := h
  obtain ⟨a, e, hx, hn⟩ := read_val hf
  simp only [Prod.mk.injEq] at hx
  obtain ⟨rfl, rfl⟩ := hx
  refine ⟨a, ?_, ⟨hn.k, hn.n, hn.r, text_size a hsz⟩, rfl⟩
  obtain ⟨l⟩ := cs
  simp only [Value.cells] at e
  subst e
  rfl
theorem pick_list {α : Type} (p : Nat → α → Prop) : ∀ n : Nat, (∀ i, i < n → ∃ a, p i a) → ∃ l : List α, l.length = n ∧ ∀ i (h : i < l.length), p i l[i]
  | 0, _ => ⟨[], rfl, fun i h => by simp at h⟩
  | n + 1, h => by
    obtain ⟨l, hl, hp⟩ := pick_list p n fun i hi => h i (by omega)
    obtain ⟨a, ha⟩ := h n (by omega)
    refine ⟨l ++ [a], by simp [hl], fun i hi => ?_⟩
    by_cases hil : i < l.length
    · rw [List.getElem_append_left hil]; exact hp i hil
    · have : i = n := by simp at hi; omega
      subst this
      simp [hl]
      exact ha
theorem weights_in {H : Type} {P : Program} {e : TypeId} : ∀ (l : List (DataW H)) (d : DataW H), d ∈ l → ∀ x ∈ d.weights P e, x ∈ DataW.weightsAll P e l
  | [], d, hd, _, _ => by simp at hd
  | a :: l, d, hd, x, hx => by
    simp only [DataW.weightsAll, List.mem_append]
    rcases List.mem_cons.1 hd with rfl | hd
    · exact .inl hx
    · exact .inr (weights_in l d hd x hx)
/-- How a slice that came in lies: nil, or somewhere. -/
def LiesAt (A : Option Addr) (c : Nat) (l : List V) : Prop := (A = none ∧ c = 0 ∧ l = []) ∨ ∃ ad, A = some ad
/-- A row that came in. -/
structure RowAt (W : World) (A : Option Addr) (c : Nat) (l : List V) : Prop where
  reads : Reads W A l
  lies : LiesAt A c l
  ok : ∀ v ∈ l, v.ok
  len : l.length * 40 ≤ 140737488351232
theorem RowAt.texts {W : World} {A : Option Addr} {c : Nat} {l : List V} (h : RowAt W A c l) : Vc.Texts l := fun v hv => (h.ok v hv).s
theorem RowAt.bits {W : World} {A : Option Addr} {c : Nat} {l : List V} (h : RowAt W A c l) : Vf.Bits l := fun v hv => (h.ok v hv).r
theorem RowAt.count {W : World} {A : Option Addr} {c : Nat} {l : List V} (h : RowAt W A c l) : l.length ≤ 140737488351232 := by have := h.len; omega
set_option maxRecDepth 100000 in
theorem open_vals {H : Type} {enc : TypeId × Value → H} {W : World} {r : Reach} {b0 : Nat} {v : Value} {d : DataW H} {p : List MemPlace} (hv : Value.okWide Tryd.prog W r b0 22 v)
    (h : DataW.Trod enc Tryd.prog W 0 (fun _ => true) true 22 v d p) (hsz : (d.weights Tryd.prog 22).all (· ≤ reachBytes) = true) :
    ∃ (A : Option Addr) (c : Nat) (l : List V), v = .slice A l.length c ∧ RowAt W A c l ∧ (∀ x ∈ p, x.block < W.heap.size) := by
  obtain ⟨a0, len0, cap0, rfl⟩ := okWide_slice Tryd.underlying22 hv
  obtain ⟨fuel, hf⟩ := h
  have hC : Tryd.prog.cellsOf 38 = 4 := by kernel_rfl
  rcases open_slice Tryd.underlying22 hf with ⟨hc, hx⟩ | ⟨a, len, cap, m, n, D, Pl, hc, _, hlc, _, hm, hx, hi⟩
  · simp only [Value.cells, List.cons.injEq, and_true] at hc
    cases hc
    simp only [Prod.mk.injEq] at hx
    exact ⟨none, 0, [], rfl, ⟨Reads.nil _ _, .inl ⟨rfl, rfl, rfl⟩, (fun v hv => (by cases hv)), (by decide)⟩, fun x hx' => by rw [hx.2] at hx'; cases hx'⟩
  · simp only [Value.cells, List.cons.injEq, and_true] at hc
    cases hc
    simp only [if_true] at hm
    simp only [Prod.mk.injEq] at hx
    rw [hC] at hx hi
    have hel : ∀ i, i < m → ∃ u : V, (∀ j c, [Value.int .u8 u.k, .int .i64 u.n, .int .u64 (u.r : Int), .string u.s][j]? = some c → W.cell? (a.add (i * 4 + j)) = some c) ∧ D i = dat u ∧ Pl i = [] ∧ Nums u := by
      intro i him
      obtain ⟨cs', hcc, ht⟩ := hi i him
      obtain ⟨u, rfl, hd, hn⟩ := read_val ht
      obtain ⟨_, _, hat⟩ := World.cells?_some hcc
      simp only [Prod.mk.injEq] at hd
      refine ⟨u, fun j c hj => ?_, hd.1, hd.2, hn⟩
      have hj4 : j < 4 := by simpa using (List.getElem?_eq_some_iff.1 hj).1
      have := hat j hj4
      rw [hj, add_add] at this
      exact this
    obtain ⟨l, hl, hlp⟩ := pick_list _ len0 fun i hi' => hel i (by omega)
    have hw0 : (len0 + (m - len0)) * Tryd.prog.bytesOf 38 ≤ reachBytes := by
      have h1 := List.all_eq_true.1 hsz ((len0 + (m - len0)) * Tryd.prog.bytesOf 38) (by
        rw [hx.1]
        simp [DataW.weights, Tryd.underlying22])
      simpa using h1
    have hb40 : Tryd.prog.bytesOf 38 = 40 := by kernel_rfl
    rw [hb40] at hw0
    have hreach : reachBytes = 140737488351232 := rfl
    have hblk : ∀ i, i < m → a.block < W.heap.size := fun i hi' => by
      obtain ⟨u, hcell, _⟩ := hel i hi'
      have hc0 := hcell 0 _ rfl
      have hbl : (a.add (i * 4 + 0)).block = a.block := by unfold Addr.add; split <;> rfl
      rcases Nat.lt_or_ge a.block W.heap.size with h' | h'
      · exact h'
      · have e : W.heap[(a.add (i * 4 + 0)).block]? = none := by rw [hbl]; simp; omega
        unfold World.cell? at hc0
        rw [e] at hc0
        cases hc0
    have hspot : 0 < m → a.spot = none := fun h0 => by
      obtain ⟨u, hcell, _⟩ := hel 0 h0
      have hc0 := hcell 0 _ rfl
      cases hs : a.spot with
      | none => rfl
      | some x =>
        unfold World.cell? at hc0
        simp [Addr.add, hs] at hc0
        split at hc0 <;> simp at hc0
    refine ⟨some a, cap0, l, by rw [hl], ⟨fun hne => ?_, .inr ⟨a, rfl⟩, fun u hu => ?_, by rw [hl]; omega⟩, fun x hx' => ?_⟩
    · have hpos : 0 < l.length := List.length_pos_iff.2 hne
      obtain ⟨b, o, sp⟩ := a
      have hsp := hspot (by omega)
      dsimp only at hsp
      subst hsp
      refine ⟨b, o, rfl, hblk 0 (by omega), fun k hk => ?_⟩
      have he := (hlp k hk).1
      refine ⟨?_, ?_, ?_, ?_⟩
      · have := he 0 _ rfl; rwa [Addr.add_lit, Nat.add_zero] at this
      · have := he 1 _ rfl; rwa [Addr.add_lit, ← Nat.add_assoc] at this
      · have := he 2 _ rfl; rwa [Addr.add_lit, ← Nat.add_assoc] at this
      · have := he 3 _ rfl; rwa [Addr.add_lit, ← Nat.add_assoc] at this
    · obtain ⟨k, hk, rfl⟩ := List.getElem_of_mem hu
      obtain ⟨_, hd, _, hn⟩ := hlp k hk
      refine ⟨hn.k, hn.n, hn.r, text_size (H := H) l[k] ?_⟩
      rw [List.all_eq_true]
      intro x hx2
      have h2 := weights_in (P := Tryd.prog) (e := 38) ((List.range len0).map D) (D k) (List.mem_map.2 ⟨k, by simp; omega, rfl⟩) x (by rw [hd]; exact hx2)
      have h1 := List.all_eq_true.1 hsz x (by
        rw [hx.1]
        simp only [DataW.weights, Tryd.underlying22, List.mem_cons, List.mem_append]
        exact .inr (.inl h2))
      exact h1
    · rw [hx.2, List.mem_append] at hx'
      rcases hx' with hx' | hx'
      · unfold MemPlace.row at hx'
        obtain ⟨i, hi', rfl⟩ := List.mem_map.1 hx'
        have : i < m * 4 := by simpa using hi'
        exact hblk 0 (by omega)
      · obtain ⟨i, hi', hxi⟩ := List.mem_flatMap.1 hx'
        obtain ⟨u, _, _, hpl, _⟩ := hel i (by simpa using hi')
        rw [hpl] at hxi
        cases hxi
end Go.Proofs.YtbkaphcipbhmhaaDoor.Vz
