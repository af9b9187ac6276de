/- A row of steps that came in, each with a slice of texts: its cells, its places, and that each step is one that a program may hold. -/
import Derived.Test.YtbjemekkpmbhhaaCw8
import Derived.ProofKit
import Derived.OpenShut
import Derived.SliceStrings
import Derived.Deep.Slices
import Derived.Deep.Fields
import Derived.ChangeSame
import Derived.SizedLaws
namespace Go.Proofs.Ytbjemekkpmbhhaa.Os8
open Go Go.ChangeShapes Go.WideShapes Go.Deep Go.Proofs.Ytbjemekkpmbhhaa.Rs7 Go.Proofs.Ytbjemekkpmbhhaa.Hv8 Go.Proofs.Ytbjemekkpmbhhaa.Cw8
theorem weights_in {H : Type} {P : Program} {e : TypeId} (l : List (DataW H)) (d : DataW H) (hd : d ∈ l) (x : Nat) (hx : x ∈ d.weights P e) : x ∈ DataW.weightsAll P e l := by
  induction l with
  | nil => simp at hd
  | cons a l ih =>
    simp only [DataW.weightsAll, List.mem_append]
    rcases List.mem_cons.1 hd with rfl | hd
    · exact .inl hx
    · exact .inr (ih hd)
set_option maxRecDepth 100000 in
theorem open_texts {H : Type} {enc : TypeId × Value → H} {W : World} {fuel : Nat} {v : Value} {y : DataW H × List MemPlace} (hf : DataW.trod enc Try.prog W 0 (fun _ => true) true fuel 30 [v] = some y) :
    ∃ (A : Option Addr) (cap : Nat) (L : List ByteArray), v = .slice A L.length cap ∧ Rds W A L ∧ (A = none → L = [] ∧ cap = 0) ∧ L.length ≤ cap ∧ (∀ x ∈ y.2, x.block < W.heap.size) ∧
      ((∀ x ∈ y.1.weights Try.prog 30, x ≤ reachBytes) → L.length ≤ 140737488351232 ∧ ∀ k (h : k < L.length), L[k].size ≤ 140737488351232) := by
  have hC : Try.prog.cellsOf 9 = 1 := by kernel_rfl
  rcases open_strings Try.underlying30 Try.underlying9 hC hf with ⟨hc, hx⟩ | ⟨a, len, cap, ss, hc, _, hlc, hcm, hm, hx, hcell, _⟩
  · simp only [List.cons.injEq, and_true] at hc
    subst hc
    refine ⟨none, 0, [], rfl, Rds.nil _ _, fun _ => ⟨rfl, rfl⟩, by decide, fun x hx' => by rw [hx] at hx'; simp at hx', fun _ => ⟨by decide, fun k hk => by simp at hk⟩⟩
  · simp only [List.cons.injEq, and_true] at hc
    subst hc
    simp only [if_true] at hm
    have hL : (ss.take len).length = len := by rw [List.length_take]; omega
    have hblk : 0 < ss.length → a.block < W.heap.size := fun hi => by
      have hc0 := hcell 0 hi
      have hbl : (a.add 0).block = a.block := by unfold Addr.add; split <;> rfl
      rcases Nat.lt_or_ge a.block W.heap.size with h' | h'
      · exact h'
      · have e : W.heap[(a.add 0).block]? = none := by rw [hbl]; simp; omega
        unfold World.cell? at hc0
        rw [e] at hc0
        cases hc0
    refine ⟨some a, cap, ss.take len, by rw [hL], ?_, (fun h => by cases h), (by rw [hL]; exact hlc), ?_, ?_⟩
    · intro hne
      have hpos : 0 < len := by
        rw [← hL]; exact List.length_pos_iff.2 hne
      have h0 := hcell 0 (by omega)
      have hlt := hblk (by omega)
      obtain ⟨b, o, sp⟩ := a
      have hsp : sp = none := by
        cases sp with
        | none => rfl
        | some x =>
          unfold World.cell? at h0
          simp [Addr.add] at h0
          split at h0 <;> simp at h0
      subst hsp
      refine ⟨b, o, rfl, hlt, fun k hk => ?_⟩
      rw [hL] at hk
      have hc1 := hcell k (by omega)
      rw [Addr.add_lit] at hc1
      rw [hc1, List.getElem_take]
      congr 2
      rw [List.getD_eq_getElem?_getD, List.getElem?_eq_getElem (by omega)]; rfl
    · intro x hx'
      rw [hx] at hx'
      unfold MemPlace.row at hx'
      obtain ⟨i, hi, rfl⟩ := List.mem_map.1 hx'
      have hi' : i < ss.length := by simpa using hi
      exact hblk (by omega)
    · intro hsz
      rw [hx] at hsz
      have hreach : reachBytes = 140737488351232 := rfl
      have hb16 : Try.prog.bytesOf 9 = 16 := by kernel_rfl
      have hw0 : (len + (ss.length - len)) * Try.prog.bytesOf 9 ≤ reachBytes := by
        refine hsz _ ?_
        simp only [DataW.weights, Try.underlying30, List.mem_cons]
        refine .inl ?_
        congr 1
        simp only [strs, List.length_map, List.length_take, List.length_drop]
        omega
      rw [hb16] at hw0
      refine ⟨by rw [hL]; omega, fun k hk => ?_⟩
      have h3 := hsz ((ss.take len)[k].data.toList.length) (by
        simp only [DataW.weights, Try.underlying30, List.mem_cons, List.mem_append]
        refine .inr (.inl (weights_in _ (.lit (.string (ss.take len)[k].data.toList)) ?_ _ (by simp [DataW.weights])))
        exact List.mem_map.2 ⟨_, List.getElem_mem hk, rfl⟩)
      have h2 : (ss.take len)[k].data.toList.length = (ss.take len)[k].size := by simp
      omega
section
variable {H : Type} {enc : TypeId × Value → H} {P : Program} {w : World} {base : Nat} {spare : Nat → Bool} {held : Bool}
theorem open_slice_fields {t e : TypeId} {fs : Array Field} {fuel : Nat} {cs : List Value} {x : DataW H × List MemPlace} (ht : P.underlying t = some (.slice e)) (he : P.underlying e = some (.struct fs))
    (hone : oneCellFields P fs = true) (hC : P.cellsOf e = fs.size) (h : DataW.trod enc P w base spare held fuel t cs = some x) :
    (cs = [.slice none 0 0] ∧ x = (.nil, [])) ∨
    ∃ (a : Addr) (len cap m : Nat) (D : Nat → DataW H) (Pl : Nat → List MemPlace), cs = [.slice (some a) len cap] ∧ base ≤ a.block ∧ len ≤ cap ∧ cap ≤ maxLen ∧ m = (if spare a.block then cap else len) ∧
      x = (.slice ((List.range len).map D) ((List.range (m - len)).map fun j => D (len + j)), MemPlace.row a (m * fs.size) ++ (List.range m).flatMap Pl) ∧
      ∀ i, i < m → ∃ (ys : List (DataW H × List MemPlace)) (n : Nat), D i = .agg (ys.map (·.1)) ∧ Pl i = ys.flatMap (·.2) ∧ ys.length = fs.size ∧
        ∀ (j : Nat) (f : Field), fs[j]? = some f → ∃ (v : Value) (y : DataW H × List MemPlace), w.cell? (a.add (i * fs.size + j)) = some v ∧ ys[j]? = some y ∧ DataW.trod enc P w base spare held n f.type [v] = some y := by
  rcases open_slice ht h with h0 | ⟨a, len, cap, m, n, D, Pl, hcs, hb, hl, hm, hmm, hx, hi⟩
  · exact .inl h0
  · refine .inr ⟨a, len, cap, m, D, Pl, hcs, hb, hl, hm, hmm, by rw [hC] at hx; exact hx, fun i him => ?_⟩
    obtain ⟨cs', hc, ht'⟩ := hi i him
    rw [hC] at hc
    obtain ⟨ys, n', hn', hy, hlen, hyl, hf⟩ := DataW.trod_struct he ht'
    obtain ⟨_, hcl, hat⟩ := World.cells?_some hc
    simp only [Prod.mk.injEq] at hy
    refine ⟨ys, n', hy.1, hy.2, hyl, fun j f hj => ?_⟩
    obtain ⟨ho, hk⟩ := hone_of hone j f hj
    have hjl : j < fs.size := (Array.getElem?_eq_some_iff.1 hj).1
    have hcell := hat j hjl
    have hv : cs'[j]? = some (cs'[j]'(by omega)) := List.getElem?_eq_getElem (by omega)
    have h1 := hf j f hj
    rw [ho, hk] at h1
    have hone' : (cs'.drop j).take 1 = [cs'[j]'(by omega)] := by
      rw [List.drop_eq_getElem_cons (by omega)]
      rfl
    rw [hone'] at h1
    have hys : ys[j]? = some (ys[j]'(by omega)) := List.getElem?_eq_getElem (by omega)
    refine ⟨_, _, ?_, hys, h1.trans hys⟩
    rw [← Go.Deep.add_add, hcell, hv]
end
theorem choose_list {α : Type} (p : Nat → α → Prop) : ∀ n : Nat, (∀ i, i < n → ∃ a, p i a) → ∃ l : List α, l.length = n ∧ ∀ i (h : i < l.length), p i l[i]
  | 0, _ => ⟨[], rfl, fun i h => by simp at h⟩
  | n + 1, h => by
    obtain ⟨l, hl, hp⟩ := choose_list p n fun i hi => h i (by omega)
    obtain ⟨a, ha⟩ := h n (by omega)
    refine ⟨l ++ [a], by simp [hl], fun i hi => ?_⟩
    by_cases hil : i < l.length
    · rw [List.getElem_append_left hil]; exact hp i hil
    · have : i = n := by simp at hi; omega
      subst this
      simp [hl] 
      exact ha
theorem wf_i64 {a : Int} (h : (Lit.int .i64 a).wf = true) : -9223372036854775808 ≤ a ∧ a ≤ 9223372036854775807 := by
  simpa [Lit.wf, IntKind.min, IntKind.max, IntKind.signed, IntKind.bits] using h
theorem weights_all {H : Type} {P : Program} {e : TypeId} (D : Nat → DataW H) (n : Nat) (i : Nat) (hi : i < n) : ∀ x ∈ (D i).weights P e, x ∈ DataW.weightsAll P e ((List.range n).map D) := by
  intro x hx
  have key : ∀ (l : List (DataW H)) (d : DataW H), d ∈ l → x ∈ d.weights P e → x ∈ DataW.weightsAll P e l := by
    intro l
    induction l with
    | nil => intro d hd; simp at hd
    | cons a l ih =>
      intro d hd hx
      simp only [DataW.weightsAll, List.mem_append]
      rcases List.mem_cons.1 hd with rfl | hd
      · exact .inl hx
      · exact .inr (ih d hd hx)
  exact key _ (D i) (List.mem_map.2 ⟨i, by simpa using hi, rfl⟩) hx
/-- What an element of the row is. -/
structure El {H : Type} (W : World) (a : Addr) (D : Nat → DataW H) (Pl : Nat → List MemPlace) (i : Nat) (s : Sx) : Prop where
  c0 : W.cell? (a.add (i * 4 + 0)) = some (.int .i64 s.o)
  c1 : W.cell? (a.add (i * 4 + 1)) = some (.slice s.A s.L.length s.c)
  c2 : W.cell? (a.add (i * 4 + 2)) = some (.int .i64 s.n)
  c3 : W.cell? (a.add (i * 4 + 3)) = some (.int .i64 s.m)
  pl : ∀ x ∈ Pl i, x.block < W.heap.size
  reads : Rds W s.A s.L
  none : s.A = none → s.L = [] ∧ s.c = 0
  cap : s.L.length ≤ s.c
  d : ∃ d1 : DataW H, D i = .agg [.lit (.int .i64 s.o), d1, .lit (.int .i64 s.n), .lit (.int .i64 s.m)] ∧ ((∀ x ∈ d1.weights Try.prog 30, x ≤ reachBytes) → s.L.length ≤ 140737488351232 ∧ ∀ k (h : k < s.L.length), s.L[k].size ≤ 140737488351232)
  o : (Lit.int .i64 s.o).wf = true
  n : (Lit.int .i64 s.n).wf = true
  m : (Lit.int .i64 s.m).wf = true
set_option maxRecDepth 100000 in
theorem open_steps {H : Type} {enc : TypeId × Value → H} {W : World} {r : Reach} {b0 : Nat} {v : Value} {d : DataW H} {p : List MemPlace} (hv : Value.okWide Try.prog W r b0 22 v)
    (h : DataW.Trod enc Try.prog W 0 (fun _ => true) true 22 v d p) (hsz : (d.weights Try.prog 22).all (· ≤ reachBytes) = true) :
    ∃ (ao : Option Addr) (cap : Nat) (l : List Sx), v = .slice ao l.length cap ∧ CameIn W ao l ∧ (∀ x ∈ p, x.block < W.heap.size) := by
  obtain ⟨a0, len0, cap0, rfl⟩ := okWide_slice Try.underlying22 hv
  obtain ⟨fuel, hf⟩ := h
  have hC : Try.prog.cellsOf 34 = 4 := by kernel_rfl
  rcases open_slice_fields Try.underlying22 Try.underlying34 (by kernel_rfl) (by kernel_rfl) hf with ⟨hc, hx⟩ | ⟨a, len, cap, m, D, Pl, hc, _, hlc, hcm, hm, hx, hfl⟩
  · simp only [Value.cells, List.cons.injEq, and_true] at hc
    cases hc
    simp only [Prod.mk.injEq] at hx
    exact ⟨none, 0, [], rfl, ⟨fun h => absurd rfl h, fun s hs => by simp at hs, by decide⟩, fun x hx' => by rw [hx.2] at hx'; simp at hx'⟩
  · simp only [Value.cells, List.cons.injEq, and_true] at hc
    cases hc
    simp only [if_true] at hm
    simp only [Prod.mk.injEq] at hx
    have hel : ∀ i, i < m → ∃ st : Sx, El W a D Pl i st := by
      intro i hi
      obtain ⟨ys, n, hd, hp, hyl, hfs⟩ := hfl i hi
      obtain ⟨v0, y0, k0, z0, g0⟩ := hfs 0 _ rfl
      obtain ⟨v1, y1, k1, z1, g1⟩ := hfs 1 _ rfl
      obtain ⟨v2, y2, k2, z2, g2⟩ := hfs 2 _ rfl
      obtain ⟨v3, y3, k3, z3, g3⟩ := hfs 3 _ rfl
      have hys : ys = [y0, y1, y2, y3] := by
        match ys, hyl with
        | [a0, a1, a2, a3], _ =>
          simp only [List.getElem?_cons_zero, List.getElem?_cons_succ, Option.some.injEq] at z0 z1 z2 z3
          rw [z0, z1, z2, z3]
      rw [hys] at hd hp
      clear hys z0 z1 z2 z3
      obtain ⟨n0, e0, f0, w0⟩ := DataW.trod_int Try.underlying3 g0
      obtain ⟨A, cp, L, e1, r1, n1, q1, p1, l1⟩ := open_texts g1
      obtain ⟨n2, e2, f2, w2⟩ := DataW.trod_int Try.underlying3 g2
      obtain ⟨n3, e3, f3, w3⟩ := DataW.trod_int Try.underlying3 g3
      simp only [List.cons.injEq, and_true] at e0 e2 e3
      subst e0 e1 e2 e3 f0 f2 f3
      refine ⟨⟨n0, A, cp, L, n2, n3⟩, k0, k1, k2, k3, ?_, r1, n1, q1, ⟨y1.1, by rw [hd]; rfl, l1⟩, w0, w2, w3⟩
      intro x hx
      rw [hp] at hx
      exact p1 x (by simpa using hx)
    obtain ⟨l, hl, hlp⟩ := choose_list (El W a D Pl) len0 fun i hi => hel i (by omega)
    have hw0 : (len0 + (m - len0)) * Try.prog.bytesOf 34 ≤ reachBytes := by
      have h1 := List.all_eq_true.1 hsz ((len0 + (m - len0)) * Try.prog.bytesOf 34) (by
        rw [hx.1]
        simp [DataW.weights, Try.underlying22])
      simpa using h1
    have hb48 : Try.prog.bytesOf 34 = 48 := by kernel_rfl
    rw [hb48] at hw0
    have hreach : reachBytes = 140737488351232 := rfl
    have hblk : ∀ i, i < m → a.block < W.heap.size := fun i hi => by
      obtain ⟨st, he⟩ := hel i hi
      have hc0 := he.c0
      have hbl : (a.add (i * 4 + 0)).block = a.block := by unfold Addr.add; split <;> rfl
      rcases Nat.lt_or_ge a.block W.heap.size with h' | h'
      · exact h'
      · have e : W.heap[(a.add (i * 4 + 0)).block]? = none := by rw [hbl]; simp; omega
        unfold World.cell? at hc0
        rw [e] at hc0
        cases hc0
    refine ⟨some a, cap0, l, by rw [hl], ⟨?_, ?_, by rw [hl]; omega⟩, ?_⟩
    · intro hne
      have hpos : 0 < l.length := List.length_pos_iff.2 hne
      obtain ⟨b, o, sp⟩ := a
      have h0 := (hlp 0 hpos).c0
      have hsp : sp = none := by
        cases sp with
        | none => rfl
        | some x =>
          unfold World.cell? at h0
          simp [Addr.add] at h0
          split at h0 <;> simp at h0
      subst hsp
      refine ⟨b, o, rfl, hblk 0 (by omega), fun k hk => ?_⟩
      have he := hlp k hk
      refine ⟨?_, ?_, ?_, ?_⟩
      · have := he.c0; rwa [Addr.add_lit, Nat.add_zero] at this
      · have := he.c1; rwa [Addr.add_lit, ← Nat.add_assoc] at this
      · have := he.c2; rwa [Addr.add_lit, ← Nat.add_assoc] at this
      · have := he.c3; rwa [Addr.add_lit, ← Nat.add_assoc] at this
    · intro st hst
      obtain ⟨k, hk, rfl⟩ := List.getElem_of_mem hst
      have he := hlp k hk
      have hwt : ∀ x ∈ (D k).weights Try.prog 34, x ≤ reachBytes := by
        intro x hx2
        have h2 := weights_all (P := Try.prog) (e := 34) D len0 k (by omega) x hx2
        have h1 := List.all_eq_true.1 hsz x (by
          rw [hx.1]
          simp only [DataW.weights, Try.underlying22, List.mem_cons, List.mem_append]
          exact .inr (.inl h2))
        simpa using h1
      obtain ⟨d1, hd1, hlim⟩ := he.d
      rw [hd1] at hwt
      have hl1 := hlim fun x hx => hwt x (by
        simp only [DataW.weights, Try.underlying34]
        exact DataW.weights_mem_each (j := 1) (t := 30) (d := d1) rfl rfl x hx)
      exact ⟨he.reads, he.none, he.cap, hl1.1, hl1.2, wf_i64 he.o, wf_i64 he.n, wf_i64 he.m⟩
    · intro x hx'
      rw [hx.2, List.mem_append] at hx'
      rcases hx' with hx' | hx'
      · unfold MemPlace.row at hx'
        obtain ⟨i, hi, rfl⟩ := List.mem_map.1 hx'
        have hi' : i < m * 4 := by simpa using hi
        exact hblk 0 (by omega)
      · obtain ⟨i, hi, hxi⟩ := List.mem_flatMap.1 hx'
        obtain ⟨st, he⟩ := hel i (by simpa using hi)
        exact he.pl x hxi
end Go.Proofs.Ytbjemekkpmbhhaa.Os8
