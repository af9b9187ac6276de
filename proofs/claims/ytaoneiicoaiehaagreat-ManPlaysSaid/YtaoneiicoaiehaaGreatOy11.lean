/- A row of the law's steps that came in: its cells, its places, and that each step is one that a program may hold. -/
import Derived.Test.YtaoneiicoaiehaaGreatHv11
import Derived.Test.YtaoneiicoaiehaaGreatOm11
import Derived.ProofKit
import Derived.OpenShut
import Derived.Deep.Slices
import Derived.Deep.Fields
import Derived.ChangeSame
import Derived.SizedLaws
namespace Go.Proofs.YtaoneiicoaiehaaGreat.Oy11
open Go Go.ChangeShapes Go.WideShapes Go.Deep Go.RowKit Go.Proofs.YtaoneiicoaiehaaGreat.Nu11 Go.Proofs.YtaoneiicoaiehaaGreat.Ma11 Go.Proofs.YtaoneiicoaiehaaGreat.Hv11 Go.Proofs.YtaoneiicoaiehaaGreat.Om11
set_option maxRecDepth 100000
theorem choose_list {α : Type} (p : Nat → α → Prop) : ∀ n : Nat, (∀ i, i < n → ∃ a, p i a) → ∃ l : List α, l.length = n ∧ ∀ i (h : i < l.length), p i l[i]
  | 0, _ => ⟨[], rfl, fun i h => by simp at h⟩
  | n + 1, h => by
    obtain ⟨l, hl, hp⟩ := choose_list p n fun i hi => h i (by omega)
    obtain ⟨a, ha⟩ := h n (by omega)
    refine ⟨l ++ [a], by simp [hl], fun i hi => ?_⟩
    by_cases hil : i < l.length
    · rw [List.getElem_append_left hil]; exact hp i hil
    · have : i = n := by simp at hi; omega
      subst this
      simp [hl] 
      exact ha
theorem wf_i64 {a : Int} (h : (Lit.int .i64 a).wf = true) : -9223372036854775808 ≤ a ∧ a ≤ 9223372036854775807 := by
  simpa [Lit.wf, IntKind.min, IntKind.max, IntKind.signed, IntKind.bits] using h
/-- A man's cells. -/
theorem man_cells {H : Type} {enc : TypeId × Value → H} {W : World} {fuel : Nat} {cs : List Value} {y : DataW H × List MemPlace} (hf : DataW.trod enc Tryz.prog W 0 (fun _ => true) true fuel 36 cs = some y) :
    ∃ (m : Man) (A : Option Addr) (c : Nat), cs = [.int .u64 (m.wal : Int), .slice A m.runs.length c, .int .u64 (m.next : Int)] ∧ (ManAt W m A c ∧ m.runs.length ≤ 9223372036854775807) ∧ (∀ x ∈ y.2, x.block < W.heap.size) := by
  obtain ⟨d, p⟩ := y
  obtain ⟨xs, n, _, hx, hc, hlen, hg⟩ := DataW.trod_struct Tryz.underlying36 hf
  have hC : Tryz.prog.cellsOf 36 = 3 := by kernel_rfl
  rw [hC] at hc
  match cs, hc, xs, hlen with
  | [c0, c1, c2], _, [y0, y1, y2], _ =>
    have qi : Tryz.prog.cellsOf 33 = 1 := by kernel_rfl
    have ql : Tryz.prog.cellsOf 34 = 1 := by kernel_rfl
    have g0 : DataW.trod enc Tryz.prog W 0 (fun _ => true) true n 33 [c0] = some y0 := by have h := hg 0 _ rfl; simpa [qi] using h
    have g1 : DataW.trod enc Tryz.prog W 0 (fun _ => true) true n 34 [c1] = some y1 := by have h := hg 1 _ rfl; simpa [ql] using h
    have g2 : DataW.trod enc Tryz.prog W 0 (fun _ => true) true n 33 [c2] = some y2 := by have h := hg 2 _ rfl; simpa [qi] using h
    clear hg
    obtain ⟨a0, e0, f0, w0⟩ := DataW.trod_int Tryz.underlying33 g0
    obtain ⟨d1, p1⟩ := y1
    obtain ⟨A, cp, L, e1, hL, hnil, hfit, hlen', hp⟩ := open_nums g1
    obtain ⟨a2, e2, f2, w2⟩ := DataW.trod_int Tryz.underlying33 g2
    simp only [List.cons.injEq, and_true] at e0 e2
    subst e0 e1 e2 f0 f2
    simp only [Prod.mk.injEq] at hx
    obtain ⟨rfl, rfl⟩ := hx
    have h0 := wf_u64 w0
    have h2 := wf_u64 w2
    refine ⟨⟨a0.toNat, L, a2.toNat⟩, A, cp, ?_, ⟨⟨hL, hnil, by show a0.toNat < _; omega, by show a2.toNat < _; omega, hfit⟩, hlen'⟩, fun x hx => hp x (by simpa using hx)⟩
    dsimp only
    rw [Int.toNat_of_nonneg h0.1, Int.toNat_of_nonneg h2.1]
/-- What an element of the row is. -/
structure El (W : World) (a : Addr) (Pl : Nat → List MemPlace) (i : Nat) (s : Sx) : Prop where
  c0 : W.cell? ((a.add (i * 6)).add 0) = some (.int .i64 s.o)
  c1 : W.cell? ((a.add (i * 6)).add 1) = some (.int .u64 (s.m.wal : Int))
  c2 : W.cell? ((a.add (i * 6)).add 2) = some (.slice s.A s.m.runs.length s.c)
  c3 : W.cell? ((a.add (i * 6)).add 3) = some (.int .u64 (s.m.next : Int))
  c4 : W.cell? ((a.add (i * 6)).add 4) = some (.int .i64 s.n)
  c5 : W.cell? ((a.add (i * 6)).add 5) = some (.int .i64 s.k)
  pl : ∀ x ∈ Pl i, x.block < W.heap.size
  ok : s.ok W
theorem open_steps {H : Type} {enc : TypeId × Value → H} {W : World} {r : Reach} {b0 : Nat} {v : Value} {d : DataW H} {p : List MemPlace} (hv : Value.okWide Tryz.prog W r b0 22 v)
    (h : DataW.Trod enc Tryz.prog W 0 (fun _ => true) true 22 v d p) (hsz : (d.weights Tryz.prog 22).all (· ≤ reachBytes) = true) :
    ∃ (ao : Option Addr) (cap : Nat) (l : List Sx), v = .slice ao l.length cap ∧ CameIn W ao l ∧ (∀ x ∈ p, x.block < W.heap.size) := by
  obtain ⟨a0, len0, cap0, rfl⟩ := okWide_slice Tryz.underlying22 hv
  obtain ⟨fuel, hf⟩ := h
  have hC : Tryz.prog.cellsOf 38 = 6 := by kernel_rfl
  rcases open_slice Tryz.underlying22 hf with ⟨hc, hx⟩ | ⟨a, len, cap, m, n, D, Pl, hc, _, hlc, hcm, hm, hx, hfl⟩
  · simp only [Value.cells, List.cons.injEq, and_true] at hc
    cases hc
    simp only [Prod.mk.injEq] at hx
    exact ⟨none, 0, [], rfl, ⟨fun h => absurd rfl h, fun s hs => by simp at hs, by decide⟩, fun x hx' => by rw [hx.2] at hx'; simp at hx'⟩
  · simp only [Value.cells, List.cons.injEq, and_true] at hc
    cases hc
    simp only [if_true] at hm
    rw [hC] at hx hfl
    simp only [Prod.mk.injEq] at hx
    have hel : ∀ i, i < m → ∃ st : Sx, El W a Pl i st := by
      intro i hi
      obtain ⟨cs', hcc, ht'⟩ := hfl i hi
      obtain ⟨ys, n', _, hy, hlen, hyl, hg⟩ := DataW.trod_struct Tryz.underlying38 ht'
      obtain ⟨_, hcl, hat⟩ := World.cells?_some hcc
      simp only [Prod.mk.injEq] at hy
      match cs', hcl, ys, hyl with
      | [x0, x1, x2, x3, x4, x5], _, [y0, y1, y2, y3], _ =>
        have qi : Tryz.prog.cellsOf 3 = 1 := by kernel_rfl
        have qm : Tryz.prog.cellsOf 36 = 3 := by kernel_rfl
        have g0 : DataW.trod enc Tryz.prog W 0 (fun _ => true) true n' 3 [x0] = some y0 := by have h := hg 0 _ rfl; simpa [qi] using h
        have g1 : DataW.trod enc Tryz.prog W 0 (fun _ => true) true n' 36 [x1, x2, x3] = some y1 := by have h := hg 1 _ rfl; simpa [qm] using h
        have g2 : DataW.trod enc Tryz.prog W 0 (fun _ => true) true n' 3 [x4] = some y2 := by have h := hg 2 _ rfl; simpa [qi] using h
        have g3 : DataW.trod enc Tryz.prog W 0 (fun _ => true) true n' 3 [x5] = some y3 := by have h := hg 3 _ rfl; simpa [qi] using h
        clear hg
        obtain ⟨a0', e0, f0, w0⟩ := DataW.trod_int Tryz.underlying3 g0
        obtain ⟨m1, A1, c1, e1, hman, hp1⟩ := man_cells g1
        obtain ⟨a2, e2, f2, w2⟩ := DataW.trod_int Tryz.underlying3 g2
        obtain ⟨a3, e3, f3, w3⟩ := DataW.trod_int Tryz.underlying3 g3
        simp only [List.cons.injEq, and_true] at e0 e1 e2 e3
        obtain ⟨rfl, rfl, rfl⟩ := e1
        subst e0 e2 e3 f0 f2 f3
        refine ⟨⟨a0', m1, A1, c1, a2, a3⟩, hat 0 (by omega), hat 1 (by omega), hat 2 (by omega), hat 3 (by omega), hat 4 (by omega), hat 5 (by omega), ?_, hman.1, hman.2, wf_i64 w2, wf_i64 w3⟩
        intro x hx
        rw [hy.2] at hx
        exact hp1 x (by simpa using hx)
    obtain ⟨l, hl, hlp⟩ := choose_list (El W a Pl) len0 fun i hi => hel i (by omega)
    have hw0 : (len0 + (m - len0)) * Tryz.prog.bytesOf 38 ≤ reachBytes := by
      have h1 := List.all_eq_true.1 hsz ((len0 + (m - len0)) * Tryz.prog.bytesOf 38) (by
        rw [hx.1]
        simp [DataW.weights, Tryz.underlying22])
      simpa using h1
    have hb64 : Tryz.prog.bytesOf 38 = 64 := by kernel_rfl
    rw [hb64] at hw0
    have hreach : reachBytes = 140737488351232 := rfl
    have hblk : ∀ i, i < m → a.block < W.heap.size := fun i hi => by
      obtain ⟨st, he⟩ := hel i hi
      have hc0 := he.c0
      have hbl : ((a.add (i * 6)).add 0).block = a.block := by unfold Addr.add; split <;> split <;> rfl
      rcases Nat.lt_or_ge a.block W.heap.size with h' | h'
      · exact h'
      · have e : W.heap[((a.add (i * 6)).add 0).block]? = none := by rw [hbl]; simp; omega
        unfold World.cell? at hc0
        rw [e] at hc0
        cases hc0
    refine ⟨some a, cap0, l, by rw [hl], ⟨?_, ?_, by rw [hl]; omega⟩, ?_⟩
    · intro hne
      have hpos : 0 < l.length := List.length_pos_iff.2 hne
      obtain ⟨b, o, sp⟩ := a
      have h0 := (hlp 0 hpos).c0
      have hsp : sp = none := by
        cases sp with
        | none => rfl
        | some x =>
          unfold World.cell? at h0
          simp [Addr.add] at h0
          split at h0 <;> simp at h0
      subst hsp
      refine ⟨b, o, rfl, hblk 0 (by omega), fun k hk => ?_⟩
      have he := hlp k hk
      obtain ⟨c0, c1, c2, c3, c4, c5, _, _⟩ := he
      simp only [Addr.add_lit, Nat.add_zero] at c0 c1 c2 c3 c4 c5
      exact ⟨c0, c1, c2, c3, c4, c5⟩
    · intro st hst
      obtain ⟨k, hk, rfl⟩ := List.getElem_of_mem hst
      exact (hlp k hk).ok
    · intro x hx'
      rw [hx.2, List.mem_append] at hx'
      rcases hx' with hx' | hx'
      · unfold MemPlace.row at hx'
        obtain ⟨i, hi, rfl⟩ := List.mem_map.1 hx'
        have hi' : i < m * 6 := by simpa using hi
        exact hblk 0 (by omega)
      · obtain ⟨i, hi, hxi⟩ := List.mem_flatMap.1 hx'
        obtain ⟨st, he⟩ := hel i (by simpa using hi)
        exact he.pl x hxi
end Go.Proofs.YtaoneiicoaiehaaGreat.Oy11
