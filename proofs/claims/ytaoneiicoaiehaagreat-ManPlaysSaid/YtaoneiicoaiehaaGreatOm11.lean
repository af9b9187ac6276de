/- A slice of 64-bit numbers that came in; a man that came in. -/
import Derived.Test.YtaoneiicoaiehaaGreatMa11
import Derived.OpenShut
import Derived.Deep.Slices
import Derived.ChangeSlices
import Derived.Carry
namespace Go.Proofs.YtaoneiicoaiehaaGreat.Om11
set_option maxRecDepth 100000
open Go Go.ChangeShapes Go.WideShapes Go.Deep Go.RowKit Go.Proofs.YtaoneiicoaiehaaGreat.Nu11 Go.Proofs.YtaoneiicoaiehaaGreat.Ma11
theorem wf_u64 {a : Int} (h : (Lit.int .u64 a).wf = true) : 0 ≤ a ∧ a < 18446744073709551616 := by
  have : 0 ≤ a ∧ a ≤ 18446744073709551615 := by simpa [Lit.wf, IntKind.min, IntKind.max, IntKind.signed, IntKind.bits] using h
  omega
theorem open_nums {H : Type} {enc : TypeId × Value → H} {W : World} {fuel : Nat} {v : Value} {d : DataW H} {p : List MemPlace} (hf : DataW.trod enc Tryz.prog W 0 (fun _ => true) true fuel 34 [v] = some (d, p)) :
    ∃ (A : Option Addr) (c : Nat) (l : List Nat), v = .slice A l.length c ∧ Nums W A l ∧ (l = [] → A = none ∧ c = 0 ∨ A ≠ none) ∧ (∀ n ∈ l, n < 18446744073709551616) ∧ l.length ≤ 9223372036854775807 ∧ (∀ x ∈ p, x.block < W.heap.size) := by
  have hC : Tryz.prog.cellsOf 33 = 1 := by kernel_rfl
  rcases open_ints Tryz.underlying34 Tryz.underlying33 hC hf with ⟨hc, hx⟩ | ⟨a, len, cap, zs, hc, _, hlc, hcm, hzl, hx, hcell, hwf⟩
  · simp only [List.cons.injEq, and_true] at hc
    subst hc
    simp only [Prod.mk.injEq] at hx
    refine ⟨none, 0, [], rfl, Nums.nil _ _, fun _ => .inl ⟨rfl, rfl⟩, ?_, by decide, ?_⟩
    · intro n h; cases h
    · intro x hx'; rw [hx.2] at hx'; cases hx'
  · simp only [List.cons.injEq, and_true] at hc
    subst hc
    simp only [if_true] at hzl
    simp only [Prod.mk.injEq] at hx
    have hblk : 0 < zs.length → a.block < W.heap.size ∧ a.spot = none := fun h0 => by
      have hc0 := hcell 0 h0
      have hbl : (a.add 0).block = a.block := by unfold Addr.add; split <;> rfl
      refine ⟨?_, ?_⟩
      · rcases Nat.lt_or_ge a.block W.heap.size with h' | h'
        · exact h'
        · have e : W.heap[(a.add 0).block]? = none := by rw [hbl]; simp; omega
          unfold World.cell? at hc0
          rw [e] at hc0
          cases hc0
      · cases hs : a.spot with
        | none => rfl
        | some x =>
          unfold World.cell? at hc0
          simp [Addr.add, hs] at hc0
          split at hc0 <;> simp at hc0
    refine ⟨some a, cap, (zs.take len).map Int.toNat, ?_, fun hne => ?_, fun _ => .inr (by simp), fun n hn => ?_, ?_, fun x hx' => ?_⟩
    · rw [List.length_map, List.length_take, Nat.min_eq_left (by omega)]
    · have hpos : 0 < zs.length := by
        cases hz : zs with
        | nil => rw [hz] at hne; simp at hne
        | cons _ _ => simp
      obtain ⟨hb, hs⟩ := hblk hpos
      obtain ⟨b, o, sp⟩ := a
      dsimp only at hs
      subst hs
      refine ⟨b, o, rfl, hb, fun k hk => ?_⟩
      rw [List.length_map, List.length_take, Nat.min_eq_left (by omega)] at hk
      have h1 := hcell k (by omega)
      rw [Addr.add_lit] at h1
      have hkz : k < zs.length := by omega
      have e : zs.getD k 0 = zs[k] := by simp [List.getD, hkz]
      have hw := wf_u64 (hwf _ (List.getElem_mem hkz))
      rw [h1, e]
      simp only [List.getElem_map, List.getElem_take]
      rw [Int.toNat_of_nonneg hw.1]
    · obtain ⟨z, hz, rfl⟩ := List.mem_map.1 hn
      have hw := wf_u64 (hwf _ (List.mem_of_mem_take hz))
      omega
    · rw [List.length_map, List.length_take]
      have : cap ≤ maxLen := hcm
      unfold maxLen at this
      omega
    · rw [hx.2] at hx'
      unfold MemPlace.row at hx'
      obtain ⟨i, hi', rfl⟩ := List.mem_map.1 hx'
      have : i < zs.length := by simpa using hi'
      exact (hblk (by omega)).1
/-- A man that came in. -/
theorem open_man {H : Type} {enc : TypeId × Value → H} {W : World} {r : Reach} {b0 : Nat} {v : Value} {d : DataW H} {p : List MemPlace} (hv : Value.okWide Tryz.prog W r b0 36 v)
    (h : DataW.Trod enc Tryz.prog W 0 (fun _ => true) true 36 v d p) :
    ∃ (m : Man) (A : Option Addr) (c : Nat), v = manV m A c ∧ (ManAt W m A c ∧ m.runs.length ≤ 9223372036854775807) ∧ (∀ x ∈ p, x.block < W.heap.size) := by
  obtain ⟨cs, rfl, _⟩ := okWide_struct Tryz.underlying36 hv
  obtain ⟨fuel, hf⟩ := h
  obtain ⟨xs, n, _, hx, hc, hlen, hg⟩ := DataW.trod_struct Tryz.underlying36 hf
  have hC : Tryz.prog.cellsOf 36 = 3 := by kernel_rfl
  rw [hC] at hc
  obtain ⟨l⟩ := cs
  simp only [Value.cells] at hc hg
  match l, hc, xs, hlen with
  | [c0, c1, c2], _, [y0, y1, y2], _ =>
    have qi : Tryz.prog.cellsOf 33 = 1 := by kernel_rfl
    have ql : Tryz.prog.cellsOf 34 = 1 := by kernel_rfl
    have g0 : DataW.trod enc Tryz.prog W 0 (fun _ => true) true n 33 [c0] = some y0 := by have h := hg 0 _ rfl; simpa [qi] using h
    have g1 : DataW.trod enc Tryz.prog W 0 (fun _ => true) true n 34 [c1] = some y1 := by have h := hg 1 _ rfl; simpa [ql] using h
    have g2 : DataW.trod enc Tryz.prog W 0 (fun _ => true) true n 33 [c2] = some y2 := by have h := hg 2 _ rfl; simpa [qi] using h
    clear hg
    obtain ⟨a0, e0, f0, w0⟩ := DataW.trod_int Tryz.underlying33 g0
    obtain ⟨d1, p1⟩ := y1
    obtain ⟨A, cp, L, e1, hL, hnil, hfit, hlen', hp⟩ := open_nums g1
    obtain ⟨a2, e2, f2, w2⟩ := DataW.trod_int Tryz.underlying33 g2
    simp only [List.cons.injEq, and_true] at e0 e2
    subst e0 e1 e2 f0 f2
    simp only [Prod.mk.injEq] at hx
    obtain ⟨rfl, rfl⟩ := hx
    have h0 := wf_u64 w0
    have h2 := wf_u64 w2
    refine ⟨⟨a0.toNat, L, a2.toNat⟩, A, cp, ?_, ⟨⟨hL, hnil, by show a0.toNat < _; omega, by show a2.toNat < _; omega, hfit⟩, hlen'⟩, fun x hx => hp x (by simpa using hx)⟩
    unfold manV
    dsimp only
    rw [Int.toNat_of_nonneg h0.1, Int.toNat_of_nonneg h2.1]
end Go.Proofs.YtaoneiicoaiehaaGreat.Om11
