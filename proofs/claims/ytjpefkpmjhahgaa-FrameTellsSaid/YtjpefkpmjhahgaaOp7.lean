/- A slice of texts that came in: its cells, its places, and that no text is too long for a machine. -/
import Derived.Test.YtjpefkpmjhahgaaTo7
import Derived.ProofKit
import Derived.OpenShut
import Derived.SliceStrings
import Derived.Deep.Slices
import Derived.Deep.Fields
import Derived.ChangeSame
import Derived.SizedLaws
namespace Go.Proofs.Ytjpefkpmjhahgaa.Op7
open Go Go.ChangeShapes Go.WideShapes Go.Deep Go.Proofs.Ytjpefkpmjhahgaa.Rs7 Go.Proofs.Ytjpefkpmjhahgaa.To7
theorem weights_in {H : Type} {P : Program} {e : TypeId} (l : List (DataW H)) (d : DataW H) (hd : d ∈ l) (x : Nat) (hx : x ∈ d.weights P e) : x ∈ DataW.weightsAll P e l := by
  induction l with
  | nil => simp at hd
  | cons a l ih =>
    simp only [DataW.weightsAll, List.mem_append]
    rcases List.mem_cons.1 hd with rfl | hd
    · exact .inl hx
    · exact .inr (ih hd)
set_option maxRecDepth 100000 in
theorem open_texts {H : Type} {enc : TypeId × Value → H} {W : World} {r : Reach} {b0 : Nat} {v : Value} {d : DataW H} {p : List MemPlace} (hv : Value.okWide Try.prog W r b0 22 v)
    (h : DataW.Trod enc Try.prog W 0 (fun _ => true) true 22 v d p) (hsz : (d.weights Try.prog 22).all (· ≤ reachBytes) = true) :
    ∃ (A : Option Addr) (cap : Nat) (L : List ByteArray), v = .slice A L.length cap ∧ Came W A cap L ∧ (∀ x ∈ p, x.block < W.heap.size) := by
  obtain ⟨a0, len0, cap0, rfl⟩ := okWide_slice Try.underlying22 hv
  obtain ⟨fuel, hf⟩ := h
  have hC : Try.prog.cellsOf 9 = 1 := by kernel_rfl
  rcases open_strings Try.underlying22 Try.underlying9 hC hf with ⟨hc, hx⟩ | ⟨a, len, cap, ss, hc, _, hlc, hcm, hm, hx, hcell, _⟩
  · simp only [Value.cells, List.cons.injEq, and_true] at hc
    cases hc
    simp only [Prod.mk.injEq] at hx
    exact ⟨none, 0, [], rfl, ⟨Rds.nil _ _, by decide, by decide, fun k hk => by simp at hk⟩, fun x hx' => by rw [hx.2] at hx'; simp at hx'⟩
  · simp only [Value.cells, List.cons.injEq, and_true] at hc
    cases hc
    simp only [if_true] at hm
    simp only [Prod.mk.injEq] at hx
    have hreach : reachBytes = 140737488351232 := rfl
    have hb16 : Try.prog.bytesOf 9 = 16 := by kernel_rfl
    have hL : (ss.take len0).length = len0 := by rw [List.length_take]; omega
    have hw0 : (len0 + (ss.length - len0)) * Try.prog.bytesOf 9 ≤ reachBytes := by
      have h1 := List.all_eq_true.1 hsz ((len0 + (ss.length - len0)) * Try.prog.bytesOf 9) (by
        rw [hx.1]
        simp only [DataW.weights, Try.underlying22, List.mem_cons]
        refine .inl ?_
        congr 1
        simp only [strs, List.length_map, List.length_take, List.length_drop]
        omega)
      simpa using h1
    rw [hb16] at hw0
    have hblk : 0 < ss.length → a.block < W.heap.size := fun hi => by
      have hc0 := hcell 0 hi
      have hbl : (a.add 0).block = a.block := by unfold Addr.add; split <;> rfl
      rcases Nat.lt_or_ge a.block W.heap.size with h' | h'
      · exact h'
      · have e : W.heap[(a.add 0).block]? = none := by rw [hbl]; simp; omega
        unfold World.cell? at hc0
        rw [e] at hc0
        cases hc0
    refine ⟨some a, cap0, ss.take len0, by rw [hL], ⟨?_, by rw [hL]; omega, by rw [hL]; exact hlc, ?_⟩, ?_⟩
    · intro hne
      have hpos : 0 < len0 := by
        rw [← hL]; exact List.length_pos_iff.2 hne
      have h0 := hcell 0 (by omega)
      have hlt := hblk (by omega)
      obtain ⟨b, o, sp⟩ := a
      have hsp : sp = none := by
        cases sp with
        | none => rfl
        | some x =>
          unfold World.cell? at h0
          simp [Addr.add] at h0
          split at h0 <;> simp at h0
      subst hsp
      refine ⟨b, o, rfl, hlt, fun k hk => ?_⟩
      rw [hL] at hk
      have hc1 := hcell k (by omega)
      rw [Addr.add_lit] at hc1
      rw [hc1, List.getElem_take]
      congr 2
      rw [List.getD_eq_getElem?_getD, List.getElem?_eq_getElem (by omega)]; rfl
    · intro k hk
      have hk2 := hk
      rw [hL] at hk2
      have h1 := List.all_eq_true.1 hsz ((ss.take len0)[k].data.toList.length) (by
        rw [hx.1]
        simp only [DataW.weights, Try.underlying22, List.mem_cons, List.mem_append]
        refine .inr (.inl (weights_in _ (.lit (.string (ss.take len0)[k].data.toList)) ?_ _ (by simp [DataW.weights])))
        exact List.mem_map.2 ⟨_, List.getElem_mem hk, rfl⟩)
      have h2 : (ss.take len0)[k].data.toList.length = (ss.take len0)[k].size := by simp
      have h3 : (ss.take len0)[k].data.toList.length ≤ reachBytes := by simpa using h1
      omega
    · intro x hx'
      rw [hx.2] at hx'
      unfold MemPlace.row at hx'
      obtain ⟨i, hi, rfl⟩ := List.mem_map.1 hx'
      have hi' : i < ss.length := by simpa using hi
      exact hblk (by omega)
end Go.Proofs.Ytjpefkpmjhahgaa.Op7
