/- Mem.Scan: the pairs within bounds, in order, the first of them. -/
import Derived.Test.YtmnaamjoikfpbaaMm9
import Derived.Maps.OwnIn
import Derived.WalkMore
import Derived.RangeFuncWrites
import Derived.Deep.OwnRows
namespace Go.Proofs.Ytmnaamjoikfpbaa.Sn9
open Go Go.RowKit Go.Proofs.Ytmnaamjoikfpbaa.Pm9 Go.Proofs.Ytmnaamjoikfpbaa.Wd9 Go.Proofs.Ytmnaamjoikfpbaa.Mt9
attribute [local go_sem] Oper.semAt_some
theorem infoP : (Try.prog.info? 39).map (fun i => (i.zero, i.size, i.bytes)) = some (some (.agg #[.string ⟨#[]⟩, .string ⟨#[]⟩, .bool false]), 3, 40) := by kernel_rfl
/-- What Scan answers: a row of its own. -/
def ScanTo (w : World) (L : List Pr) (e : Ending) (w' : World) : Prop := ∃ A c, e = .returned (.slice A L.length c) ∧ w'.ownsRow w.heap.size 39 3 (.slice A L.length c) L.length (cellsP L) ∧ Below w.heap.size w w'
theorem row_shape {W : World} {n0 : Nat} {v : Value} {L : List Pr} (h : W.ownsRow n0 39 3 v L.length (cellsP L)) : ∃ A c, v = .slice A L.length c := by
  rcases h.2 with ⟨hv, h0⟩ | ⟨g, cap, cur, hv, _⟩
  · exact ⟨none, 0, by rw [hv, h0]⟩
  · exact ⟨_, _, hv⟩
theorem news3 (W : World) (x : Pr) : ∀ j u, (cells3 x)[j]? = some u → (W.alloc (pairO x)).cell? ((⟨W.heap.size, 0, none⟩ : Addr).add j) = some u := by
  intro j u hj
  have e : (⟨W.heap.size, 0, none⟩ : Addr).add j = ⟨W.heap.size, j, none⟩ := by cases j <;> simp [Addr.add]
  rw [e, cell_of (heap_new W (pairO x)) j]
  rw [← hj]
  exact List.getElem?_toArray ..
theorem one3 (x : Pr) : ∀ u ∈ cells3 x, u.oneCell' = true := by
  intro u hu
  simp only [cells3, List.mem_cons, List.not_mem_nil, or_false] at hu
  rcases hu with rfl | rfl | rfl <;> rfl
end Go.Proofs.Ytmnaamjoikfpbaa.Sn9

