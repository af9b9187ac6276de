/- The contracts of what makes values: Null, Bool, Int, Real, Bytes, String. -/
import Derived.Test.YthoiolihkomgmaaDoorVc
import Derived.Handy
namespace Go.Proofs.YthoiolihkomgmaaDoor.Vk
open Go Go.RowKit Go.Proofs.YthoiolihkomgmaaDoor.Vm Go.Proofs.YthoiolihkomgmaaDoor.Vl Go.Proofs.YthoiolihkomgmaaDoor.Ve Go.Proofs.YthoiolihkomgmaaDoor.Vr Go.Proofs.YthoiolihkomgmaaDoor.Vs Go.Proofs.YthoiolihkomgmaaDoor.Vc
theorem reads4 {w1 : World} {B : Nat} (h : ∀ i, i < 4 → (w1.cell? ⟨B, i, none⟩).isSome = true) :
    (∀ v, (w1.setCell ⟨B, 0, none⟩ v).cell? ⟨B, 0, none⟩ = some v) ∧ (∀ u v, ((w1.setCell ⟨B, 0, none⟩ u).setCell ⟨B, 1, none⟩ v).cell? ⟨B, 1, none⟩ = some v) ∧
    (∀ t u v, (((w1.setCell ⟨B, 0, none⟩ t).setCell ⟨B, 1, none⟩ u).setCell ⟨B, 2, none⟩ v).cell? ⟨B, 2, none⟩ = some v) ∧
    (∀ s t u v, ((((w1.setCell ⟨B, 0, none⟩ s).setCell ⟨B, 1, none⟩ t).setCell ⟨B, 2, none⟩ u).setCell ⟨B, 3, none⟩ v).cell? ⟨B, 3, none⟩ = some v) := by
  refine ⟨fun v => World.cell?_setCell_same' _ _ _ (h 0 (by omega)), fun u v => World.cell?_setCell_same' _ _ _ ?_, fun t u v => World.cell?_setCell_same' _ _ _ ?_, fun s t u v => World.cell?_setCell_same' _ _ _ ?_⟩
  · rw [World.cell?_setCell_other _ _ _ _ (by simp)]; exact h 1 (by omega)
  · rw [World.cell?_setCell_other _ _ _ _ (by simp), World.cell?_setCell_other _ _ _ _ (by simp)]; exact h 2 (by omega)
  · rw [World.cell?_setCell_other _ _ _ _ (by simp), World.cell?_setCell_other _ _ _ _ (by simp), World.cell?_setCell_other _ _ _ _ (by simp)]; exact h 3 (by omega)
theorem kept4 {w w1 : World} {a b c d : Value} {T : TypeId} (hb : Below (w.alloc (.cells #[a, b, c, d] T)).heap.size (w.alloc (.cells #[a, b, c, d] T)) w1) : ∀ i, i < 4 → (w1.cell? ⟨w.heap.size, i, none⟩).isSome = true := by
  intro i hi
  have e : w1.heap[w.heap.size]? = some (.cells #[a, b, c, d] T) := (hb.block w.heap.size (by simp)).trans (heap_alloc_new w _)
  unfold World.cell?
  rw [e]
  match i, hi with
  | 0, _ => rfl
  | 1, _ => rfl
  | 2, _ => rfl
  | 3, _ => rfl
def ag (k n R : Int) (s : ByteArray) : Value := .agg #[.int .u8 k, .int .i64 n, .int .u64 R, .string s]
end Go.Proofs.YthoiolihkomgmaaDoor.Vk
