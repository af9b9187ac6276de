/- The contracts of what makes values: Null, Int. -/
import Derived.Test.YtbkaphcipbhmhaaDoorVc
import Derived.Handy
namespace Go.Proofs.YtbkaphcipbhmhaaDoor.Vk
open Go Go.RowKit Go.Proofs.YtbkaphcipbhmhaaDoor.Vm Go.Proofs.YtbkaphcipbhmhaaDoor.Vl Go.Proofs.YtbkaphcipbhmhaaDoor.Ve Go.Proofs.YtbkaphcipbhmhaaDoor.Vr Go.Proofs.YtbkaphcipbhmhaaDoor.Vs Go.Proofs.YtbkaphcipbhmhaaDoor.Vc
theorem reads4 {w1 : World} {B : Nat} (h : ∀ i, i < 4 → (w1.cell? ⟨B, i, none⟩).isSome = true) :
    (∀ v, (w1.setCell ⟨B, 0, none⟩ v).cell? ⟨B, 0, none⟩ = some v) ∧ (∀ u v, ((w1.setCell ⟨B, 0, none⟩ u).setCell ⟨B, 1, none⟩ v).cell? ⟨B, 1, none⟩ = some v) ∧
    (∀ t u v, (((w1.setCell ⟨B, 0, none⟩ t).setCell ⟨B, 1, none⟩ u).setCell ⟨B, 2, none⟩ v).cell? ⟨B, 2, none⟩ = some v) ∧
    (∀ s t u v, ((((w1.setCell ⟨B, 0, none⟩ s).setCell ⟨B, 1, none⟩ t).setCell ⟨B, 2, none⟩ u).setCell ⟨B, 3, none⟩ v).cell? ⟨B, 3, none⟩ = some v) := by
  refine ⟨fun v => World.cell?_setCell_same' _ _ _ (h 0 (by omega)), fun u v => World.cell?_setCell_same' _ _ _ ?_, fun t u v => World.cell?_setCell_same' _ _ _ ?_, fun s t u v => World.cell?_setCell_same' _ _ _ ?_⟩
  · rw [World.cell?_setCell_other _ _ _ _ (by simp)]; exact h 1 (by omega)
  · rw [World.cell?_setCell_other _ _ _ _ (by simp), World.cell?_setCell_other _ _ _ _ (by simp)]; exact h 2 (by omega)
  · rw [World.cell?_setCell_other _ _ _ _ (by simp), World.cell?_setCell_other _ _ _ _ (by simp), World.cell?_setCell_other _ _ _ _ (by simp)]; exact h 3 (by omega)
theorem kept4 {w w1 : World} {a b c d : Value} {T : TypeId} (hb : Below (w.alloc (.cells #[a, b, c, d] T)).heap.size (w.alloc (.cells #[a, b, c, d] T)) w1) : ∀ i, i < 4 → (w1.cell? ⟨w.heap.size, i, none⟩).isSome = true := by
  intro i hi
  have e : w1.heap[w.heap.size]? = some (.cells #[a, b, c, d] T) := (hb.block w.heap.size (by simp)).trans (heap_alloc_new w _)
  unfold World.cell?
  rw [e]
  match i, hi with
  | 0, _ => rfl
  | 1, _ => rfl
  | 2, _ => rfl
  | 3, _ => rfl
def ag (k n R : Int) (s : ByteArray) : Value := .agg #[.int .u8 k, .int .i64 n, .int .u64 R, .string s]
theorem null_any (w : World) : Calls Tryd.prog 41 #[] w fun e w' => e = .returned (ag 0 0 0 ⟨#[]⟩) ∧ Below w.heap.size w w' := by
  unfold ag
  go_enter Tryd.func41, Tryd.ntmps41
  go_wp2
  go_returns
  exact ⟨rfl, (Below.refl _ _).alloc (Nat.le_refl _) _⟩
theorem int_any (n : Int) (w : World) : Calls Tryd.prog 45 #[.int .i64 n] w fun e w' => e = .returned (ag 2 n 0 ⟨#[]⟩) ∧ Below w.heap.size w w' := by
  unfold ag
  go_enter Tryd.func45, Tryd.ntmps45
  go_wp2
  go_returns
  exact ⟨rfl, (Below.refl _ _).alloc (Nat.le_refl _) _⟩
end Go.Proofs.YtbkaphcipbhmhaaDoor.Vk
