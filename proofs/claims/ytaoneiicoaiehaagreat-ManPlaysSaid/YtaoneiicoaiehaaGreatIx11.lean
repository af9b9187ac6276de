/- A step taken out of an array of steps. -/
import Derived.Test.YtaoneiicoaiehaaGreatProg
import Derived.WalkKit
namespace Go.Proofs.YtaoneiicoaiehaaGreat.Ix11
open Go Go.RowKit
theorem undA : Tryz.prog.underlying 81 = some (.array 5 80) := by kernel_rfl
theorem index_any (a b c d e : Value) (w : World) (i : Nat) (v : Value) (hi : i < 5) (hv : #[a, b, c, d, e][i]? = some v) :
    (Instr.index 81 (.agg #[a, b, c, d, e]) (.int .i64 (i : Int))).run Tryz.prog w = .ok (.agg #[v]) w := by
  unfold Instr.index
  simp [run_underlying undA, go_sem]
  rw [if_pos hi]
  have h5 : i = 0 ∨ i = 1 ∨ i = 2 ∨ i = 3 ∨ i = 4 := by omega
  rcases h5 with rfl | rfl | rfl | rfl | rfl <;> (simp at hv; subst hv; rfl)
end Go.Proofs.YtaoneiicoaiehaaGreat.Ix11
