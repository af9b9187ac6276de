/- The law's own 'Heavy' of one step: some answer. -/
import Derived.Test.YtjnkennlncdlgaaProg
import Derived.WalkKit
import Derived.Lib.Hide
import Derived.Below
import Derived.Deep.QuietTactic
import Derived.BigQuiet
namespace Go.Proofs.Ytjnkennlncdlgaa.Hv
open Go Go.RowKit
theorem Below.drewN {B : Nat} {a w : World} (h : Below B a w) (n : Nat) : Below B a (w.drewN n) := ⟨h.os, h.tape, h.output, h.size, h.block⟩
set_option maxRecDepth 20000 in
set_option maxHeartbeats 1000000 in
theorem one (w : World) (b : Nat) (x y : ByteArray) (c1 : w.cell? ⟨b, 1, none⟩ = some (.string x)) (c2 : w.cell? ⟨b, 2, none⟩ = some (.string y)) :
    Calls Try.prog 6 #[.slice (some ⟨b, 0, none⟩) 1 1] w fun e w' => (∃ r, e = .returned (.bool r)) ∧ Below w.heap.size w w' := by
  go_enter Try.func6, Try.ntmps6
  go_wp2
  go_loopw [3, 4, 5, 6, 7, 8, 9, 10, 11, 12, 13, 14, 15, 16, 17, 18, 19, 20, 21, 22, 23, 24, 25, 26, 27, 28, 29] (fun s i _ _ _ _ _ _ _ _ _ _ _ _ _ _ _ _ _ _ _ _ _ _ _ _ _ wr => ∃ (k : Nat) (z : Int), k ≤ 1 ∧ i = .int .i64 k ∧ s = .int .i64 z ∧ ∃ n, wr = w.drewN n) (fun _ i _ _ _ _ _ _ _ _ _ _ _ _ _ _ _ _ _ _ _ _ _ _ _ _ _ _ => 1 - (intOf i).toNat)
  case atStart => exact ⟨0, 0, by omega, rfl, rfl, 0, rfl⟩
  case round =>
    obtain ⟨k, z, hk, rfl, rfl, n, rfl⟩ := hrel
    by_cases hlt : k < 1
    · have : k = 0 := by omega
      subst this
      go_wp2
      go_quiet (fail)
      go_wp2
      exact ⟨⟨1, _, by omega, rfl, rfl, _, rfl⟩, by simp [intOf]⟩
    · have : k = 1 := by omega
      subst this
      go_wp2
      go_ret
      exact ⟨⟨_, rfl⟩, Below.drewN (Below.refl _ _) n⟩
end Go.Proofs.Ytjnkennlncdlgaa.Hv
