/- A mem as it lies in the world, and its steps. -/
import Derived.Test.YtmnaamjoikfpbaaWd9
import Derived.BigQuiet
import Derived.Deep.DrawnRows
import Derived.Deep.QuietTactic
import Derived.Deep.RegionHeld3
import Derived.Deep.RegionWith
import Derived.Laws.EntriesVeiled
import Derived.LoopIn
import Derived.LoopNIn
import Derived.Maps.AppendAt
import Derived.OwnWalkIn
import Derived.RangeFuncBound
import Derived.RangeFuncBox
import Derived.RangeFuncCalls
import Derived.RangeFuncLeaves
import Derived.RangeFuncNested
import Derived.TacticsInMore
import Derived.WalkLawsBesides
namespace Go.Proofs.Ytmnaamjoikfpbaa.Mt9
open Go Go.RowKit Go.Proofs.Ytmnaamjoikfpbaa.Pm9 Go.Proofs.Ytmnaamjoikfpbaa.Wd9
def pairO (x : Pr) : Obj := .cells #[.string x.k, .string x.v, .bool x.g] 39 (0, 0)
theorem tread_join {S : Nat → Prop} {a b c : World} (h : Tread S a b) (k : Tread (fun i => S i ∨ a.heap.size ≤ i) b c) : Tread S a c :=
  ⟨k.os.trans h.os, k.tape.trans h.tape, k.output.trans h.output, Nat.le_trans h.size k.size, fun i hi hn =>
    (k.block i (Nat.lt_of_lt_of_le hi h.size) (fun x => by rcases x with x | x; exact hn x; omega)).trans (h.block i hi hn)⟩
end Go.Proofs.Ytmnaamjoikfpbaa.Mt9

