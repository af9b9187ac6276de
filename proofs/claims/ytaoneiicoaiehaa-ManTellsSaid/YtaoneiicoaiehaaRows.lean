/-
  No cell of these rows narrows 'for every input' (looked for: loops, veiled, ifaces, maps, wideKeys, modest, calm, conditions, laid).
  DERIVED. THE GIVEN ROWS OF THIS SEAT. 3 by the template 'for every input the law returns true; each argument reads behind the call as it read before'; 0 by the template 'total and deterministic' (their statements: YtaoneiicoaiehaaTotals.lean).
  GIVEN WITH THE SEED: the statements are not yours to turn. If you find one false, say at which input.
  Laid BY PROGRAM, IN A SANDBOX (cutbox-rows.mjs): the forced cells as the released guide's own fill.sh prints them over the translation adbd62cf247b1376… (all of the seat's roots in one cut). By AI agents, Wed Nov 11 2026. No macro, syntax, notation, axiom, sorry.
-/
import Derived.Test.YtaoneiicoaiehaaChecked
import GoSem.Claim
import GoSem.ClaimJoined
import GoSem.ClaimMapViews
import Derived.JoinedTies
import Derived.KernelRfl
namespace Go.Proofs.Ytaoneiicoaiehaa
/- THE CELL 'sum', in the pinned program and in every row, IS THE sha256 OF THE DUMP (.gsa) THAT YtaoneiicoaiehaaProg.lean LOADS. Nothing in Lean hashes anything: it is a label: what it is worth is what the hold of that sum in a sandbox is worth. -/
noncomputable def Try.pinned : Pinned := { name := "ytaoneiicoaiehaa", sum := "adbd62cf247b1376ea76e49ad3a5ff2c1d39362baca48e1e54374520b07bb773", checked := Try.checked }
namespace Rows
def none {H : Type} : Left H := { results := [], args := [] }

/-- 'fasciclelaw11.ManTells': WHATEVER THE INPUT: true; the input reads as it did. -/
def manTellsSpec : ChangeSpec := { name := "manTells", fn := fun _ => fun
  | [d1, d2] => { results := [.lit (.bool true)], args := [d1, d2] }
  | _ => none }
def manTellsRow : OpenClaim := { program := "ytaoneiicoaiehaa", sum := "adbd62cf247b1376ea76e49ad3a5ff2c1d39362baca48e1e54374520b07bb773", func := "fascicle/fasciclelaw11.ManTells", spec := "manTells", inPlace := ["internal/abi.NoEscape", "internal/bytealg.MakeNoZero", "maps.clone"], unfollowed := true, recurses := true, apart := false }
def ManTellsSaid : Prop := manTellsRow.holds Try.pinned (OpenSpec.ofChange manTellsSpec)

/-- ITS FALSE NEIGHBOUR: 'it returns false'. Refute it at one input. -/
def manTellsWrong : ChangeSpec := { name := "manTells", fn := fun _ => fun
  | [d1, d2] => { results := [.lit (.bool false)], args := [d1, d2] }
  | _ => none }
def ManTellsWrongFalsely : Prop := manTellsRow.holds Try.pinned (OpenSpec.ofChange manTellsWrong)

/-- 'fasciclelaw11.ManKeeps': WHATEVER THE INPUT: true; the input reads as it did. -/
def manKeepsSpec : ChangeSpec := { name := "manKeeps", fn := fun _ => fun
  | [d] => { results := [.lit (.bool true)], args := [d] }
  | _ => none }
def manKeepsRow : OpenClaim := { program := "ytaoneiicoaiehaa", sum := "adbd62cf247b1376ea76e49ad3a5ff2c1d39362baca48e1e54374520b07bb773", func := "fascicle/fasciclelaw11.ManKeeps", spec := "manKeeps", inPlace := ["internal/abi.NoEscape", "internal/bytealg.MakeNoZero", "maps.clone"], unfollowed := true, recurses := true, apart := false }
def ManKeepsSaid : Prop := manKeepsRow.holds Try.pinned (OpenSpec.ofChange manKeepsSpec)

/-- ITS FALSE NEIGHBOUR: 'it returns false'. Refute it at one input. -/
def manKeepsWrong : ChangeSpec := { name := "manKeeps", fn := fun _ => fun
  | [d] => { results := [.lit (.bool false)], args := [d] }
  | _ => none }
def ManKeepsWrongFalsely : Prop := manKeepsRow.holds Try.pinned (OpenSpec.ofChange manKeepsWrong)

/-- 'fasciclelaw11.ManNil': WHATEVER THE INPUT: true; the input reads as it did. -/
def manNilSpec : ChangeSpec := { name := "manNil", fn := fun _ => fun
  | [d1, d2] => { results := [.lit (.bool true)], args := [d1, d2] }
  | _ => none }
def manNilRow : OpenClaim := { program := "ytaoneiicoaiehaa", sum := "adbd62cf247b1376ea76e49ad3a5ff2c1d39362baca48e1e54374520b07bb773", func := "fascicle/fasciclelaw11.ManNil", spec := "manNil", inPlace := ["internal/abi.NoEscape", "internal/bytealg.MakeNoZero", "maps.clone"], unfollowed := true, recurses := true, apart := false }
def ManNilSaid : Prop := manNilRow.holds Try.pinned (OpenSpec.ofChange manNilSpec)

/-- ITS FALSE NEIGHBOUR: 'it returns false'. Refute it at one input. -/
def manNilWrong : ChangeSpec := { name := "manNil", fn := fun _ => fun
  | [d1, d2] => { results := [.lit (.bool false)], args := [d1, d2] }
  | _ => none }
def ManNilWrongFalsely : Prop := manNilRow.holds Try.pinned (OpenSpec.ofChange manNilWrong)

/- THE SECOND FORM. 'bulk': how many values and letters a reading holds, each counted each time it is reached (what is shared counts as often as it is met; a slice's spare places count too). A statement '..UptoSaid' is the law's where the arguments, and the package variables that the reading takes, are together of bulk at most 1048576: NARROWER than '..Said'. Prove '..Said' where nothing that the law and all that it calls make is longer than what came in: it says more and counts as full. Else prove '..UptoSaid'. A law counts once. -/
mutual
def uptoBulk {H : Type} : DataW H → Nat
  | .lit (.string bytes) => bytes.length + 1
  | .lit _ => 1
  | .nil => 1
  | .ptr d => uptoBulk d + 1
  | .slice elems spare => uptoBulkAll elems + uptoBulkAll spare + 1
  | .agg parts => uptoBulkAll parts + 1
  | .iface _ d => uptoBulk d + 1
  | .map entries => uptoBulkEntries entries + 1
  | .held _ => 1
def uptoBulkAll {H : Type} : List (DataW H) → Nat
  | [] => 0
  | d :: r => uptoBulk d + uptoBulkAll r
def uptoBulkEntries {H : Type} : List (Lit × DataW H) → Nat
  | [] => 0
  | x :: r => uptoBulkEntry x + uptoBulkEntries r
def uptoBulkEntry {H : Type} : Lit × DataW H → Nat
  | (.string bytes, d) => bytes.length + uptoBulk d + 1
  | (_, d) => uptoBulk d + 1
 end
def uptoSmall : (H : Type) → List (DataW H) → Bool := fun _ ds => decide (uptoBulkAll ds ≤ 1048576)
def OpenSpec.upto (s : _root_.Go.ChangeSpec) : _root_.Go.OpenSpec := { _root_.Go.OpenSpec.ofChange s with cond := some uptoSmall }

/-- 'fasciclelaw11.ManTells', WHERE WHAT IT READS IS OF BULK AT MOST 1048576: true; the input reads as it did. -/
def manTellsUptoRow : OpenClaim := { program := "ytaoneiicoaiehaa", sum := "adbd62cf247b1376ea76e49ad3a5ff2c1d39362baca48e1e54374520b07bb773", func := "fascicle/fasciclelaw11.ManTells", spec := "manTells", inPlace := ["internal/abi.NoEscape", "internal/bytealg.MakeNoZero", "maps.clone"], unfollowed := true, recurses := true, apart := false, narrowed := true }
def ManTellsUptoSaid : Prop := manTellsUptoRow.holds Try.pinned (OpenSpec.upto manTellsSpec)

/-- 'fasciclelaw11.ManKeeps', WHERE WHAT IT READS IS OF BULK AT MOST 1048576: true; the input reads as it did. -/
def manKeepsUptoRow : OpenClaim := { program := "ytaoneiicoaiehaa", sum := "adbd62cf247b1376ea76e49ad3a5ff2c1d39362baca48e1e54374520b07bb773", func := "fascicle/fasciclelaw11.ManKeeps", spec := "manKeeps", inPlace := ["internal/abi.NoEscape", "internal/bytealg.MakeNoZero", "maps.clone"], unfollowed := true, recurses := true, apart := false, narrowed := true }
def ManKeepsUptoSaid : Prop := manKeepsUptoRow.holds Try.pinned (OpenSpec.upto manKeepsSpec)

/-- 'fasciclelaw11.ManNil', WHERE WHAT IT READS IS OF BULK AT MOST 1048576: true; the input reads as it did. -/
def manNilUptoRow : OpenClaim := { program := "ytaoneiicoaiehaa", sum := "adbd62cf247b1376ea76e49ad3a5ff2c1d39362baca48e1e54374520b07bb773", func := "fascicle/fasciclelaw11.ManNil", spec := "manNil", inPlace := ["internal/abi.NoEscape", "internal/bytealg.MakeNoZero", "maps.clone"], unfollowed := true, recurses := true, apart := false, narrowed := true }
def ManNilUptoSaid : Prop := manNilUptoRow.holds Try.pinned (OpenSpec.upto manNilSpec)

end Rows
end Go.Proofs.Ytaoneiicoaiehaa
