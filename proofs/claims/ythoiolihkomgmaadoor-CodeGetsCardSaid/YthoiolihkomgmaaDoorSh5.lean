/- The library's own contracts, laid over this program: strings.Clone, utf8.DecodeRuneInString, bits.LeadingZeros8; and code.letterBytes. -/
import Derived.Test.YthoiolihkomgmaaDoorProg
import Derived.Ground.NamesProg
import Derived.Shelf.Small.Bits
import Derived.Shelf.Unicode.DecodeAny
import Derived.Shelf.Strconv.Clone
import Derived.Test.YthoiolihkomgmaaDoorVs
import Derived.Test.YthoiolihkomgmaaDoorCm
import Derived.WalkKit
import Derived.Lib.Hide
namespace Go.Proofs.YthoiolihkomgmaaDoor.Sh5
open Go Go.RowKit Go.Shelf Go.Proofs Go.Proofs.YthoiolihkomgmaaDoor.Vs Go.Proofs.YthoiolihkomgmaaDoor.Cm
def sh_clone_ren : Go.Shelf.Ren := ⟨fun | 316 => 59 | n => n, fun | 9 => 9 | 3 => 3 | 4 => 4 | 37 => 46 | 0 => 0 | 127 => 88 | 5 => 5 | n => n, fun | n => n⟩
theorem sh_clone : Go.Proofs.LaysM.n316 Tryd.prog sh_clone_ren := {
  mixed := by kernel_rfl
  f316 := Tryd.func59.trans (congrArg some (by kernel_rfl))
  t0 := Tryd.underlying0
  a0 := Tryd.isAgg0
  z0 := Tryd.sizeOf0
  v0 := Tryd.zeroValue0
  t3 := Tryd.underlying3
  a3 := Tryd.isAgg3
  z3 := Tryd.sizeOf3
  v3 := Tryd.zeroValue3
  t4 := Tryd.underlying4
  a4 := Tryd.isAgg4
  z4 := Tryd.sizeOf4
  v4 := Tryd.zeroValue4
  t9 := Tryd.underlying9
  a9 := Tryd.isAgg9
  z9 := Tryd.sizeOf9
  v9 := Tryd.zeroValue9
  t37 := Tryd.underlying46
  a37 := Tryd.isAgg46
  z37 := Tryd.sizeOf46
  v37 := Tryd.zeroValue46
  t127 := Tryd.underlying88
  a127 := Tryd.isAgg88
  z127 := Tryd.sizeOf88
  v127 := Tryd.zeroValue88
  t5 := Tryd.underlying5
  a5 := Tryd.isAgg5
  z5 := Tryd.sizeOf5
  v5 := Tryd.zeroValue5
  i0 := by kernel_rfl
  i3 := by kernel_rfl
  i4 := by kernel_rfl
  i5 := by kernel_rfl
  i9 := by kernel_rfl
  i37 := by kernel_rfl
  i127 := by kernel_rfl }
def sh_decode_ren : Go.Shelf.Ren := ⟨fun | 197 => 54 | 260 => 60 | n => n, fun | 9 => 9 | 21 => 21 | 3 => 3 | 4 => 4 | 5 => 5 | 105 => 82 | 119 => 64 | 0 => 0 | 46 => 68 | 139 => 67 | 138 => 66 | n => n, fun | 3 => 0 | 4 => 1 | n => n⟩
theorem sh_decode : Go.Proofs.Lays.n197 Tryd.prog sh_decode_ren := {
  mixed := by kernel_rfl
  f197 := Tryd.func54.trans (congrArg some (by kernel_rfl))
  f260 := Tryd.func60.trans (congrArg some (by kernel_rfl))
  t0 := Tryd.underlying0
  a0 := Tryd.isAgg0
  z0 := Tryd.sizeOf0
  v0 := Tryd.zeroValue0
  t3 := Tryd.underlying3
  a3 := Tryd.isAgg3
  z3 := Tryd.sizeOf3
  v3 := Tryd.zeroValue3
  t4 := Tryd.underlying4
  a4 := Tryd.isAgg4
  z4 := Tryd.sizeOf4
  v4 := Tryd.zeroValue4
  t5 := Tryd.underlying5
  a5 := Tryd.isAgg5
  z5 := Tryd.sizeOf5
  v5 := Tryd.zeroValue5
  t9 := Tryd.underlying9
  a9 := Tryd.isAgg9
  z9 := Tryd.sizeOf9
  v9 := Tryd.zeroValue9
  t21 := Tryd.underlying21
  a21 := Tryd.isAgg21
  z21 := Tryd.sizeOf21
  v21 := Tryd.zeroValue21
  t46 := Tryd.underlying68
  a46 := Tryd.isAgg68
  z46 := Tryd.sizeOf68
  v46 := Tryd.zeroValue68
  t105 := Tryd.underlying82
  a105 := Tryd.isAgg82
  z105 := Tryd.sizeOf82
  v105 := Tryd.zeroValue82
  t119 := Tryd.underlying64
  a119 := Tryd.isAgg64
  z119 := Tryd.sizeOf64
  t138 := Tryd.underlying66
  a138 := Tryd.isAgg66
  z138 := Tryd.sizeOf66
  v138 := Tryd.zeroValue66
  t139 := Tryd.underlying67
  a139 := Tryd.isAgg67
  z139 := Tryd.sizeOf67
  v139 := Tryd.zeroValue67
  g3 := by kernel_rfl
  g4 := by kernel_rfl }
def sh_lead_ren : Go.Shelf.Ren := ⟨fun | 131 => 61 | 126 => 62 | n => n, fun | 5 => 5 | 3 => 3 | 9 => 9 | n => n, fun | n => n⟩
theorem sh_lead : Go.Proofs.Lays.n131 Tryd.prog sh_lead_ren := {
  mixed := by kernel_rfl
  f126 := Tryd.func62.trans (congrArg some (by kernel_rfl))
  f131 := Tryd.func61.trans (congrArg some (by kernel_rfl))
  t3 := Tryd.underlying3
  a3 := Tryd.isAgg3
  z3 := Tryd.sizeOf3
  v3 := Tryd.zeroValue3
  t5 := Tryd.underlying5
  a5 := Tryd.isAgg5
  z5 := Tryd.sizeOf5
  v5 := Tryd.zeroValue5
  t9 := Tryd.underlying9
  a9 := Tryd.isAgg9
  z9 := Tryd.sizeOf9
  v9 := Tryd.zeroValue9 }
theorem clone_any (s : ByteArray) (w : World) (hs : s.size ≤ 281474976710656) :
    Calls Tryd.prog 52 #[.string s] w fun e w' => e = .returned (.string s) ∧ Below w.heap.size w w' := by
  have hc := Any.stringslite_Clone sh_clone s w hs
  go_enter Tryd.func52, Tryd.ntmps52
  go_wp2_with (go_at_call 59; refine hc.mono ?_; rintro e w1 ⟨rfl, hb⟩; have HB := Lib.hid hb; clear hb)
  go_ret
  exact ⟨rfl, HB.out⟩
theorem decode_any (s : ByteArray) (w : World) (hT : Tabs w) :
    Calls Tryd.prog 54 #[.string s] w fun e w' => e = .returned (.tuple #[.int .i32 (Lib.decodeGo s).1, .int .i64 (Lib.decodeGo s).2]) ∧ Below w.heap.size w w' :=
  Any.utf8_DecodeRuneInString sh_decode s w hT
set_option maxRecDepth 20000 in
theorem flip : ∀ c : Fin 256, bits BinOp.xor IntKind.u8 IntKind.u8.max ((c.val : Nat) : Int) = ((255 - c.val : Nat) : Int) := by decide
theorem letter_any (c : UInt8) (w : World) :
    Calls Tryd.prog 55 #[.int .u8 (c.toNat : Int)] w fun e w' => e = .returned (.int .i64 (lead c : Int)) ∧ w = w' := by
  have hlt := c.toNat_lt
  have hx : ∀ x : Nat, x ≤ 255 → ∀ W : World, Calls Tryd.prog 61 #[.int .u8 (x : Int)] W fun e w' => e = .returned (.int .i64 (8 - (Lib.bitLen x : Int))) ∧ w' = W := fun x h W => by
    have := Any.bits_LeadingZeros8 sh_lead (x : Int) W (by omega) (by omega)
    rwa [Int.toNat_natCast] at this
  have hf := hx (255 - c.toNat) (by omega)
  clear hx
  have hb := Lib.bitLen_le8 ⟨255 - c.toNat, by omega⟩
  simp only at hb
  go_enter Tryd.func55, Tryd.ntmps55
  go_wp2_with fail
  rw [flip ⟨c.toNat, hlt⟩]
  refine (hf _).mono ?_
  rintro e w1 ⟨rfl, rfl⟩
  go_wp2
  go_ret
  refine ⟨congrArg Ending.returned (congrArg (Value.int IntKind.i64) ?_), rfl⟩
  show (8 - (Lib.bitLen (255 - c.toNat) : Int)) = ((8 - Lib.bitLen (255 - c.toNat) : Nat) : Int)
  omega
end Go.Proofs.YthoiolihkomgmaaDoor.Sh5
