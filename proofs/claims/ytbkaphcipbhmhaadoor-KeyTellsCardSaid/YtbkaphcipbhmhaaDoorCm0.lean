/- Bytes as texts, numbers without sign, what a reading gets: plain. -/
import Derived.Test.YtbkaphcipbhmhaaDoorVm
namespace Go.Proofs.YtbkaphcipbhmhaaDoor.Cm
open Go Go.Proofs.YtbkaphcipbhmhaaDoor.Wm Go.Proofs.YtbkaphcipbhmhaaDoor.Vm
/-- A text of these bytes. -/
def bs (l : List UInt8) : ByteArray := ⟨l.toArray⟩
theorem bs_list (l : List UInt8) : (bs l).data.toList = l := rfl
theorem bs_size (l : List UInt8) : (bs l).size = l.length := rfl
theorem bs_of (s : ByteArray) : bs s.data.toList = s := rfl
theorem bs_inj {l m : List UInt8} (h : bs l = bs m) : l = m := by
  have := congrArg (fun b => b.data.toList) h
  simpa [bs] using this
theorem bs_extract (l : List UInt8) (a b : Nat) : (bs l).extract a b = bs ((l.take b).drop a) := by
  apply bytes_ext
  rw [ByteArray.toList_eq, ByteArray.toList_eq]
  show ((bs l).extract a b).data.toList = _
  rw [ByteArray.data_extract]
  simp [bs, List.drop_take]
theorem bs_take (l : List UInt8) (n : Nat) : (bs l).extract 0 n = bs (l.take n) := by rw [bs_extract]; rfl
theorem bs_drop (l : List UInt8) (n : Nat) : (bs l).extract n l.length = bs (l.drop n) := by rw [bs_extract, List.take_length]
/-- A number as one without sign, and back. -/
def u64 (n : Int) : Nat := (n % 18446744073709551616).toNat
def toI (N : Nat) : Int := if N < 9223372036854775808 then (N : Int) else (N : Int) - 18446744073709551616
theorem u64_lt (n : Int) : u64 n < 18446744073709551616 := by unfold u64; omega
theorem u64_small {n : Int} (h : 0 ≤ n) (h' : n < 18446744073709551616) : (u64 n : Int) = n := by unfold u64; omega
theorem wrap_u64 (n : Int) : IntKind.u64.wrap n = (u64 n : Int) := by
  simp only [IntKind.wrap, IntKind.bits, IntKind.signed, u64]
  simp
  omega
theorem wrap_i64 {N : Nat} (h : N < 18446744073709551616) : IntKind.i64.wrap (N : Int) = toI N := by
  simp only [IntKind.wrap, IntKind.bits, IntKind.signed, toI]
  simp
  split <;> omega
theorem toI_u64 {n : Int} (h : -9223372036854775808 ≤ n) (h' : n ≤ 9223372036854775807) : toI (u64 n) = n := by
  unfold toI u64
  split <;> omega
theorem u64_toI {N : Nat} (h : N < 18446744073709551616) : u64 (toI N) = N := by
  unfold toI u64
  split <;> omega
theorem toI_range {N : Nat} (h : N < 18446744073709551616) : -9223372036854775808 ≤ toI N ∧ toI N ≤ 9223372036854775807 := by
  unfold toI
  split <;> omega
/-- What a reading gets, and what is left; or why it gave up. -/
inductive Got (α : Type) where
  | ok (a : α) (rest : List UInt8)
  | bad (c : Int)
def num (n : Nat) (s : List UInt8) : Got Nat := if n ≤ s.length then .ok (getL (s.take n)) (s.drop n) else .bad 6
end Go.Proofs.YtbkaphcipbhmhaaDoor.Cm
