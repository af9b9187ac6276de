/- The contract of the statements' examples: 'alive' answers true, and leaves all old memory alone. -/
import Derived.Test.YtohefmnmdnmfoaaPut
import Derived.Test.YtohefmnmdnmfoaaGet
import Derived.Test.YtohefmnmdnmfoaaHex
import Derived.Test.YtohefmnmdnmfoaaUnhex
import Derived.Test.YtohefmnmdnmfoaaSum
namespace Go.Proofs.Ytohefmnmdnmfoaa.WAlive
open Go Go.RowKit Go.Proofs.Ytohefmnmdnmfoaa.Wm Go.Proofs.Ytohefmnmdnmfoaa.Wc
theorem p1 : WPut.putS 258 2 = ([2, 1], 0) := by decide
theorem p2 : WPut.putS 256 1 = ([], 5) := by decide
theorem p3 : WHex.hexS 255 4 = ([48, 48, 102, 102], 0) := by decide
theorem p4 : WUnhex.unhexS (⟨#[48, 48, 102, 70]⟩ : ByteArray).data.toList = (0, 2) := by decide
theorem p5 : WGet.getS (⟨#[2, 1]⟩ : ByteArray).data.toList = (258, 0) := by decide
theorem put1 (w : World) : Calls Try.prog 7 #[.int .u64 258, .int .i64 2] w fun e w' => e = .returned (.tuple #[.string ⟨#[2, 1]⟩, .int .i64 0]) ∧ Below w.heap.size w w' :=
  (WPut.any 258 2 w (by decide)).mono fun _ _ h => ⟨h.1.trans (by rw [p1]), h.2⟩
theorem put2 (w : World) : Calls Try.prog 7 #[.int .u64 256, .int .i64 1] w fun e w' => e = .returned (.tuple #[.string ⟨#[]⟩, .int .i64 5]) ∧ Below w.heap.size w w' :=
  (WPut.any 256 1 w (by decide)).mono fun _ _ h => ⟨h.1.trans (by rw [p2]), h.2⟩
theorem hex1 (w : World) : Calls Try.prog 11 #[.int .u64 255, .int .i64 4] w fun e w' => e = .returned (.tuple #[.string ⟨#[48, 48, 102, 102]⟩, .int .i64 0]) ∧ Below w.heap.size w w' :=
  (WHex.any 255 4 w (by decide)).mono fun _ _ h => ⟨h.1.trans (by rw [p3]), h.2⟩
theorem unhex1 (w : World) : Calls Try.prog 13 #[.string ⟨#[48, 48, 102, 70]⟩] w fun e w' => e = .returned (.tuple #[.int .u64 0, .int .i64 2]) ∧ Below w.heap.size w w' :=
  (WUnhex.any ⟨#[48, 48, 102, 70]⟩ w (by decide)).mono fun _ _ h => ⟨h.1.trans (by rw [p4]), h.2⟩
theorem get1 (w : World) : Calls Try.prog 9 #[.string ⟨#[2, 1]⟩] w fun e w' => e = .returned (.tuple #[.int .u64 258, .int .i64 0]) ∧ w = w' :=
  (WGet.any ⟨#[2, 1]⟩ w (by decide)).mono fun _ _ h => ⟨h.1.trans (by rw [p5]), h.2⟩
theorem crc1 : crc [49, 50, 51, 52, 53, 54, 55, 56, 57] = 3421780262 := by decide +kernel
theorem sum1 (w : World) : Calls Try.prog 16 #[.string ⟨#[49, 50, 51, 52, 53, 54, 55, 56, 57]⟩] w fun e w' => e = .returned (.int .u32 3421780262) ∧ Below w.heap.size w w' :=
  (WSum.sum_any ⟨#[49, 50, 51, 52, 53, 54, 55, 56, 57]⟩ w (by decide)).mono fun _ _ h => ⟨h.1.trans (by rw [crc1]; rfl), h.2⟩
theorem alive (w : World) : Calls Try.prog 15 #[] w fun e w' => e = .returned (.bool true) ∧ Below w.heap.size w w' := by
  go_enter Try.func15, Try.ntmps15
  go_wp2_with fail
  refine (put1 w).mono ?_
  rintro e w1 ⟨rfl, h1⟩
  go_wp2_with fail
  refine (put2 _).mono ?_
  rintro e w2 ⟨rfl, h2⟩
  go_wp2_with fail
  refine (hex1 _).mono ?_
  rintro e w3 ⟨rfl, h3⟩
  go_wp2_with fail
  refine (unhex1 _).mono ?_
  rintro e w4 ⟨rfl, h4⟩
  go_wp2_with fail
  refine (get1 _).mono ?_
  rintro e w5 ⟨rfl, rfl⟩
  go_wp2_with fail
  refine (sum1 _).mono ?_
  rintro e w6 ⟨rfl, h6⟩
  go_wp2
  go_ret
  exact ⟨rfl, h1.trans ((h2.mono h1.size).trans ((h3.mono (Nat.le_trans h1.size h2.size)).trans ((h4.mono (Nat.le_trans (Nat.le_trans h1.size h2.size) h3.size)).trans (h6.mono (Nat.le_trans (Nat.le_trans (Nat.le_trans h1.size h2.size) h3.size) h4.size)))))⟩
end Go.Proofs.Ytohefmnmdnmfoaa.WAlive
