/- The contracts of word.digit and word.worth: the rune of a digit, and the worth of a rune; both leave the world alone. -/
import Derived.Test.YthoenmnbnigkaaaProg
import Derived.Test.YthoenmnbnigkaaaWm
import Derived.WalkKit
import Derived.Lib.Hide
namespace Go.Proofs.Ythoenmnbnigkaaa.WDigit
open Go Go.RowKit Go.Proofs.Ythoenmnbnigkaaa.Wm
theorem digit_lo (d : Int) (w : World) (h0 : 0 ≤ d) (h : d < 10) :
    Calls Try.prog 33 #[.int .u64 d] w fun e w' => e = .returned (.int .i32 (48 + d)) ∧ w = w' := by
  go_enter Try.func33, Try.ntmps33
  go_wp2
  go_ret
  exact ⟨rfl, rfl⟩
theorem digit_hi (d : Int) (w : World) (h0 : 10 ≤ d) (h : d < 16) :
    Calls Try.prog 33 #[.int .u64 d] w fun e w' => e = .returned (.int .i32 (87 + d)) ∧ w = w' := by
  have h1 : ¬ d < 10 := by omega
  go_enter Try.func33, Try.ntmps33
  go_wp2
  go_ret
  exact ⟨ret_i (by omega), rfl⟩
theorem digit (d : Nat) (w : World) (h : d < 16) :
    Calls Try.prog 33 #[.int .u64 (d : Int)] w fun e w' => e = .returned (.int .i32 (digI d)) ∧ w = w' := by
  unfold digI
  by_cases h1 : d < 10
  · rw [if_pos h1]; exact digit_lo d w (by omega) (by omega)
  · rw [if_neg h1]; exact digit_hi d w (by omega) (by omega)
theorem digit_var (x : Int) (d : Nat) (w : World) (h : d < 16) (hx : x = (d : Int)) :
    Calls Try.prog 33 #[.int .u64 x] w fun e w' => e = .returned (.int .i32 (digI d)) ∧ w = w' := by
  subst hx; exact digit d w h
theorem worth_lo (r : Int) (w : World) (h0 : 48 ≤ r) (h : r ≤ 57) :
    Calls Try.prog 30 #[.int .i32 r] w fun e w' => e = .returned (.tuple #[.int .u64 (r - 48), .bool true]) ∧ w = w' := by
  go_enter Try.func30, Try.ntmps30
  go_wp2
  go_ret2
  exact ⟨rfl, rfl⟩
theorem worth_hi (r : Int) (w : World) (h0 : 97 ≤ r) (h : r ≤ 102) :
    Calls Try.prog 30 #[.int .i32 r] w fun e w' => e = .returned (.tuple #[.int .u64 (r - 87), .bool true]) ∧ w = w' := by
  have h1 : ¬ r ≤ 57 := by omega
  go_enter Try.func30, Try.ntmps30
  go_wp2
  go_ret2
  exact ⟨ret_ib (by omega) rfl, rfl⟩
theorem worth_no (r : Int) (w : World) (h : ¬ (48 ≤ r ∧ r ≤ 57)) (h' : ¬ (97 ≤ r ∧ r ≤ 102)) :
    Calls Try.prog 30 #[.int .i32 r] w fun e w' => e = .returned (.tuple #[.int .u64 0, .bool false]) ∧ w = w' := by
  by_cases a : 48 ≤ r
  · have a' : ¬ r ≤ 57 := by omega
    by_cases b : 97 ≤ r
    · have b' : ¬ r ≤ 102 := by omega
      clear h h'
      go_enter Try.func30, Try.ntmps30
      go_wp2
      go_ret2
      exact ⟨rfl, rfl⟩
    · clear h h'
      go_enter Try.func30, Try.ntmps30
      go_wp2
      go_ret2
      exact ⟨rfl, rfl⟩
  · have b : ¬ 97 ≤ r := by omega
    clear h h'
    go_enter Try.func30, Try.ntmps30
    go_wp2
    go_ret2
    exact ⟨rfl, rfl⟩
/-- The worth of a byte that is a digit. -/
theorem worth_some (c : UInt8) (d : Nat) (w : World) (h : Wm.worth c = some d) :
    Calls Try.prog 30 #[.int .i32 (c.toNat : Int)] w fun e w' => e = .returned (.tuple #[.int .u64 (d : Int), .bool true]) ∧ w = w' := by
  unfold Wm.worth at h
  split at h
  · injection h with h; subst h
    exact (worth_lo _ w (by omega) (by omega)).mono fun e w' hh => ⟨by rw [hh.1]; exact ret_ib (by omega) rfl, hh.2⟩
  · split at h
    · injection h with h; subst h
      exact (worth_hi _ w (by omega) (by omega)).mono fun e w' hh => ⟨by rw [hh.1]; exact ret_ib (by omega) rfl, hh.2⟩
    · cases h
theorem worth_none (c : UInt8) (w : World) (h : Wm.worth c = none) :
    Calls Try.prog 30 #[.int .i32 (c.toNat : Int)] w fun e w' => e = .returned (.tuple #[.int .u64 0, .bool false]) ∧ w = w' := by
  unfold Wm.worth at h
  split at h
  · cases h
  · split at h
    · cases h
    · exact worth_no _ w (by omega) (by omega)
end Go.Proofs.Ythoenmnbnigkaaa.WDigit
