/- The contracts of the document's own room (package fascicleref01): it leaves the world alone. -/
import Derived.Test.YtjpefkpmjhahgaaProg
import Derived.Test.YtjpefkpmjhahgaaWm
import Derived.WalkKit
import Derived.Lib.Hide
namespace Go.Proofs.Ytjpefkpmjhahgaa.WRefRoom
open Go Go.RowKit Go.Proofs.Ytjpefkpmjhahgaa.Wm
theorem room_top (v n b : Int) (w : World) (h0 : 0 ≤ n) (h1 : n ≤ 16) (h : 64 ≤ n * b) (h' : n * b ≤ 128) :
    Calls Try.prog 38 #[.int .u64 v, .int .i64 n, .int .u64 b] w fun e w' => e = .returned (.bool true) ∧ w = w' := by
  have h4 : 0 ≤ n * b := by omega
  go_enter Try.func38, Try.ntmps38
  go_wp2
  go_ret
  exact ⟨rfl, rfl⟩
theorem room_low (v n b p : Int) (r : Bool) (w : World) (h0 : 0 ≤ n) (h1 : n ≤ 16) (h : ¬ 64 ≤ n * b) (h5 : 0 ≤ n * b) (hp : IntKind.u64.wrap (2 ^ (n * b).toNat) = p) (hr : decide (v < p) = r) :
    Calls Try.prog 38 #[.int .u64 v, .int .i64 n, .int .u64 b] w fun e w' => e = .returned (.bool r) ∧ w = w' := by
  go_enter Try.func38, Try.ntmps38
  go_wp2
  go_ret
  exact ⟨rfl, rfl⟩
/-- Room in m bytes. -/
theorem room8 (v : Int) (V m : Nat) (w : World) (hm : m ≤ 8) (hV : V < 18446744073709551616) (hv : v = (V : Int)) (r : Bool) (hr : decide (V < 256 ^ m) = r) :
    Calls Try.prog 38 #[.int .u64 v, .int .i64 (m : Int), .int .u64 8] w fun e w' => e = .returned (.bool r) ∧ w = w' := by
  by_cases h : m = 8
  · have e : (256 : Nat) ^ 8 = 18446744073709551616 := by decide
    have hr' : r = true := by rw [← hr, h, e]; exact decide_eq_true hV
    rw [hr']
    exact room_top v m 8 w (by omega) (by omega) (by omega) (by omega)
  · have h1 : (2 : Nat) ^ (8 * m) ≤ 2 ^ 56 := Nat.pow_le_pow_right (by omega) (by omega)
    have e : ((m : Int) * 8).toNat = 8 * m := by omega
    have e2 : (2 : Int) ^ (8 * m) = ((2 ^ (8 * m) : Nat) : Int) := by rw [Int.natCast_pow]; rfl
    refine room_low v m 8 ((256 ^ m : Nat) : Int) r w (by omega) (by omega) (by omega) (by omega) ?_ ?_
    · rw [e, e2, wrap_u64_small _ (by omega), pow256]
    · rw [← hr, hv]
      exact decide_eq_decide.2 (by omega)
end Go.Proofs.Ytjpefkpmjhahgaa.WRefRoom
