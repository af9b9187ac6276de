/- The contracts of the document's own room and digit (package fascicleref01): they leave the world alone. -/
import Derived.Test.YthoenmnbnigkaaaProg
import Derived.Test.YthoenmnbnigkaaaWm
import Derived.WalkKit
import Derived.Lib.Hide
namespace Go.Proofs.Ythoenmnbnigkaaa.WRefRoom
open Go Go.RowKit Go.Proofs.Ythoenmnbnigkaaa.Wm
theorem room_top (v n b : Int) (w : World) (h0 : 0 ≤ n) (h1 : n ≤ 16) (h : 64 ≤ n * b) (h' : n * b ≤ 128) :
    Calls Try.prog 34 #[.int .u64 v, .int .i64 n, .int .u64 b] w fun e w' => e = .returned (.bool true) ∧ w = w' := by
  have h4 : 0 ≤ n * b := by omega
  go_enter Try.func34, Try.ntmps34
  go_wp2
  go_ret
  exact ⟨rfl, rfl⟩
theorem room_low (v n b p : Int) (r : Bool) (w : World) (h0 : 0 ≤ n) (h1 : n ≤ 16) (h : ¬ 64 ≤ n * b) (h5 : 0 ≤ n * b) (hp : IntKind.u64.wrap (2 ^ (n * b).toNat) = p) (hr : decide (v < p) = r) :
    Calls Try.prog 34 #[.int .u64 v, .int .i64 n, .int .u64 b] w fun e w' => e = .returned (.bool r) ∧ w = w' := by
  go_enter Try.func34, Try.ntmps34
  go_wp2
  go_ret
  exact ⟨rfl, rfl⟩
/-- Room in m bytes. -/
theorem room8 (v : Int) (V m : Nat) (w : World) (hm : m ≤ 8) (hV : V < 18446744073709551616) (hv : v = (V : Int)) (r : Bool) (hr : decide (V < 256 ^ m) = r) :
    Calls Try.prog 34 #[.int .u64 v, .int .i64 (m : Int), .int .u64 8] w fun e w' => e = .returned (.bool r) ∧ w = w' := by
  by_cases h : m = 8
  · have e : (256 : Nat) ^ 8 = 18446744073709551616 := by decide
    have hr' : r = true := by rw [← hr, h, e]; exact decide_eq_true hV
    rw [hr']
    exact room_top v m 8 w (by omega) (by omega) (by omega) (by omega)
  · have h1 : (2 : Nat) ^ (8 * m) ≤ 2 ^ 56 := Nat.pow_le_pow_right (by omega) (by omega)
    have e : ((m : Int) * 8).toNat = 8 * m := by omega
    have e2 : (2 : Int) ^ (8 * m) = ((2 ^ (8 * m) : Nat) : Int) := by rw [Int.natCast_pow]; rfl
    refine room_low v m 8 ((256 ^ m : Nat) : Int) r w (by omega) (by omega) (by omega) (by omega) ?_ ?_
    · rw [e, e2, wrap_u64_small _ (by omega), pow256]
    · rw [← hr, hv]
      exact decide_eq_decide.2 (by omega)
/-- Room in m digits. -/
theorem room4 (v : Int) (V m : Nat) (w : World) (hm : m ≤ 16) (hV : V < 18446744073709551616) (hv : v = (V : Int)) (r : Bool) (hr : decide (V < 16 ^ m) = r) :
    Calls Try.prog 34 #[.int .u64 v, .int .i64 (m : Int), .int .u64 4] w fun e w' => e = .returned (.bool r) ∧ w = w' := by
  by_cases h : m = 16
  · have e : (16 : Nat) ^ 16 = 18446744073709551616 := by decide
    have hr' : r = true := by rw [← hr, h, e]; exact decide_eq_true hV
    rw [hr']
    exact room_top v m 4 w (by omega) (by omega) (by omega) (by omega)
  · have h1 : (2 : Nat) ^ (4 * m) ≤ 2 ^ 60 := Nat.pow_le_pow_right (by omega) (by omega)
    have e : ((m : Int) * 4).toNat = 4 * m := by omega
    have e2 : (2 : Int) ^ (4 * m) = ((2 ^ (4 * m) : Nat) : Int) := by rw [Int.natCast_pow]; rfl
    refine room_low v m 4 ((16 ^ m : Nat) : Int) r w (by omega) (by omega) (by omega) (by omega) ?_ ?_
    · rw [e, e2, wrap_u64_small _ (by omega), pow16]
    · rw [← hr, hv]
      exact decide_eq_decide.2 (by omega)
theorem digit_some (c : UInt8) (d : Nat) (w : World) (h : Wm.worth c = some d) :
    Calls Try.prog 31 #[.int .u8 (c.toNat : Int)] w fun e w' => e = .returned (.tuple #[.int .u64 (d : Int), .bool true]) ∧ w = w' := by
  have hc := c.toNat_lt
  unfold Wm.worth at h
  split at h
  · rename_i hb
    injection h with h; subst h
    obtain ⟨b1, b2⟩ := hb
    have b3 : (48 : Int) ≤ (c.toNat : Int) := by omega
    have b4 : (c.toNat : Int) ≤ 57 := by omega
    go_enter Try.func31, Try.ntmps31
    go_wp2
    go_ret2
    exact ⟨ret_ib (by omega) rfl, rfl⟩
  · split at h
    · rename_i hb
      injection h with h; subst h
      obtain ⟨b1, b2⟩ := hb
      have b3 : (97 : Int) ≤ (c.toNat : Int) := by omega
      have b4 : (c.toNat : Int) ≤ 102 := by omega
      have b5 : ¬ (c.toNat : Int) ≤ 57 := by omega
      have b6 : (48 : Int) ≤ (c.toNat : Int) := by omega
      go_enter Try.func31, Try.ntmps31
      go_wp2
      go_ret2
      exact ⟨ret_ib (by omega) rfl, rfl⟩
    · cases h
theorem digit_none (c : UInt8) (w : World) (h : Wm.worth c = none) :
    Calls Try.prog 31 #[.int .u8 (c.toNat : Int)] w fun e w' => e = .returned (.tuple #[.int .u64 0, .bool false]) ∧ w = w' := by
  unfold Wm.worth at h
  split at h
  · cases h
  · rename_i g1
    split at h
    · cases h
    · rename_i g2
      clear h
      by_cases a : (48 : Int) ≤ (c.toNat : Int)
      · have a' : ¬ (c.toNat : Int) ≤ 57 := by omega
        by_cases b : (97 : Int) ≤ (c.toNat : Int)
        · have b' : ¬ (c.toNat : Int) ≤ 102 := by omega
          clear g1 g2
          go_enter Try.func31, Try.ntmps31
          go_wp2
          go_ret2
          exact ⟨rfl, rfl⟩
        · clear g1 g2
          go_enter Try.func31, Try.ntmps31
          go_wp2
          go_ret2
          exact ⟨rfl, rfl⟩
      · have b : ¬ (97 : Int) ≤ (c.toNat : Int) := by omega
        clear g1 g2
        go_enter Try.func31, Try.ntmps31
        go_wp2
        go_ret2
        exact ⟨rfl, rfl⟩
end Go.Proofs.Ythoenmnbnigkaaa.WRefRoom
