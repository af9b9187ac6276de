/- The contract of word.Get: what it answers, for every text; it leaves the world alone. -/
import Derived.Test.YtbjemekkpmbhhaaProg
import Derived.Test.YtbjemekkpmbhhaaWm
import Derived.WalkKit
import Derived.Lib.Hide
namespace Go.Proofs.Ytbjemekkpmbhhaa.WGet
open Go Go.RowKit Go.Proofs.Ytbjemekkpmbhhaa.Wm
theorem bad (s : ByteArray) (w : World) (h : s.size < 1 ∨ 8 < s.size) (hs : s.size ≤ maxLen) :
    Calls Try.prog 70 #[.string s] w fun e w' => e = .returned (.tuple #[.int .u64 0, .int .i64 2]) ∧ w = w' := by
  unfold maxLen at hs
  by_cases h1 : s.size < 1
  · go_enter Try.func70, Try.ntmps70
    go_wp2
    go_ret2
    exact ⟨rfl, rfl⟩
  · have h2 : 8 < s.size := by omega
    go_enter Try.func70, Try.ntmps70
    go_wp2
    go_ret2
    exact ⟨rfl, rfl⟩
theorem ok (s : ByteArray) (w : World) (h : 1 ≤ s.size) (h' : s.size ≤ 8) :
    Calls Try.prog 70 #[.string s] w fun e w' => e = .returned (.tuple #[.int .u64 (getL s.data.toList), .int .i64 0]) ∧ w = w' := by
  have h1 : ¬ s.size < 1 := by omega
  have h2 : ¬ 8 < s.size := by omega
  go_enter Try.func70, Try.ntmps70
  go_wp2
  go_loop [4, 5, 16] (fun v _ j => ∃ k : Nat, k ≤ s.size ∧ j = .int .i64 k ∧ v = .int .u64 (getL (s.data.toList.take k))) (fun _ _ j => s.size - (intOf j).toNat)
  case atStart => exact ⟨0, by omega, rfl, rfl⟩
  case round =>
    obtain ⟨k, hk, rfl, rfl⟩ := hrel
    by_cases hlt : k < s.size
    · go_wp2
      go_round
      case rel =>
        refine ⟨k + 1, by omega, by go_num, ?_⟩
        rw [get_step _ _ k (by simp; omega) (by omega), List.take_succ_eq_append_getElem (by simpa using hlt)]; rfl
      case measure => simp [intOf]; omega
    · go_wp2
      go_ret2
      have hk' : k = s.size := by omega
      subst hk'
      exact ⟨ret_ii (by rw [List.take_of_length_le (by simp)]) rfl, rfl⟩
/-- What Get answers: the number and the error. -/
def getS (l : List UInt8) : Int × Int := if l.length < 1 ∨ 8 < l.length then (0, 2) else (getL l, 0)
theorem any (s : ByteArray) (w : World) (hs : s.size ≤ maxLen) :
    Calls Try.prog 70 #[.string s] w fun e w' => e = .returned (.tuple #[.int .u64 (getS s.data.toList).1, .int .i64 (getS s.data.toList).2]) ∧ w = w' := by
  have hsz : s.data.toList.length = s.size := by simp
  unfold getS
  rw [hsz]
  by_cases h : s.size < 1 ∨ 8 < s.size
  · rw [if_pos h]
    exact bad s w h hs
  · rw [if_neg h]
    exact ok s w (by omega) (by omega)
end Go.Proofs.Ytbjemekkpmbhhaa.WGet
