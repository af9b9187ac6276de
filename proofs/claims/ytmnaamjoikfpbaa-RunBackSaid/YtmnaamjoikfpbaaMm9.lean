/- The contracts of package mem but for Scan. -/
import Derived.Test.YtmnaamjoikfpbaaMt9
namespace Go.Proofs.Ytmnaamjoikfpbaa.Mm9
open Go Go.RowKit Go.Proofs.Ytmnaamjoikfpbaa.Pm9 Go.Proofs.Ytmnaamjoikfpbaa.Wd9 Go.Proofs.Ytmnaamjoikfpbaa.Mt9
/-- OK, or ErrArg. -/
def erg (b : Bool) : Int := if b then 0 else 2
theorem empty_of {s : ByteArray} (h : s.size = 0) : s.toList.isEmpty = true := by
  rw [ByteArray.toList_eq]
  obtain ⟨⟨l⟩⟩ := s
  cases l with
  | nil => rfl
  | cons a l => simp [ByteArray.size] at h
theorem not_empty_of {s : ByteArray} (h : ¬ s.size = 0) : s.toList.isEmpty = false := by
  rw [ByteArray.toList_eq]
  obtain ⟨⟨l⟩⟩ := s
  cases l with
  | nil => simp [ByteArray.size] at h
  | cons a l => rfl
set_option maxRecDepth 20000 in
set_option maxHeartbeats 2000000 in
theorem check_any (w : World) (x : Pr) (hk : x.k.size ≤ 140737488351232) (hv : x.v.size ≤ 140737488351232) :
    Calls Try.prog 44 #[.agg #[.string x.k, .string x.v, .bool x.g]] w fun e w' => e = .returned (.int .i64 (erg (may x))) ∧ Below w.heap.size w w' := by
  obtain ⟨k, v, g⟩ := x
  dsimp only at hk hv ⊢
  have hb := (Below.refl w.heap.size w).alloc (Nat.le_refl _) (.cells #[.string k, .string v, .bool g] 39)
  have HB := Lib.hid hb
  clear hb
  go_enter Try.func44, Try.ntmps44
  have zk : k.size = 0 ∨ ¬ k.size = 0 := by omega
  rcases zk with zk | zk
  · have e1 := empty_of zk
    have hm : may ⟨k, v, g⟩ = false := by unfold may; dsimp only; rw [decide_eq_false (by omega)]; rfl
    rw [hm]
    have h1 : ¬ ((k.size : Int) > 512) := by omega
    by_cases h2 : (v.size : Int) > 262144
    all_goals
      go_wp2
      go_ret
      exact ⟨rfl, HB.out⟩
  · have e1 := not_empty_of zk
    by_cases h1 : (k.size : Int) > 512
    · have hm : may ⟨k, v, g⟩ = false := by unfold may; dsimp only; rw [decide_eq_false (p := k.size ≤ 512) (by omega), Bool.false_and, Bool.and_false]
      rw [hm]
      go_wp2
      go_ret
      exact ⟨rfl, HB.out⟩
    · by_cases h2 : (v.size : Int) > 262144
      · have hm : may ⟨k, v, g⟩ = false := by unfold may; dsimp only; rw [decide_eq_false (p := v.size ≤ 262144) (by omega), Bool.false_and, Bool.and_false, Bool.and_false]
        rw [hm]
        go_wp2
        go_ret
        exact ⟨rfl, HB.out⟩
      · have hm : may ⟨k, v, g⟩ = (!g || decide (v.size = 0)) := by unfold may; dsimp only; rw [decide_eq_true (p := 1 ≤ k.size) (by omega), decide_eq_true (p := k.size ≤ 512) (by omega), decide_eq_true (p := v.size ≤ 262144) (by omega)]; rfl
        rw [hm]
        clear hm
        cases g
        · go_wp2
          go_ret
          exact ⟨rfl, HB.out⟩
        · by_cases zv : v.size = 0
          · have e2 := empty_of zv
            have hd : decide (v.size = 0) = true := decide_eq_true zv
            rw [hd]
            clear hd
            go_wp2
            go_ret
            exact ⟨rfl, HB.out⟩
          · have e2 := not_empty_of zv
            have hd : decide (v.size = 0) = false := decide_eq_false zv
            rw [hd]
            clear hd
            go_wp2
            go_ret
            exact ⟨rfl, HB.out⟩
end Go.Proofs.Ytmnaamjoikfpbaa.Mm9

