/- slices.Sort of a row of 64-bit numbers: the insertion sort. -/
import Derived.Test.YtaoneiicoaiehaaSx11
namespace Go.Proofs.Ytaoneiicoaiehaa.Si11
open Go Go.RowKit Go.Lib Go.Sort Go.Proofs.Ytaoneiicoaiehaa.Dh Go.Proofs.Ytaoneiicoaiehaa.Sx11
theorem inner_go (a j : Nat) (d : Array Int) (hj : a < j) (hl : ltInt d[j]! d[j - 1]! = true) : insInner ltInt a j d = insInner ltInt a (j - 1) (swp d j (j - 1)) := by
  cases j with
  | zero => omega
  | succ k =>
    rw [insInner, if_pos (by simp only [Nat.add_sub_cancel] at hl; rw [hl]; simpa using hj)]
    rfl
theorem inner_stop (a j : Nat) (d : Array Int) (h : j ≤ a ∨ ltInt d[j]! d[j - 1]! = false) : insInner ltInt a j d = d := by
  cases j with
  | zero => rfl
  | succ k =>
    rw [insInner, if_neg]
    simp only [Nat.add_sub_cancel] at h
    rcases h with h | h
    · simp only [Bool.and_eq_true, decide_eq_true_eq]; omega
    · rw [h]; simp
set_option maxHeartbeats 8000000 in
set_option maxRecDepth 100000 in
theorem ins_any {w0 w : World} {b off : Nat} {d : Array Int} (cap x y : Nat) (h : Srt w0 w b off d) (hxy : x ≤ y) (hy : y ≤ d.size) (hsz : d.size < 4611686018427387904) :
    Calls Try.prog 67 #[.slice (some ⟨b, off, none⟩) d.size cap, .int .i64 x, .int .i64 y] w fun e w' => e = .returned (.tuple #[]) ∧ Srt w0 w' b off (insertionSort ltInt d x y) := by
  have HS := Lib.hid h
  clear h
  go_enter Try.func67, Try.ntmps67
  go_wp2
  go_loopg [6] (y - x) (fun g1 vi wr => ∃ (i : Nat) (dk : Array Int), vi = .int .i64 i ∧ x < i ∧ i ≤ y + 1 ∧ y + 1 - i ≤ g1 + 1 ∧ dk.size = d.size ∧ Hid (Srt w0 wr b off dk) ∧ Hid (insOuter ltInt x y i dk = insOuter ltInt x y (x + 1) d))
  case atStart => exact ⟨x + 1, d, by go_num, by omega, by omega, by omega, rfl, HS, Lib.hid rfl⟩
  case round =>
    clear HS
    obtain ⟨i, dk, rfl, hxi, hiy, hg1, hsk, HK, HO⟩ := hrel
    by_cases hlt : i < y
    · go_wp2
      go_loopg [7] i (fun g2 vj wr2 => ∃ (j : Nat) (dj : Array Int), vj = .int .i64 j ∧ x ≤ j ∧ j ≤ i ∧ j ≤ g2 ∧ dj.size = d.size ∧ Hid (Srt w0 wr2 b off dj) ∧ Hid (insInner ltInt x j dj = insInner ltInt x i dk))
      case atStart => exact ⟨i, dk, rfl, by omega, Nat.le_refl _, Nat.le_refl _, hsk, HK, Lib.hid rfl⟩
      case round =>
        clear HK
        obtain ⟨j, dj, rfl, hxj, hji, hg2, hsj, HJ, HI⟩ := hrel
        have OUT : Hid ((j ≤ x ∨ ltInt dj[j]! dj[j - 1]! = false) → insOuter ltInt x y (i + 1) dj = insOuter ltInt x y (x + 1) d) := Lib.hid fun hs => by
          rw [← HO.out, insOuter.eq_1 ltInt x y i dk, if_pos hlt, ← HI.out, inner_stop _ _ _ hs]
        by_cases hja : x < j
        · have hgt : (j : Int) > (x : Int) := by omega
          obtain ⟨G, hG, hcw, hfw⟩ := HJ.out.fam
          rw [hsj] at hcw hfw
          cases hl : ltInt (G j) (G (j - 1)) with
          | true =>
            have HG := Lib.hid hG
            clear hG
            go_wp2
            go_quiet (first | (go_at_call 73; refine Calls.quiet_of_same (less_any _ _ _)))
            go_wp2
            go_region
            all_goals go_wp2
            go_roundg (j - 1)
            case measure => omega
            case rel =>
              refine ⟨j - 1, swp dj j (j - 1), by first | rfl | go_num | (congr 1; omega), by omega, by omega, Nat.le_refl _, by rw [size_swp]; exact hsj, ?_, ?_⟩
              · rw [HG.out, HG.out]
                exact Lib.hid ((HJ.out.drewN _).swap j (j - 1) (by omega) (by omega))
              · rw [HG.out, HG.out] at hl
                exact Lib.hid (by rw [← HI.out, inner_go x j dj hja hl])
          | false =>
            have HG := Lib.hid hG
            clear hG
            go_wp2
            go_quiet (first | (go_at_call 73; refine Calls.quiet_of_same (less_any _ _ _)))
            go_wp2
            go_roundg (y - (i + 1))
            case measure => omega
            case rel => exact ⟨i + 1, dj, by go_num, by omega, by omega, by omega, hsj, Lib.hid (HJ.out.drewN _), Lib.hid (OUT.out (Or.inr (by rw [← HG.out, ← HG.out]; exact hl)))⟩
        · have hgt : ¬ (j : Int) > (x : Int) := by omega
          go_wp2
          go_quiet (first | (go_at_call 73; refine Calls.quiet_of_same (less_any _ _ _)))
          go_wp2
          go_roundg (y - (i + 1))
          case measure => omega
          case rel => exact ⟨i + 1, dj, by go_num, by omega, by omega, by omega, hsj, Lib.hid (HJ.out.drewN _), Lib.hid (OUT.out (Or.inl (by omega)))⟩
    · go_wp2
      go_end0
      refine ⟨rfl, ?_⟩
      have e : dk = insertionSort ltInt d x y := by
        unfold insertionSort
        rw [← HO.out, insOuter.eq_1 ltInt x y i dk, if_neg hlt]
      rw [← e]; exact HK.out
end Go.Proofs.Ytaoneiicoaiehaa.Si11
