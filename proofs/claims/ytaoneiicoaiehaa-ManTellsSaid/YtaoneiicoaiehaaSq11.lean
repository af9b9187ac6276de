/- slices.Sort of a row of 64-bit numbers: the partial insertion sort. -/
import Derived.Test.YtaoneiicoaiehaaSx11
import Derived.Deep.CutRange
namespace Go.Proofs.Ytaoneiicoaiehaa.Sq11
open Go Go.RowKit Go.Lib Go.Sort Go.Proofs.Ytaoneiicoaiehaa.Dh Go.Proofs.Ytaoneiicoaiehaa.Sx11
theorem scan_go {y i : Nat} {d : Array Int} (h : i < y) (hl : ltInt d[i]! d[i - 1]! = false) : scanSorted ltInt d y i = scanSorted ltInt d y (i + 1) := by
  rw [scanSorted.eq_1 ltInt d y i, if_pos (by rw [hl]; simpa using h)]
theorem scan_stop {y i : Nat} {d : Array Int} (h : ¬ i < y ∨ ltInt d[i]! d[i - 1]! = true) : scanSorted ltInt d y i = i := by
  rw [scanSorted.eq_1 ltInt d y i, if_neg]
  rcases h with h | h
  · simp only [Bool.and_eq_true, decide_eq_true_eq]; omega
  · rw [h]; simp
theorem down_stop {j : Nat} {d : Array Int} (h : j = 0 ∨ ltInt d[j]! d[j - 1]! = false) : shiftDown ltInt j d = d := by
  cases j with
  | zero => rfl
  | succ j =>
    rcases h with h | h
    · omega
    · rw [shiftDown, if_pos (by simp only [Nat.add_sub_cancel] at h; rw [h]; rfl)]
theorem down_go {j : Nat} {d : Array Int} (h0 : 0 < j) (h : ltInt d[j]! d[j - 1]! = true) : shiftDown ltInt j d = shiftDown ltInt (j - 1) (swp d j (j - 1)) := by
  cases j with
  | zero => omega
  | succ j => rw [shiftDown, if_neg (by simp only [Nat.add_sub_cancel] at h; rw [h]; simp)]; rfl
theorem up_stop {y j : Nat} {d : Array Int} (h : ¬ j < y ∨ ltInt d[j]! d[j - 1]! = false) : shiftUp ltInt y j d = d := by
  rw [shiftUp.eq_1 ltInt y j d]
  by_cases hj : j < y
  · rcases h with h | h
    · exact absurd hj h
    · rw [if_pos hj, if_pos (by rw [h]; rfl)]
  · rw [if_neg hj]
theorem up_go {y j : Nat} {d : Array Int} (hj : j < y) (h : ltInt d[j]! d[j - 1]! = true) : shiftUp ltInt y j d = shiftUp ltInt y (j + 1) (swp d j (j - 1)) := by
  rw [shiftUp.eq_1 ltInt y j d, if_pos hj, if_neg (by rw [h]; simp)]
theorem ins_done {x y s i : Nat} {d : Array Int} (h : scanSorted ltInt d y i = y) : partialIns ltInt x y (s + 1) i d = (d, true) := by
  rw [partialIns_succ, if_pos h]
theorem ins_short {x y s i : Nat} {d : Array Int} (h : scanSorted ltInt d y i ≠ y) (h5 : y - x < 50) : partialIns ltInt x y (s + 1) i d = (d, false) := by
  rw [partialIns_succ, if_neg h, if_pos h5]
theorem ins_go {x y s i i1 : Nat} {d : Array Int} (hi : scanSorted ltInt d y i = i1) (h : i1 ≠ y) (h5 : ¬ y - x < 50) :
    partialIns ltInt x y (s + 1) i d = partialIns ltInt x y s i1 (fixUp ltInt y i1 (fixDown ltInt x i1 (swp d i1 (i1 - 1)))) := by
  subst hi
  rw [partialIns_succ, if_neg h, if_neg h5]
theorem shiftDown_size : ∀ (j : Nat) (d : Array Int), (shiftDown ltInt j d).size = d.size
  | 0, _ => rfl
  | j + 1, d => by
    rw [shiftDown]
    split
    · rfl
    · rw [shiftDown_size j, size_swp]
theorem shiftUp_size (y : Nat) : ∀ (n j : Nat) (d : Array Int), y - j ≤ n → (shiftUp ltInt y j d).size = d.size
  | n, j, d, hn => by
    rw [shiftUp.eq_1 ltInt y j d]
    split
    · split
      · rfl
      · cases n with
        | zero => omega
        | succ n => rw [shiftUp_size y n _ _ (by omega), size_swp]
    · rfl
set_option maxHeartbeats 32000000 in
set_option maxRecDepth 100000 in
theorem pins_any {w0 w : World} {b off : Nat} {d : Array Int} (cap x y : Nat) (h : Srt w0 w b off d) (hxy : x < y) (hy : y ≤ d.size) (hsz : d.size < 2305843009213693952) :
    Calls Try.prog 72 #[.slice (some ⟨b, off, none⟩) d.size cap, .int .i64 x, .int .i64 y] w fun e w' =>
      e = .returned (.bool (partialInsertionSort ltInt d x y).2) ∧ Srt w0 w' b off (partialInsertionSort ltInt d x y).1 := by
  have HS := Lib.hid h
  clear h
  obtain ⟨R, hR⟩ : ∃ R, R = partialInsertionSort ltInt d x y := ⟨_, rfl⟩
  rw [← hR]
  have HR := Lib.hid hR.symm
  clear hR
  go_enter Try.func72, Try.ntmps72
  go_wp2
  go_loopg [7, 8] 5 (fun g1 vi vk wr => ∃ (s i : Nat) (dk : Array Int), vk = .int .i64 (5 - (s : Int)) ∧ vi = .int .i64 (i : Int) ∧ s ≤ 5 ∧ s ≤ g1 ∧ (x < i ∧ i ≤ y) ∧ dk.size = d.size ∧ Hid (Srt w0 wr b off dk) ∧ Hid (partialIns ltInt x y s i dk = R))
  case atStart => exact ⟨5, x + 1, d, rfl, by go_num, Nat.le_refl _, Nat.le_refl _, by omega, rfl, HS, HR⟩
  case round =>
    clear HS HR
    obtain ⟨s, i, dk, rfl, rfl, hs5, hsg, hiy, hsk, HK, HP⟩ := hrel
    by_cases hs0 : 0 < s
    · obtain ⟨s, rfl⟩ : ∃ q, s = q + 1 := ⟨s - 1, by omega⟩
      have hsz5 : (5 : Int) - ((s + 1 : Nat) : Int) < 5 := by omega
      go_wp2
      go_loopg [7] y (fun g2 vi wr2 => ∃ i1 : Nat, vi = .int .i64 (i1 : Int) ∧ i ≤ i1 ∧ i1 ≤ y ∧ y - i1 ≤ g2 ∧ Hid (Srt w0 wr2 b off dk) ∧ Hid (scanSorted ltInt dk y i1 = scanSorted ltInt dk y i))
      case atStart => exact ⟨i, rfl, Nat.le_refl _, by omega, by omega, HK, Lib.hid rfl⟩
      case round =>
        clear HK
        obtain ⟨i1, rfl, hi1, hi2, hg2, HK, HU⟩ := hrel
        by_cases hlt : i1 < y
        · have hltz : (i1 : Int) < (y : Int) := by omega
          obtain ⟨G, hG, hcw, hfw⟩ := HK.out.fam
          rw [hsk] at hcw hfw
          have HG := Lib.hid hG
          clear hG
          cases hl : ltInt (G i1) (G (i1 - 1)) with
          | false =>
            go_wp2
            go_quiet (first | (go_at_call 73; refine Calls.quiet_of_same (less_any _ _ _)))
            go_wp2
            go_roundg (y - (i1 + 1))
            case measure => omega
            case rel => exact ⟨i1 + 1, by go_num, by omega, by omega, Nat.le_refl _, Lib.hid (HK.out.drewN _), Lib.hid (by rw [← HU.out]; exact (scan_go hlt (by rw [← HG.out, ← HG.out]; exact hl)).symm)⟩
          | true =>
            have HI := Lib.hid (HU.out.symm.trans (scan_stop (d := dk) (y := y) (i := i1) (.inr (by rw [← HG.out, ← HG.out]; exact hl))))
            have hney : ¬ (i1 : Int) = (y : Int) := by omega
            go_wp2
            go_quiet (first | (go_at_call 73; refine Calls.quiet_of_same (less_any _ _ _)))
            have HK2 := Lib.hid (HK.out.drewN nq)
            clear HK hcw hfw HG HU hl
            generalize wr.drewN nq = wa at HK2 ⊢
            clear nq
            by_cases h50 : y - x < 50
            · have h50z : (y : Int) - (x : Int) < 50 := by omega
              have HE := Lib.hid (show R = (dk, false) from by rw [← HP.out]; exact ins_short (by rw [HI.out]; omega) h50)
              go_wp2
              go_ret
              exact ⟨by rw [HE.out]; rfl, by rw [HE.out]; exact HK2.out⟩
            · have h50z : ¬ (y : Int) - (x : Int) < 50 := by omega
              have HN := Lib.hid ((ins_go (x := x) (s := s) HI.out (by omega) h50).symm.trans HP.out)
              obtain ⟨G, hG, hcw, hfw⟩ := HK2.out.fam
              rw [hsk] at hcw hfw
              have hsw := HK2.out.swapd i1 (i1 - 1) (by omega) (by omega)
              rw [← hG, ← hG] at hsw
              have HS2 := Lib.hid hsw
              obtain ⟨d2, hd2⟩ : ∃ d2, d2 = swp dk i1 (i1 - 1) := ⟨_, rfl⟩
              have hs2 : d2.size = d.size := by rw [hd2, size_swp]; exact hsk
              rw [← hd2] at HS2 HN
              clear hsw hG hd2
              go_wp2_with fail
              go_region
              clear HK2 HI HP hcw hfw
              generalize ((wa.setCell ⟨b, off + i1, none⟩ (.int .u64 (G (i1 - 1)))).setCell ⟨b, off + (i1 - 1), none⟩ (.int .u64 (G i1))).drew = ws at HS2 ⊢
              go_upto_if 61 with fail
              go_cut [] from 58 to 94 (fun wc => Hid (Srt w0 wc b off (fixDown ltInt x i1 d2)))
              case first =>
                by_cases h2 : i1 - x ≥ 2
                · have h2z : (i1 : Int) - (x : Int) ≥ 2 := by omega
                  have HF := Lib.hid (show fixDown ltInt x i1 d2 = shiftDown ltInt (i1 - 1) d2 from by unfold fixDown; rw [if_pos h2])
                  go_wp2_with fail
                  go_loopg [9] i1 (fun g2 vj wr2 => ∃ (j : Nat) (dk : Array Int), vj = .int .i64 (j : Int) ∧ j < i1 ∧ j ≤ g2 ∧ dk.size = d.size ∧ Hid (Srt w0 wr2 b off dk) ∧ Hid (shiftDown ltInt j dk = fixDown ltInt x i1 d2))
                  case atStart => exact ⟨i1 - 1, d2, by first | rfl | go_num | (congr 1; omega), by omega, by omega, hs2, HS2, Lib.hid HF.out.symm⟩
                  case round =>
                    clear HF
                    obtain ⟨j, dk, rfl, hj1, hjg, hsk, HK, HO⟩ := hrel
                    by_cases hj0 : 1 ≤ j
                    · have hj0z : (j : Int) ≥ 1 := by omega
                      obtain ⟨G, hG, hcw, hfw⟩ := HK.out.fam
                      rw [hsk] at hcw hfw
                      have HG := Lib.hid hG
                      clear hG
                      cases hl : ltInt (G j) (G (j - 1)) with
                      | true =>
                        go_wp2
                        go_quiet (first | (go_at_call 73; refine Calls.quiet_of_same (less_any _ _ _)))
                        go_wp2
                        go_region
                        all_goals go_wp2
                        go_roundg (j - 1)
                        case measure => omega
                        case rel =>
                          refine ⟨j - 1, swp dk j (j - 1), by first | rfl | go_num | (congr 1; omega), by omega, Nat.le_refl _, by rw [size_swp]; exact hsk, ?_, Lib.hid (by rw [← HO.out]; exact (down_go hj0 (by rw [← HG.out, ← HG.out]; exact hl)).symm)⟩
                          rw [HG.out, HG.out]
                          exact Lib.hid ((HK.out.drewN _).swap j (j - 1) (by omega) (by omega))
                      | false =>
                        go_wp2
                        go_quiet (first | (go_at_call 73; refine Calls.quiet_of_same (less_any _ _ _)))
                        go_wp2
                        go_meet
                        case rel => exact Lib.hid (by rw [← HO.out, down_stop (.inr (by rw [← HG.out, ← HG.out]; exact hl))]; exact HK.out.drewN _)
                    · have hj0z : ¬ (j : Int) ≥ 1 := by omega
                      go_wp2
                      go_meet
                      case rel => exact Lib.hid (by rw [← HO.out, down_stop (.inl (by omega))]; exact HK.out)
                · have h2z : ¬ (i1 : Int) - (x : Int) ≥ 2 := by omega
                  go_wp2_with fail
                  go_meet
                  case rel => exact Lib.hid (by unfold fixDown; rw [if_neg h2]; exact HS2.out)
              case rest =>
                obtain ⟨d3, hd3⟩ : ∃ d3, d3 = fixDown ltInt x i1 d2 := ⟨_, rfl⟩
                have hs3 : d3.size = d.size := by rw [hd3]; unfold fixDown; split <;> first | exact hs2 | (rw [shiftDown_size]; exact hs2)
                rw [← hd3] at hcut HN
                have HS3 := hcut
                clear hcut hd3 HS2
                go_upto_if 98 with fail
                have hs4 : (fixUp ltInt y i1 d3).size = d.size := by unfold fixUp; split <;> first | exact hs3 | (rw [shiftUp_size _ _ _ _ (Nat.le_refl _)]; exact hs3)
                by_cases h2 : y - i1 ≥ 2
                · have h2z : (y : Int) - (i1 : Int) ≥ 2 := by omega
                  have HF := Lib.hid (show fixUp ltInt y i1 d3 = shiftUp ltInt y (i1 + 1) d3 from by unfold fixUp; rw [if_pos h2])
                  go_wp2_with fail
                  go_loopg [10] y (fun g2 vj wr2 => ∃ (j : Nat) (dk : Array Int), vj = .int .i64 (j : Int) ∧ i1 < j ∧ j ≤ y ∧ y - j ≤ g2 ∧ dk.size = d.size ∧ Hid (Srt w0 wr2 b off dk) ∧ Hid (shiftUp ltInt y j dk = fixUp ltInt y i1 d3))
                  case atStart => exact ⟨i1 + 1, d3, by first | rfl | go_num | (congr 1; omega), by omega, by omega, by omega, hs3, HS3, Lib.hid HF.out.symm⟩
                  case round =>
                    clear HF
                    obtain ⟨j, dk, rfl, hj1, hj2, hjg, hsk, HK, HO⟩ := hrel
                    by_cases hj0 : j < y
                    · have hj0z : (j : Int) < (y : Int) := by omega
                      obtain ⟨G, hG, hcw, hfw⟩ := HK.out.fam
                      rw [hsk] at hcw hfw
                      have HG := Lib.hid hG
                      clear hG
                      cases hl : ltInt (G j) (G (j - 1)) with
                      | true =>
                        go_wp2
                        go_quiet (first | (go_at_call 73; refine Calls.quiet_of_same (less_any _ _ _)))
                        go_wp2
                        go_region
                        all_goals go_wp2
                        go_roundg (y - (j + 1))
                        case measure => omega
                        case rel =>
                          refine ⟨j + 1, swp dk j (j - 1), by first | rfl | go_num | (congr 1; omega), by omega, by omega, Nat.le_refl _, by rw [size_swp]; exact hsk, ?_, Lib.hid (by rw [← HO.out]; exact (up_go hj0 (by rw [← HG.out, ← HG.out]; exact hl)).symm)⟩
                          rw [HG.out, HG.out]
                          exact Lib.hid ((HK.out.drewN _).swap j (j - 1) (by omega) (by omega))
                      | false =>
                        go_wp2
                        go_quiet (first | (go_at_call 73; refine Calls.quiet_of_same (less_any _ _ _)))
                        go_wp2
                        go_roundg s
                        case measure => omega
                        case rel => exact ⟨s, i1, _, by first | rfl | go_num | (congr 1; omega), rfl, by omega, by omega, by omega, hs4, Lib.hid (by rw [← HO.out, up_stop (.inr (by rw [← HG.out, ← HG.out]; exact hl))]; exact HK.out.drewN _), HN⟩
                    · have hj0z : ¬ (j : Int) < (y : Int) := by omega
                      go_wp2
                      go_roundg s
                      case measure => omega
                      case rel => exact ⟨s, i1, _, by first | rfl | go_num | (congr 1; omega), rfl, by omega, by omega, by omega, hs4, Lib.hid (by rw [← HO.out, up_stop (.inl hj0)]; exact HK.out), HN⟩
                · have h2z : ¬ (y : Int) - (i1 : Int) ≥ 2 := by omega
                  go_wp2
                  go_roundg s
                  case measure => omega
                  case rel => exact ⟨s, i1, _, by first | rfl | go_num | (congr 1; omega), rfl, by omega, by omega, by omega, hs4, Lib.hid (by unfold fixUp; rw [if_neg h2]; exact HS3.out), HN⟩
        · have hltz : decide ((i1 : Int) < (y : Int)) = false := decide_eq_false (by omega)
          obtain rfl : i1 = y := by omega
          have HI := Lib.hid (HU.out.symm.trans (scan_stop (d := dk) (y := i1) (i := i1) (.inl hlt)))
          have HE := Lib.hid (show R = (dk, true) from by rw [← HP.out]; exact ins_done HI.out)
          go_wp2
          go_quiet (first | (go_at_call 73; refine Calls.quiet_of_same (less_any _ _ _)))
          go_wp2
          go_ret
          exact ⟨by rw [HE.out]; rfl, by rw [HE.out]; exact HK.out.drewN _⟩
    · obtain rfl : s = 0 := by omega
      go_wp2
      go_ret
      exact ⟨by rw [← HP.out]; rfl, by rw [← HP.out]; exact HK.out⟩
end Go.Proofs.Ytaoneiicoaiehaa.Sq11
