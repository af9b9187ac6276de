/- slices.Sort of a row of 64-bit numbers: the parting by a pivot. -/
import Derived.Test.YtaoneiicoaiehaaSx11
namespace Go.Proofs.Ytaoneiicoaiehaa.Sk11
open Go Go.RowKit Go.Lib Go.Sort Go.Proofs.Ytaoneiicoaiehaa.Dh Go.Proofs.Ytaoneiicoaiehaa.Sx11
theorem up_go {p : Int → Bool} {d : Array Int} {j i : Nat} (h : i ≤ j) (hp : p d[i]! = true) : scanUp p d j i = scanUp p d j (i + 1) := by
  rw [scanUp.eq_1 p d j i, if_pos (by rw [hp]; simpa using h)]
theorem up_stop {p : Int → Bool} {d : Array Int} {j i : Nat} (h : ¬ i ≤ j ∨ p d[i]! = false) : scanUp p d j i = i := by
  rw [scanUp.eq_1 p d j i, if_neg]
  rcases h with h | h
  · simp only [Bool.and_eq_true, decide_eq_true_eq]; omega
  · rw [h]; simp
theorem down_go {p : Int → Bool} {d : Array Int} {i j : Nat} (h : i ≤ j) (h0 : 0 < j) (hp : p d[j]! = true) : scanDown p d i j = scanDown p d i (j - 1) := by
  cases j with
  | zero => omega
  | succ j => rw [scanDown, if_pos (by rw [hp]; simpa using h)]; rfl
theorem down_stop {p : Int → Bool} {d : Array Int} {i j : Nat} (h : ¬ i ≤ j ∨ p d[j]! = false) : scanDown p d i j = j := by
  cases j with
  | zero => rfl
  | succ j =>
    rw [scanDown, if_neg]
    rcases h with h | h
    · simp only [Bool.and_eq_true, decide_eq_true_eq]; omega
    · rw [h]; simp
theorem pl_out {x i j i1 j1 : Nat} {dk : Array Int} (hI : i1 = scanUp (fun z => ltInt z dk[x]!) dk j i) (hJ : j1 = scanDown (fun z => !ltInt z dk[x]!) dk i1 j) (h : i1 > j1) : partLoop ltInt x i j dk = (j1, dk) := by
  rw [partLoop_eq, ← hI, ← hJ, if_pos h]
theorem pl_go {x i j i1 j1 : Nat} {dk : Array Int} (hI : i1 = scanUp (fun z => ltInt z dk[x]!) dk j i) (hJ : j1 = scanDown (fun z => !ltInt z dk[x]!) dk i1 j) (h : ¬ i1 > j1) : partLoop ltInt x i j dk = partLoop ltInt x (i1 + 1) (j1 - 1) (swp dk i1 j1) := by
  rw [partLoop_eq, ← hI, ← hJ, if_neg h]
theorem pe_out {x i j i1 j1 : Nat} {dk : Array Int} (hI : i1 = scanUp (fun z => !ltInt dk[x]! z) dk j i) (hJ : j1 = scanDown (fun z => ltInt dk[x]! z) dk i1 j) (h : i1 > j1) : partEqLoop ltInt x i j dk = (i1, dk) := by
  rw [partEqLoop_eq, ← hI, ← hJ, if_pos h]
theorem pe_go {x i j i1 j1 : Nat} {dk : Array Int} (hI : i1 = scanUp (fun z => !ltInt dk[x]! z) dk j i) (hJ : j1 = scanDown (fun z => ltInt dk[x]! z) dk i1 j) (h : ¬ i1 > j1) : partEqLoop ltInt x i j dk = partEqLoop ltInt x (i1 + 1) (j1 - 1) (swp dk i1 j1) := by
  rw [partEqLoop_eq, ← hI, ← hJ, if_neg h]
set_option maxHeartbeats 32000000 in
set_option maxRecDepth 100000 in
theorem part_any {w0 w : World} {b off : Nat} {d : Array Int} (cap x y m : Nat) (h : Srt w0 w b off d) (hxy : x < y) (hy : y ≤ d.size) (hm : x ≤ m) (hm2 : m < y) (hsz : d.size < 2305843009213693952) :
    Calls Try.prog 75 #[.slice (some ⟨b, off, none⟩) d.size cap, .int .i64 x, .int .i64 y, .int .i64 m] w fun e w' =>
      ∃ k : Bool, e = .returned (.tuple #[.int .i64 (partition ltInt d x y m).1, .bool k]) ∧ Srt w0 w' b off (partition ltInt d x y m).2.2 := by
  obtain ⟨d1, hd1⟩ : ∃ d1, d1 = swp d x m := ⟨_, rfl⟩
  have hs1 : d1.size = d.size := by rw [hd1, size_swp]
  obtain ⟨G, hG, hcw, hfw⟩ := h.fam
  obtain ⟨u, hu⟩ := h.again x m (by omega) (by omega) (.int .u64 (G m))
  have hsw := h.swapd x m (by omega) (by omega)
  rw [← hG, ← hG, ← hd1] at hsw
  have hp1 := partition_fst (lt := ltInt) d x y m
  have hp2 := partition_arr (lt := ltInt) d x y m
  rw [← hd1] at hp1 hp2
  rw [hp1, hp2]
  obtain ⟨R, hR⟩ : ∃ R, R = partLoop ltInt x (x + 1) (y - 1) d1 := ⟨_, rfl⟩
  rw [← hR]
  have HSW := Lib.hid hsw
  have HP := Lib.hid hR.symm
  clear hsw hp1 hp2 hd1 hG hR
  go_enter Try.func75, Try.ntmps75
  go_wp2_with fail
  go_region
  all_goals go_wp2_with fail
  have HK := HSW
  clear HSW hcw hfw hu u
  generalize ((w.setCell ⟨b, off + x, none⟩ (.int .u64 (G m))).setCell ⟨b, off + m, none⟩ (.int .u64 (G x))).drew = ws at HK ⊢
  clear h
  obtain ⟨i, hi⟩ : ∃ i, i = x + 1 := ⟨_, rfl⟩
  obtain ⟨j, hj⟩ : ∃ j, j = y - 1 := ⟨_, rfl⟩
  have ei : (x : Int) + 1 = (i : Int) := by omega
  have ej : (y : Int) - 1 = (j : Int) := by omega
  rw [ei, ej]
  rw [← hi, ← hj] at HP
  have hxi : x < i := by omega
  have hij : i ≤ j + 1 := by omega
  have hjy : j < y := by omega
  clear ei ej hi hj
  obtain ⟨dk, hdk⟩ : ∃ dk, dk = d1 := ⟨_, rfl⟩
  rw [← hdk] at HK HP hs1
  have hsk := hs1
  clear hdk hs1 d1
  go_loopg [10] (j + 1 - i) (fun g1 vi wr => ∃ i1 : Nat, vi = .int .i64 i1 ∧ i ≤ i1 ∧ i1 ≤ j + 1 ∧ j + 1 - i1 ≤ g1 ∧ Hid (Srt w0 wr b off dk) ∧ Hid (scanUp (fun z => ltInt z dk[x]!) dk j i1 = scanUp (fun z => ltInt z dk[x]!) dk j i))
  case atStart => exact ⟨i, by first | rfl | go_num | (congr 1; omega), Nat.le_refl _, hij, Nat.le_refl _, HK, Lib.hid rfl⟩
  case round =>
    clear HK
    obtain ⟨i1, rfl, hi1, hi2, hg1, HK, HU⟩ := hrel
    by_cases hle : i1 ≤ j
    · have hlez : (i1 : Int) ≤ (j : Int) := by omega
      obtain ⟨G, hG, hcw, hfw⟩ := HK.out.fam
      rw [hsk] at hcw hfw
      have HG := Lib.hid hG
      clear hG
      cases hl : ltInt (G i1) (G x) with
      | true =>
        go_wp2
        go_quiet (first | (go_at_call 73; refine Calls.quiet_of_same (less_any _ _ _)))
        go_wp2
        go_roundg (j + 1 - (i1 + 1))
        case measure => omega
        case rel => exact ⟨i1 + 1, by go_num, by omega, by omega, Nat.le_refl _, Lib.hid (HK.out.drewN _), Lib.hid (by rw [← HU.out]; exact (up_go (p := (fun z => ltInt z dk[x]!)) hle (by rw [← HG.out, ← HG.out]; exact hl)).symm)⟩
      | false =>
        have HI := Lib.hid ((up_stop (p := (fun z => ltInt z dk[x]!)) (d := dk) (j := j) (i := i1) (.inr (by rw [← HG.out, ← HG.out]; exact hl))).symm.trans HU.out)
        have HLU := Lib.hid (show ltInt dk[i1]! dk[x]! = false from by rw [← HG.out, ← HG.out]; exact hl)
        go_wp2
        go_quiet (first | (go_at_call 73; refine Calls.quiet_of_same (less_any _ _ _)))
        have HK2 := Lib.hid (HK.out.drewN nq)
        clear HK hcw hfw HG HU hl
        generalize wr.drewN nq = wa at HK2 ⊢
        clear nq
        have HK := HK2
        clear HK2
        go_wp2
        go_loopg [11] j (fun g2 vj wr2 => ∃ j1 : Nat, vj = .int .i64 j1 ∧ j1 ≤ j ∧ i1 ≤ j1 + 1 ∧ j1 ≤ g2 ∧ Hid (Srt w0 wr2 b off dk) ∧ Hid (scanDown (fun z => !ltInt z dk[x]!) dk i1 j1 = scanDown (fun z => !ltInt z dk[x]!) dk i1 j))
        case atStart => exact ⟨j, rfl, Nat.le_refl _, hi2, Nat.le_refl _, HK, Lib.hid rfl⟩
        case round =>
          clear HK
          obtain ⟨j1, rfl, hj1, hj2, hg2, HK, HD⟩ := hrel
          by_cases hle2 : i1 ≤ j1
          · have hlez2 : (i1 : Int) ≤ (j1 : Int) := by omega
            obtain ⟨G, hG, hcw, hfw⟩ := HK.out.fam
            rw [hsk] at hcw hfw
            have HG := Lib.hid hG
            clear hG
            cases hl : ltInt (G j1) (G x) with
            | false =>
              go_wp2
              go_quiet (first | (go_at_call 73; refine Calls.quiet_of_same (less_any _ _ _)))
              go_wp2
              go_roundg (j1 - 1)
              case measure => omega
              case rel => exact ⟨j1 - 1, by first | rfl | go_num | (congr 1; omega), by omega, by omega, Nat.le_refl _, Lib.hid (HK.out.drewN _), Lib.hid (by rw [← HD.out]; exact (down_go (p := (fun z => !ltInt z dk[x]!)) (d := dk) (i := i1) (j := j1) hle2 (by omega) (by rw [← HG.out, ← HG.out, hl]; rfl)).symm)⟩
            | true =>
              have HJ := Lib.hid ((down_stop (p := (fun z => !ltInt z dk[x]!)) (d := dk) (i := i1) (j := j1) (.inr (by rw [← HG.out, ← HG.out, hl]; rfl))).symm.trans HD.out)
              have HLD := Lib.hid (show ltInt dk[j1]! dk[x]! = true from by rw [← HG.out, ← HG.out]; exact hl)
              go_wp2
              go_quiet (first | (go_at_call 73; refine Calls.quiet_of_same (less_any _ _ _)))
              have HK3 := Lib.hid (HK.out.drewN nq)
              clear HK hcw hfw HG HD hl
              generalize wr.drewN nq = wb at HK3 ⊢
              clear nq
              have hne : i1 ≠ j1 := fun e => by have h1 := HLU.out; have h2 := HLD.out; rw [e] at h1; rw [h1] at h2; cases h2
              obtain ⟨G, hG, hcw, hfw⟩ := HK3.out.fam
              rw [hsk] at hcw hfw
              obtain ⟨u, hu⟩ := HK3.out.again i1 j1 (by omega) (by omega) (.int .u64 (G j1))
              have hsw := HK3.out.swapd i1 j1 (by omega) (by omega)
              rw [← hG, ← hG] at hsw
              have HSW := Lib.hid hsw
              clear hsw hG
              have hngz : ¬ (i1 : Int) > (j1 : Int) := by omega
              have HP2 := Lib.hid (show partLoop ltInt x (i1 + 1) (j1 - 1) (swp dk i1 j1) = R from by rw [← HP.out]; exact (pl_go HI.out HJ.out (by omega)).symm)
              go_wp2_with fail
              go_region
              all_goals go_wp2
              clear HK3 hcw hfw hu HI HJ HLU HLD HP
              go_loopg [10, 11] (j1 - 1 + 1 - (i1 + 1)) (fun g1 vi vj wr => ∃ (i j : Nat) (dk : Array Int), vi = .int .i64 i ∧ vj = .int .i64 j ∧ x < i ∧ i ≤ j + 1 ∧ j < y ∧ j + 1 - i ≤ g1 ∧ dk.size = d.size ∧ Hid (Srt w0 wr b off dk) ∧ Hid (partLoop ltInt x i j dk = R))
              case atStart => exact ⟨i1 + 1, j1 - 1, swp dk i1 j1, by go_num, by first | rfl | go_num | (congr 1; omega), by omega, by omega, by omega, Nat.le_refl _, by rw [size_swp]; exact hsk, HSW, HP2⟩
              case round =>
                clear HSW HP2 hsk
                clear hne hngz hle hle2 hlez hlez2 hi1 hi2 hj1 hj2 hxi hij hjy
                obtain ⟨i, j, dk, rfl, rfl, hxi, hij, hjy, hgo, hsk, HK, HP⟩ := hrel
                go_wp2
                go_loopg [10] (j + 1 - i) (fun g1 vi wr => ∃ i1 : Nat, vi = .int .i64 i1 ∧ i ≤ i1 ∧ i1 ≤ j + 1 ∧ j + 1 - i1 ≤ g1 ∧ Hid (Srt w0 wr b off dk) ∧ Hid (scanUp (fun z => ltInt z dk[x]!) dk j i1 = scanUp (fun z => ltInt z dk[x]!) dk j i))
                case atStart => exact ⟨i, by first | rfl | go_num | (congr 1; omega), Nat.le_refl _, hij, Nat.le_refl _, HK, Lib.hid rfl⟩
                case round =>
                  clear HK
                  obtain ⟨i1, rfl, hi1, hi2, hg1, HK, HU⟩ := hrel
                  by_cases hle : i1 ≤ j
                  · have hlez : (i1 : Int) ≤ (j : Int) := by omega
                    obtain ⟨G, hG, hcw, hfw⟩ := HK.out.fam
                    rw [hsk] at hcw hfw
                    have HG := Lib.hid hG
                    clear hG
                    cases hl : ltInt (G i1) (G x) with
                    | true =>
                      go_wp2
                      go_quiet (first | (go_at_call 73; refine Calls.quiet_of_same (less_any _ _ _)))
                      go_wp2
                      go_roundg (j + 1 - (i1 + 1))
                      case measure => omega
                      case rel => exact ⟨i1 + 1, by go_num, by omega, by omega, Nat.le_refl _, Lib.hid (HK.out.drewN _), Lib.hid (by rw [← HU.out]; exact (up_go (p := (fun z => ltInt z dk[x]!)) hle (by rw [← HG.out, ← HG.out]; exact hl)).symm)⟩
                    | false =>
                      have HI := Lib.hid ((up_stop (p := (fun z => ltInt z dk[x]!)) (d := dk) (j := j) (i := i1) (.inr (by rw [← HG.out, ← HG.out]; exact hl))).symm.trans HU.out)
                      have HLU := Lib.hid (show ltInt dk[i1]! dk[x]! = false from by rw [← HG.out, ← HG.out]; exact hl)
                      go_wp2
                      go_quiet (first | (go_at_call 73; refine Calls.quiet_of_same (less_any _ _ _)))
                      have HK2 := Lib.hid (HK.out.drewN nq)
                      clear HK hcw hfw HG HU hl
                      generalize wr.drewN nq = wa at HK2 ⊢
                      clear nq
                      have HK := HK2
                      clear HK2
                      go_wp2
                      go_loopg [11] j (fun g2 vj wr2 => ∃ j1 : Nat, vj = .int .i64 j1 ∧ j1 ≤ j ∧ i1 ≤ j1 + 1 ∧ j1 ≤ g2 ∧ Hid (Srt w0 wr2 b off dk) ∧ Hid (scanDown (fun z => !ltInt z dk[x]!) dk i1 j1 = scanDown (fun z => !ltInt z dk[x]!) dk i1 j))
                      case atStart => exact ⟨j, rfl, Nat.le_refl _, hi2, Nat.le_refl _, HK, Lib.hid rfl⟩
                      case round =>
                        clear HK
                        obtain ⟨j1, rfl, hj1, hj2, hg2, HK, HD⟩ := hrel
                        by_cases hle2 : i1 ≤ j1
                        · have hlez2 : (i1 : Int) ≤ (j1 : Int) := by omega
                          obtain ⟨G, hG, hcw, hfw⟩ := HK.out.fam
                          rw [hsk] at hcw hfw
                          have HG := Lib.hid hG
                          clear hG
                          cases hl : ltInt (G j1) (G x) with
                          | false =>
                            go_wp2
                            go_quiet (first | (go_at_call 73; refine Calls.quiet_of_same (less_any _ _ _)))
                            go_wp2
                            go_roundg (j1 - 1)
                            case measure => omega
                            case rel => exact ⟨j1 - 1, by first | rfl | go_num | (congr 1; omega), by omega, by omega, Nat.le_refl _, Lib.hid (HK.out.drewN _), Lib.hid (by rw [← HD.out]; exact (down_go (p := (fun z => !ltInt z dk[x]!)) (d := dk) (i := i1) (j := j1) hle2 (by omega) (by rw [← HG.out, ← HG.out, hl]; rfl)).symm)⟩
                          | true =>
                            have HJ := Lib.hid ((down_stop (p := (fun z => !ltInt z dk[x]!)) (d := dk) (i := i1) (j := j1) (.inr (by rw [← HG.out, ← HG.out, hl]; rfl))).symm.trans HD.out)
                            have HLD := Lib.hid (show ltInt dk[j1]! dk[x]! = true from by rw [← HG.out, ← HG.out]; exact hl)
                            go_wp2
                            go_quiet (first | (go_at_call 73; refine Calls.quiet_of_same (less_any _ _ _)))
                            have HK3 := Lib.hid (HK.out.drewN nq)
                            clear HK hcw hfw HG HD hl
                            generalize wr.drewN nq = wb at HK3 ⊢
                            clear nq
                            have hne : i1 ≠ j1 := fun e => by have h1 := HLU.out; have h2 := HLD.out; rw [e] at h1; rw [h1] at h2; cases h2
                            obtain ⟨G, hG, hcw, hfw⟩ := HK3.out.fam
                            rw [hsk] at hcw hfw
                            obtain ⟨u, hu⟩ := HK3.out.again i1 j1 (by omega) (by omega) (.int .u64 (G j1))
                            have hsw := HK3.out.swapd i1 j1 (by omega) (by omega)
                            rw [← hG, ← hG] at hsw
                            have HSW := Lib.hid hsw
                            clear hsw hG
                            have hngz : ¬ (i1 : Int) > (j1 : Int) := by omega
                            have HP2 := Lib.hid (show partLoop ltInt x (i1 + 1) (j1 - 1) (swp dk i1 j1) = R from by rw [← HP.out]; exact (pl_go HI.out HJ.out (by omega)).symm)
                            go_wp2_with fail
                            go_region
                            all_goals go_wp2
                            go_roundg (j1 - 1 + 1 - (i1 + 1))
                            case measure => omega
                            case rel => exact ⟨i1 + 1, j1 - 1, swp dk i1 j1, by go_num, by first | rfl | go_num | (congr 1; omega), by omega, by omega, by omega, by omega, by rw [size_swp]; exact hsk, HSW, HP2⟩
                        · have hlez2 : decide ((i1 : Int) ≤ (j1 : Int)) = false := decide_eq_false (by omega)
                          have hgtz : (i1 : Int) > (j1 : Int) := by omega
                          have HJ := Lib.hid ((down_stop (p := (fun z => !ltInt z dk[x]!)) (d := dk) (i := i1) (j := j1) (.inl hle2)).symm.trans HD.out)
                          go_wp2
                          go_quiet (first | (go_at_call 73; refine Calls.quiet_of_same (less_any _ _ _)))
                          have HK3 := Lib.hid (HK.out.drewN nq)
                          clear HK HD
                          generalize wr.drewN nq = wb at HK3 ⊢
                          clear nq
                          have HR := Lib.hid (show R = (j1, dk) from by rw [← HP.out]; exact pl_out HI.out HJ.out (by omega))
                          obtain ⟨G, hG, hcw, hfw⟩ := HK3.out.fam
                          rw [hsk] at hcw hfw
                          obtain ⟨u, hu⟩ := HK3.out.again j1 x (by omega) (by omega) (.int .u64 (G x))
                          have hsw := HK3.out.swapd j1 x (by omega) (by omega)
                          rw [← hG, ← hG] at hsw
                          have HSW := Lib.hid hsw
                          clear hsw hG
                          go_wp2_with fail
                          go_region
                          all_goals go_wp2_with fail
                          go_ret2
                          exact ⟨false, by rw [HR.out]; rfl, by rw [HR.out]; exact HSW.out⟩
                  · have hlez : decide ((i1 : Int) ≤ (j : Int)) = false := decide_eq_false (by omega)
                    have HI := Lib.hid ((up_stop (p := (fun z => ltInt z dk[x]!)) (d := dk) (j := j) (i := i1) (.inl hle)).symm.trans HU.out)
                    go_wp2
                    go_quiet (first | (go_at_call 73; refine Calls.quiet_of_same (less_any _ _ _)))
                    have HK2 := Lib.hid (HK.out.drewN nq)
                    clear HK HU
                    generalize wr.drewN nq = wa at HK2 ⊢
                    clear nq
                    have HK := HK2
                    clear HK2
                    go_wp2
                    go_loopg [11] 0 (fun g2 vj wr2 => vj = .int .i64 j ∧ Hid (Srt w0 wr2 b off dk))
                    case atStart => exact ⟨rfl, HK⟩
                    case round =>
                      clear HK
                      obtain ⟨rfl, HK⟩ := hrel
                      obtain ⟨j1, hj1⟩ : ∃ j1, j1 = j := ⟨_, rfl⟩
                      have hgtz : (i1 : Int) > (j : Int) := by omega
                      have HJ := Lib.hid (show j1 = scanDown (fun z => !ltInt z dk[x]!) dk i1 j from by rw [hj1]; exact (down_stop (p := (fun z => !ltInt z dk[x]!)) (.inl hle)).symm)
                      go_wp2
                      go_quiet (first | (go_at_call 73; refine Calls.quiet_of_same (less_any _ _ _)))
                      have HK3 := Lib.hid (HK.out.drewN nq)
                      clear HK
                      generalize wr.drewN nq = wb at HK3 ⊢
                      clear nq
                      obtain rfl := hj1
                      have HR := Lib.hid (show R = (j1, dk) from by rw [← HP.out]; exact pl_out HI.out HJ.out (by omega))
                      obtain ⟨G, hG, hcw, hfw⟩ := HK3.out.fam
                      rw [hsk] at hcw hfw
                      obtain ⟨u, hu⟩ := HK3.out.again j1 x (by omega) (by omega) (.int .u64 (G x))
                      have hsw := HK3.out.swapd j1 x (by omega) (by omega)
                      rw [← hG, ← hG] at hsw
                      have HSW := Lib.hid hsw
                      clear hsw hG
                      go_wp2_with fail
                      go_region
                      all_goals go_wp2_with fail
                      go_ret2
                      exact ⟨false, by rw [HR.out]; rfl, by rw [HR.out]; exact HSW.out⟩
          · have hlez2 : decide ((i1 : Int) ≤ (j1 : Int)) = false := decide_eq_false (by omega)
            have hgtz : (i1 : Int) > (j1 : Int) := by omega
            have HJ := Lib.hid ((down_stop (p := (fun z => !ltInt z dk[x]!)) (d := dk) (i := i1) (j := j1) (.inl hle2)).symm.trans HD.out)
            go_wp2
            go_quiet (first | (go_at_call 73; refine Calls.quiet_of_same (less_any _ _ _)))
            have HK3 := Lib.hid (HK.out.drewN nq)
            clear HK HD
            generalize wr.drewN nq = wb at HK3 ⊢
            clear nq
            have HR := Lib.hid (show R = (j1, dk) from by rw [← HP.out]; exact pl_out HI.out HJ.out (by omega))
            obtain ⟨G, hG, hcw, hfw⟩ := HK3.out.fam
            rw [hsk] at hcw hfw
            obtain ⟨u, hu⟩ := HK3.out.again j1 x (by omega) (by omega) (.int .u64 (G x))
            have hsw := HK3.out.swapd j1 x (by omega) (by omega)
            rw [← hG, ← hG] at hsw
            have HSW := Lib.hid hsw
            clear hsw hG
            go_wp2_with fail
            go_region
            all_goals go_wp2_with fail
            go_ret2
            exact ⟨true, by rw [HR.out]; rfl, by rw [HR.out]; exact HSW.out⟩
    · have hlez : decide ((i1 : Int) ≤ (j : Int)) = false := decide_eq_false (by omega)
      have HI := Lib.hid ((up_stop (p := (fun z => ltInt z dk[x]!)) (d := dk) (j := j) (i := i1) (.inl hle)).symm.trans HU.out)
      go_wp2
      go_quiet (first | (go_at_call 73; refine Calls.quiet_of_same (less_any _ _ _)))
      have HK2 := Lib.hid (HK.out.drewN nq)
      clear HK HU
      generalize wr.drewN nq = wa at HK2 ⊢
      clear nq
      have HK := HK2
      clear HK2
      go_wp2
      go_loopg [11] 0 (fun g2 vj wr2 => vj = .int .i64 j ∧ Hid (Srt w0 wr2 b off dk))
      case atStart => exact ⟨rfl, HK⟩
      case round =>
        clear HK
        obtain ⟨rfl, HK⟩ := hrel
        obtain ⟨j1, hj1⟩ : ∃ j1, j1 = j := ⟨_, rfl⟩
        have hgtz : (i1 : Int) > (j : Int) := by omega
        have HJ := Lib.hid (show j1 = scanDown (fun z => !ltInt z dk[x]!) dk i1 j from by rw [hj1]; exact (down_stop (p := (fun z => !ltInt z dk[x]!)) (.inl hle)).symm)
        go_wp2
        go_quiet (first | (go_at_call 73; refine Calls.quiet_of_same (less_any _ _ _)))
        have HK3 := Lib.hid (HK.out.drewN nq)
        clear HK
        generalize wr.drewN nq = wb at HK3 ⊢
        clear nq
        obtain rfl := hj1
        have HR := Lib.hid (show R = (j1, dk) from by rw [← HP.out]; exact pl_out HI.out HJ.out (by omega))
        obtain ⟨G, hG, hcw, hfw⟩ := HK3.out.fam
        rw [hsk] at hcw hfw
        obtain ⟨u, hu⟩ := HK3.out.again j1 x (by omega) (by omega) (.int .u64 (G x))
        have hsw := HK3.out.swapd j1 x (by omega) (by omega)
        rw [← hG, ← hG] at hsw
        have HSW := Lib.hid hsw
        clear hsw hG
        go_wp2_with fail
        go_region
        all_goals go_wp2_with fail
        go_ret2
        exact ⟨true, by rw [HR.out]; rfl, by rw [HR.out]; exact HSW.out⟩
end Go.Proofs.Ytaoneiicoaiehaa.Sk11
