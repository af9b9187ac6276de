/- slices.Sort of a row of 64-bit numbers: the parting of those that are equal to a pivot. -/
import Derived.Test.YtaoneiicoaiehaaSk11
namespace Go.Proofs.Ytaoneiicoaiehaa.Se11
open Go Go.RowKit Go.Lib Go.Sort Go.Proofs.Ytaoneiicoaiehaa.Dh Go.Proofs.Ytaoneiicoaiehaa.Sx11 Go.Proofs.Ytaoneiicoaiehaa.Sk11
set_option maxHeartbeats 32000000 in
set_option maxRecDepth 100000 in
theorem peq_any {w0 w : World} {b off : Nat} {d : Array Int} (cap x y m : Nat) (h : Srt w0 w b off d) (hxy : x < y) (hy : y ≤ d.size) (hm2 : m < y) (hsz : d.size < 2305843009213693952) :
    Calls Try.prog 74 #[.slice (some ⟨b, off, none⟩) d.size cap, .int .i64 x, .int .i64 y, .int .i64 m] w fun e w' =>
      e = .returned (.int .i64 (partitionEqual ltInt d x y m).1) ∧ Srt w0 w' b off (partitionEqual ltInt d x y m).2 := by
  obtain ⟨d1, hd1⟩ : ∃ d1, d1 = swp d x m := ⟨_, rfl⟩
  have hs1 : d1.size = d.size := by rw [hd1, size_swp]
  obtain ⟨G, hG, hcw, hfw⟩ := h.fam
  obtain ⟨u, hu⟩ := h.again x m (by omega) (by omega) (.int .u64 (G m))
  have hsw := h.swapd x m (by omega) (by omega)
  rw [← hG, ← hG, ← hd1] at hsw
  unfold partitionEqual
  rw [← hd1]
  obtain ⟨R, hR⟩ : ∃ R, R = partEqLoop ltInt x (x + 1) (y - 1) d1 := ⟨_, rfl⟩
  rw [← hR]
  have HSW := Lib.hid hsw
  have HP := Lib.hid hR.symm
  clear hsw hd1 hG hR
  go_enter Try.func74, Try.ntmps74
  go_wp2_with fail
  go_region
  all_goals go_wp2_with fail
  have HK := HSW
  clear HSW hcw hfw hu u
  generalize ((w.setCell ⟨b, off + x, none⟩ (.int .u64 (G m))).setCell ⟨b, off + m, none⟩ (.int .u64 (G x))).drew = ws at HK ⊢
  clear h
  obtain ⟨i, hi⟩ : ∃ i, i = x + 1 := ⟨_, rfl⟩
  obtain ⟨j, hj⟩ : ∃ j, j = y - 1 := ⟨_, rfl⟩
  have ei : (x : Int) + 1 = (i : Int) := by omega
  have ej : (y : Int) - 1 = (j : Int) := by omega
  rw [ei, ej]
  rw [← hi, ← hj] at HP
  have hxi : x < i := by omega
  have hij : i ≤ j + 1 := by omega
  have hjy : j < y := by omega
  clear ei ej hi hj
  obtain ⟨dk, hdk⟩ : ∃ dk, dk = d1 := ⟨_, rfl⟩
  rw [← hdk] at HK HP hs1
  have hsk := hs1
  clear hdk hs1 d1
  go_loopg [9, 10] (j + 1 - i) (fun g1 vi vj wr => ∃ (i j : Nat) (dk : Array Int), vi = .int .i64 i ∧ vj = .int .i64 j ∧ x < i ∧ i ≤ j + 1 ∧ j < y ∧ j + 1 - i ≤ g1 ∧ dk.size = d.size ∧ Hid (Srt w0 wr b off dk) ∧ Hid (partEqLoop ltInt x i j dk = R))
  case atStart => exact ⟨i, j, dk, rfl, rfl, hxi, hij, hjy, Nat.le_refl _, hsk, HK, HP⟩
  case round =>
    clear HK HP hxi hij hjy hsk
    obtain ⟨i, j, dk, rfl, rfl, hxi, hij, hjy, hgo, hsk, HK, HP⟩ := hrel
    go_wp2
    go_loopg [9] (j + 1 - i) (fun g1 vi wr => ∃ i1 : Nat, vi = .int .i64 i1 ∧ i ≤ i1 ∧ i1 ≤ j + 1 ∧ j + 1 - i1 ≤ g1 ∧ Hid (Srt w0 wr b off dk) ∧ Hid (scanUp (fun z => !ltInt dk[x]! z) dk j i1 = scanUp (fun z => !ltInt dk[x]! z) dk j i))
    case atStart => exact ⟨i, by first | rfl | go_num | (congr 1; omega), Nat.le_refl _, hij, Nat.le_refl _, HK, Lib.hid rfl⟩
    case round =>
      clear HK
      obtain ⟨i1, rfl, hi1, hi2, hg1, HK, HU⟩ := hrel
      by_cases hle : i1 ≤ j
      · have hlez : (i1 : Int) ≤ (j : Int) := by omega
        obtain ⟨G, hG, hcw, hfw⟩ := HK.out.fam
        rw [hsk] at hcw hfw
        have HG := Lib.hid hG
        clear hG
        cases hl : ltInt (G x) (G i1) with
        | false =>
          go_wp2
          go_quiet (first | (go_at_call 73; refine Calls.quiet_of_same (less_any _ _ _)))
          go_wp2
          go_roundg (j + 1 - (i1 + 1))
          case measure => omega
          case rel => exact ⟨i1 + 1, by go_num, by omega, by omega, Nat.le_refl _, Lib.hid (HK.out.drewN _), Lib.hid (by rw [← HU.out]; exact (up_go (p := (fun z => !ltInt dk[x]! z)) hle (by rw [← HG.out, ← HG.out, hl]; rfl)).symm)⟩
        | true =>
          have HI := Lib.hid ((up_stop (p := (fun z => !ltInt dk[x]! z)) (d := dk) (j := j) (i := i1) (.inr (by rw [← HG.out, ← HG.out, hl]; rfl))).symm.trans HU.out)
          have HLU := Lib.hid (show ltInt dk[x]! dk[i1]! = true from by rw [← HG.out, ← HG.out]; exact hl)
          go_wp2
          go_quiet (first | (go_at_call 73; refine Calls.quiet_of_same (less_any _ _ _)))
          have HK2 := Lib.hid (HK.out.drewN nq)
          clear HK hcw hfw HG HU hl
          generalize wr.drewN nq = wa at HK2 ⊢
          clear nq
          have HK := HK2
          clear HK2
          go_wp2
          go_loopg [10] j (fun g2 vj wr2 => ∃ j1 : Nat, vj = .int .i64 j1 ∧ j1 ≤ j ∧ i1 ≤ j1 + 1 ∧ j1 ≤ g2 ∧ Hid (Srt w0 wr2 b off dk) ∧ Hid (scanDown (fun z => ltInt dk[x]! z) dk i1 j1 = scanDown (fun z => ltInt dk[x]! z) dk i1 j))
          case atStart => exact ⟨j, rfl, Nat.le_refl _, hi2, Nat.le_refl _, HK, Lib.hid rfl⟩
          case round =>
            clear HK
            obtain ⟨j1, rfl, hj1, hj2, hg2, HK, HD⟩ := hrel
            by_cases hle2 : i1 ≤ j1
            · have hlez2 : (i1 : Int) ≤ (j1 : Int) := by omega
              obtain ⟨G, hG, hcw, hfw⟩ := HK.out.fam
              rw [hsk] at hcw hfw
              have HG := Lib.hid hG
              clear hG
              cases hl : ltInt (G x) (G j1) with
              | true =>
                go_wp2
                go_quiet (first | (go_at_call 73; refine Calls.quiet_of_same (less_any _ _ _)))
                go_wp2
                go_roundg (j1 - 1)
                case measure => omega
                case rel => exact ⟨j1 - 1, by first | rfl | go_num | (congr 1; omega), by omega, by omega, Nat.le_refl _, Lib.hid (HK.out.drewN _), Lib.hid (by rw [← HD.out]; exact (down_go (p := (fun z => ltInt dk[x]! z)) (d := dk) (i := i1) (j := j1) hle2 (by omega) (by rw [← HG.out, ← HG.out]; exact hl)).symm)⟩
              | false =>
                have HJ := Lib.hid ((down_stop (p := (fun z => ltInt dk[x]! z)) (d := dk) (i := i1) (j := j1) (.inr (by rw [← HG.out, ← HG.out]; exact hl))).symm.trans HD.out)
                have HLD := Lib.hid (show ltInt dk[x]! dk[j1]! = false from by rw [← HG.out, ← HG.out]; exact hl)
                go_wp2
                go_quiet (first | (go_at_call 73; refine Calls.quiet_of_same (less_any _ _ _)))
                have HK3 := Lib.hid (HK.out.drewN nq)
                clear HK hcw hfw HG HD hl
                generalize wr.drewN nq = wb at HK3 ⊢
                clear nq
                have hne : i1 ≠ j1 := fun e => by have h1 := HLU.out; have h2 := HLD.out; rw [e] at h1; rw [h1] at h2; cases h2
                obtain ⟨G, hG, hcw, hfw⟩ := HK3.out.fam
                rw [hsk] at hcw hfw
                obtain ⟨u, hu⟩ := HK3.out.again i1 j1 (by omega) (by omega) (.int .u64 (G j1))
                have hsw := HK3.out.swapd i1 j1 (by omega) (by omega)
                rw [← hG, ← hG] at hsw
                have HSW := Lib.hid hsw
                clear hsw hG
                have hngz : ¬ (i1 : Int) > (j1 : Int) := by omega
                have HP2 := Lib.hid (show partEqLoop ltInt x (i1 + 1) (j1 - 1) (swp dk i1 j1) = R from by rw [← HP.out]; exact (pe_go HI.out HJ.out (by omega)).symm)
                go_wp2_with fail
                go_region
                all_goals go_wp2
                go_roundg (j1 - 1 + 1 - (i1 + 1))
                case measure => omega
                case rel => exact ⟨i1 + 1, j1 - 1, swp dk i1 j1, by go_num, by first | rfl | go_num | (congr 1; omega), by omega, by omega, by omega, by omega, by rw [size_swp]; exact hsk, HSW, HP2⟩
            · have hlez2 : decide ((i1 : Int) ≤ (j1 : Int)) = false := decide_eq_false (by omega)
              have hgtz : (i1 : Int) > (j1 : Int) := by omega
              have HJ := Lib.hid ((down_stop (p := (fun z => ltInt dk[x]! z)) (d := dk) (i := i1) (j := j1) (.inl hle2)).symm.trans HD.out)
              go_wp2
              go_quiet (first | (go_at_call 73; refine Calls.quiet_of_same (less_any _ _ _)))
              have HK3 := Lib.hid (HK.out.drewN nq)
              clear HK HD
              generalize wr.drewN nq = wb at HK3 ⊢
              clear nq
              have HR := Lib.hid (show R = (i1, dk) from by rw [← HP.out]; exact pe_out HI.out HJ.out (by omega))
              go_wp2
              go_ret
              exact ⟨by rw [HR.out]; rfl, by rw [HR.out]; exact HK3.out⟩
      · have hlez : decide ((i1 : Int) ≤ (j : Int)) = false := decide_eq_false (by omega)
        have HI := Lib.hid ((up_stop (p := (fun z => !ltInt dk[x]! z)) (d := dk) (j := j) (i := i1) (.inl hle)).symm.trans HU.out)
        go_wp2
        go_quiet (first | (go_at_call 73; refine Calls.quiet_of_same (less_any _ _ _)))
        have HK2 := Lib.hid (HK.out.drewN nq)
        clear HK HU
        generalize wr.drewN nq = wa at HK2 ⊢
        clear nq
        have HK := HK2
        clear HK2
        go_wp2
        go_loopg [10] 0 (fun g2 vj wr2 => vj = .int .i64 j ∧ Hid (Srt w0 wr2 b off dk))
        case atStart => exact ⟨rfl, HK⟩
        case round =>
          clear HK
          obtain ⟨rfl, HK⟩ := hrel
          obtain ⟨j1, hj1⟩ : ∃ j1, j1 = j := ⟨_, rfl⟩
          have hgtz : (i1 : Int) > (j : Int) := by omega
          have HJ := Lib.hid (show j1 = scanDown (fun z => ltInt dk[x]! z) dk i1 j from by rw [hj1]; exact (down_stop (p := (fun z => ltInt dk[x]! z)) (.inl hle)).symm)
          go_wp2
          go_quiet (first | (go_at_call 73; refine Calls.quiet_of_same (less_any _ _ _)))
          have HK3 := Lib.hid (HK.out.drewN nq)
          clear HK
          generalize wr.drewN nq = wb at HK3 ⊢
          clear nq
          obtain rfl := hj1
          have HR := Lib.hid (show R = (i1, dk) from by rw [← HP.out]; exact pe_out HI.out HJ.out (by omega))
          go_wp2
          go_ret
          exact ⟨by rw [HR.out]; rfl, by rw [HR.out]; exact HK3.out⟩
end Go.Proofs.Ytaoneiicoaiehaa.Se11
