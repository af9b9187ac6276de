/- slices.Sort of a row of 64-bit numbers: it is sorted, and a permutation. -/
import Derived.Test.YtaoneiicoaiehaaSi11
import Derived.Test.YtaoneiicoaiehaaSr11
import Derived.Test.YtaoneiicoaiehaaSm11
import Derived.Test.YtaoneiicoaiehaaLn11
import Derived.Test.YtaoneiicoaiehaaSq11
import Derived.Test.YtaoneiicoaiehaaSe11
namespace Go.Proofs.Ytaoneiicoaiehaa.Sd11
open Go Go.RowKit Go.Lib Go.Sort Go.Proofs.Ytaoneiicoaiehaa.Dh Go.Proofs.Ytaoneiicoaiehaa.Sx11 Go.Proofs.Ytaoneiicoaiehaa.Si11 Go.Proofs.Ytaoneiicoaiehaa.Sr11 Go.Proofs.Ytaoneiicoaiehaa.Sm11 Go.Proofs.Ytaoneiicoaiehaa.Ln11 Go.Proofs.Ytaoneiicoaiehaa.Sq11 Go.Proofs.Ytaoneiicoaiehaa.Sk11 Go.Proofs.Ytaoneiicoaiehaa.Se11
set_option maxHeartbeats 64000000 in
set_option maxRecDepth 100000 in
theorem pdq_any (cap : Nat) {w0 : World} {b off : Nat} : ∀ (n : Nat) {w : World} {d : Array Int} (x y lim : Nat), y - x ≤ n → Srt w0 w b off d → x ≤ y → y ≤ d.size → lim ≤ 100 → d.size < 2305843009213693952 → Below ltInt x y d →
    Calls Try.prog 44 #[.slice (some ⟨b, off, none⟩) d.size cap, .int .i64 x, .int .i64 y, .int .i64 lim] w fun e w' => e = .returned (.tuple #[]) ∧ ∃ d', PermIn x y d d' ∧ SortedIn ltInt x y d' ∧ Srt w0 w' b off d' := by
    intro n
    induction n using Nat.strongRecOn with
    | ind n ih =>
    intro w d x y lim hn h hxy hy hlim hsz hB
    have HREC := Lib.hid ih
    clear ih
    have HS := Lib.hid h
    have HB := Lib.hid hB
    clear h hB
    go_enter Try.func44, Try.ntmps44
    go_wp2
    go_loopg [1, 2, 3, 8, 9] (y - x) (fun g1 va vc vl vb vp wr => ∃ (a c lm : Nat) (wb wp : Bool) (dk : Array Int), va = .int .i64 (a : Int) ∧ vc = .int .i64 (c : Int) ∧ vl = .int .i64 (lm : Int) ∧ vb = .bool wb ∧ vp = .bool wp ∧ x ≤ a ∧ a ≤ c ∧ c ≤ y ∧ c - a ≤ g1 ∧ c - a ≤ n ∧ lm ≤ 100 ∧ dk.size = d.size ∧ Hid (Srt w0 wr b off dk) ∧ Hid (Below ltInt a c dk) ∧ Hid (∀ R, PermIn a c dk R → SortedIn ltInt a c R → PermIn x y d R ∧ SortedIn ltInt x y R))
    case atStart => exact ⟨x, y, lim, true, true, d, rfl, rfl, rfl, rfl, rfl, Nat.le_refl _, hxy, Nat.le_refl _, Nat.le_refl _, hn, hlim, rfl, HS, HB, Lib.hid fun R h1 h2 => ⟨h1, h2⟩⟩
    case round =>
      clear HS HB hn
      obtain ⟨a, c, lm, wb, wp, dk, rfl, rfl, rfl, rfl, rfl, hxa, hac, hcy, hg1, hn, hlm, hsk, HK, HB, HF⟩ := hrel
      by_cases h12 : c - a ≤ 12
      · have h12z : (c : Int) - (a : Int) ≤ 12 := by omega
        have hc := ins_any cap a c HK.out hac (by omega) (by omega)
        rw [hsk] at hc
        have HC := Lib.hid hc
        have HI := Lib.hid (insertionSort_holds swo_ltInt dk a c hac (by omega))
        clear hc
        go_wp2_with fail
        refine HC.out.mono ?_
        rintro e w1 ⟨rfl, h1⟩
        have H1 := Lib.hid h1
        clear h1
        go_wp2
        (try simp only [Exit.inBlock, Exit.then]); refine bodyPost_ret (results_none rfl _ _ _) rfl ?_
        exact ⟨rfl, _, (HF.out _ HI.out.1 HI.out.2).1, (HF.out _ HI.out.1 HI.out.2).2, H1.out⟩
      · have h12z : ¬ (c : Int) - (a : Int) ≤ 12 := by omega
        by_cases hl0 : lm = 0
        · have hl0z : (lm : Int) = 0 := by omega
          have hc := heap_any cap a c HK.out (by omega) (by omega) (by omega)
          rw [hsk] at hc
          have HC := Lib.hid hc
          have HI := Lib.hid (heapSort_holds swo_ltInt dk a c hac (by omega))
          clear hc
          go_wp2_with fail
          refine HC.out.mono ?_
          rintro e w1 ⟨rfl, h1⟩
          have H1 := Lib.hid h1
          clear h1
          go_wp2
          (try simp only [Exit.inBlock, Exit.then]); refine bodyPost_ret (results_none rfl _ _ _) rfl ?_
          exact ⟨rfl, _, (HF.out _ HI.out.1 HI.out.2).1, (HF.out _ HI.out.1 HI.out.2).2, H1.out⟩
        · have hl0z : ¬ (lm : Int) = 0 := by omega
          go_upto_if 35 with fail
          go_cut [3] from 19 to 133 (fun s3 wc => ∃ (l2 : Nat) (d1 : Array Int), s3 = .int .i64 (l2 : Int) ∧ l2 ≤ 100 ∧ Hid (PermIn a c dk d1) ∧ Hid (Srt w0 wc b off d1))
          case first =>
            cases wb
            · have hc := break_any cap a (c - a) HK.out (by omega) (by omega) (by omega)
              have e1 : (a : Int) + ((c - a : Nat) : Int) = (c : Int) := by omega
              have e2 : a + (c - a) = c := by omega
              rw [hsk, e1, e2] at hc
              have HC := Lib.hid hc
              clear hc e1 e2
              go_wp2_with fail
              refine HC.out.mono ?_
              rintro e w1 ⟨rfl, d1, hp1, h1⟩
              have H1 := Lib.hid h1
              have HP1 := Lib.hid hp1
              clear h1 hp1
              go_wp2
              go_meet
              case rel => exact ⟨lm - 1, d1, by first | rfl | go_num | (congr 1; omega), by omega, HP1, H1⟩
            · go_wp2_with fail
              go_meet
              case rel => exact ⟨lm, dk, rfl, hlm, Lib.hid (permIn_refl _ _ _), HK⟩
          case rest =>
            obtain ⟨l2, d1, rfl, hl2, HP1, HK1⟩ := hcut
            clear HK hl0 hl0z hlm
            have hs1 : d1.size = d.size := HP1.out.1.trans hsk
            have hc := pick_any cap a c HK1.out (by omega) (by omega) (by omega)
            rw [hs1] at hc
            have HC := Lib.hid hc
            clear hc
            go_wp2_with fail
            refine HC.out.mono ?_
            rintro e w2 ⟨p, k, rfl, hp1, hp2, hk, h2⟩
            have HK2 := Lib.hid h2
            clear h2 HC HK1
            go_upto_if 50 with fail
            go_cut [11, 12] from 19 to 133 (fun s11 s12 wc => ∃ (p2 k2 : Nat) (d2 : Array Int), s11 = .int .i64 (p2 : Int) ∧ s12 = .int .i64 (k2 : Int) ∧ a ≤ p2 ∧ p2 < c ∧ Hid (PermIn a c dk d2) ∧ Hid (Srt w0 wc b off d2))
            case first =>
              by_cases hk2 : k = 2
              · subst hk2
                have hc := reverse_any cap a c HK2.out (by omega) (by omega) (by omega)
                rw [hs1] at hc
                have HC := Lib.hid hc
                clear hc
                go_wp2_with fail
                refine HC.out.mono ?_
                rintro e w3 ⟨rfl, d2, hp, h3⟩
                have H3 := Lib.hid h3
                have HP := Lib.hid hp
                clear h3 hp HC
                go_wp2
                go_meet
                case rel => exact ⟨c - 1 - (p - a), 1, d2, by first | rfl | go_num | (congr 1; omega), rfl, by omega, by omega, Lib.hid (permIn_trans _ _ _ _ _ HP1.out HP.out), H3⟩
              · have hkz : ¬ (k : Int) = 2 := by omega
                go_wp2_with fail
                go_meet
                case rel => exact ⟨p, k, d1, rfl, rfl, hp1, hp2, HP1, HK2⟩
            case rest =>
              obtain ⟨p2, k2, d2, rfl, rfl, hq1, hq2, HP2, HK3⟩ := hcut
              clear HK2 hp1 hp2 hk HP1 hs1
              have hs2 : d2.size = d.size := HP2.out.1.trans hsk
              go_upto_region 15 with fail
              go_cut [68] from 19 to 133 (fun s68 wx => (∃ q : Bool, s68 = .bool q) ∧ Hid (Srt w0 wx b off d2))
              case first =>
                by_cases hk1 : k2 = 1
                · subst hk1
                  cases wb <;> cases wp <;> (go_wp2_with fail; go_meet; case rel => exact ⟨⟨_, rfl⟩, HK3⟩)
                · have hkz : ¬ (k2 : Int) = 1 := by omega
                  cases wb <;> cases wp <;> (go_wp2_with fail; go_meet; case rel => exact ⟨⟨_, rfl⟩, HK3⟩)
              case rest =>
                obtain ⟨⟨q, rfl⟩, HKx⟩ := hcut
                clear HK3
                go_upto_if 68 with fail
                go_cut [] from 19 to 133 (fun wc => ∃ d3 : Array Int, Hid (PermIn a c dk d3) ∧ Hid (Srt w0 wc b off d3))
                case first =>
                  cases q
                  · go_wp2_with fail
                    go_meet
                    case rel => exact ⟨d2, HP2, HKx⟩
                  · have hc := pins_any cap a c HKx.out (by omega) (by omega) (by omega)
                    have hi := partialInsertionSort_holds swo_ltInt d2 a c (by omega) (by omega) (HB.out.perm (by omega) HP2.out)
                    rw [hs2] at hc
                    obtain ⟨R, hR⟩ : ∃ R, R = partialInsertionSort ltInt d2 a c := ⟨_, rfl⟩
                    rw [← hR] at hc hi
                    clear hR
                    obtain ⟨dr, br⟩ := R
                    have HC := Lib.hid hc
                    have HI := Lib.hid hi
                    clear hc hi
                    go_wp2_with fail
                    refine HC.out.mono ?_
                    rintro e w3 ⟨rfl, h3⟩
                    have H3 := Lib.hid h3
                    clear h3 HC
                    cases br
                    · go_wp2
                      go_meet
                      case rel => exact ⟨dr, Lib.hid (permIn_trans _ _ _ _ _ HP2.out HI.out.1), H3⟩
                    · go_wp2
                      (try simp only [Exit.inBlock, Exit.then]); refine bodyPost_ret (results_none rfl _ _ _) rfl ?_
                      have hi1 : PermIn a c d2 dr := HI.out.1
                      have hi2 : SortedIn ltInt a c dr := HI.out.2 (by first | trivial | rfl)
                      have hf := HF.out _ (permIn_trans _ _ _ _ _ HP2.out hi1) hi2
                      exact ⟨rfl, dr, hf.1, hf.2, H3.out⟩
                case rest =>
                  obtain ⟨d3, HP3, HK3⟩ := hcut
                  clear HKx HP2 hs2
                  have hs3 : d3.size = d.size := HP3.out.1.trans hsk
                  have HB3 := Lib.hid (HB.out.perm (by omega) HP3.out)
                  go_upto_region 17 with fail
                  go_cut [87] from 19 to 133 (fun s87 wx => ∃ q : Bool, s87 = .bool q ∧ Hid (q = true → 0 < a ∧ ltInt d3[a - 1]! d3[p2]! = false) ∧ Hid (Srt w0 wx b off d3))
                  case first =>
                    obtain ⟨G, hG, hcw, hfw⟩ := HK3.out.fam
                    rw [hs3] at hcw hfw
                    have HG := Lib.hid hG
                    clear hG
                    by_cases ha0 : 0 < a
                    · have ha0z : (a : Int) > 0 := by omega
                      cases hl : ltInt (G (a - 1)) (G p2) with
                      | true =>
                        go_wp2_with fail
                        go_quiet (first | (go_at_call 73; refine Calls.quiet_of_same (less_any _ _ _)))
                        try go_wp2_with fail
                        go_meet
                        case rel => exact ⟨false, rfl, Lib.hid (fun h => by cases h), Lib.hid (HK3.out.drewN _)⟩
                      | false =>
                        go_wp2_with fail
                        go_quiet (first | (go_at_call 73; refine Calls.quiet_of_same (less_any _ _ _)))
                        try go_wp2_with fail
                        go_meet
                        case rel => exact ⟨true, rfl, Lib.hid (fun _ => ⟨ha0, by rw [← HG.out, ← HG.out]; exact hl⟩), Lib.hid (HK3.out.drewN _)⟩
                    · have ha0z : ¬ (a : Int) > 0 := by omega
                      go_wp2_with fail
                      go_quiet (first | (go_at_call 73; refine Calls.quiet_of_same (less_any _ _ _)))
                      try go_wp2_with fail
                      go_meet
                      case rel => exact ⟨false, rfl, Lib.hid (fun h => by cases h), Lib.hid (HK3.out.drewN _)⟩
                  case rest =>
                    obtain ⟨q, rfl, hq, HK4⟩ := hcut
                    clear HK3
                    cases q
                    · clear hq
                      have hc := part_any cap a c p2 HK4.out (by omega) (by omega) hq1 hq2 (by omega)
                      rw [hs3] at hc
                      obtain ⟨mid, ap, d4, hx⟩ : ∃ mid ap d4, partition ltInt d3 a c p2 = (mid, ap, d4) := ⟨_, _, _, rfl⟩
                      rw [hx] at hc
                      obtain ⟨hm1, hm2, hs4, hbl, hbr, hL, hR⟩ := round_part swo_ltInt (partition_holds _) hq1 hq2 (by omega) HB3.out hx
                      have HBL := Lib.hid hbl
                      have HBR := Lib.hid hbr
                      have HL := Lib.hid hL
                      have HR := Lib.hid hR
                      have hs4' : d4.size = d.size := hs4.trans hs3
                      have HC := Lib.hid hc
                      clear hc hx hbl hbr hL hR hs4
                      go_wp2_with fail
                      refine HC.out.mono ?_
                      rintro e w4 ⟨kb, rfl, h4⟩
                      have H4 := Lib.hid h4
                      clear h4 HC
                      by_cases hlr : mid - a < c - mid
                      · have hlrz : (mid : Int) - (a : Int) < (c : Int) - (mid : Int) := by omega
                        have hr := HREC.out (mid - a) (by omega) a mid l2 (Nat.le_refl _) H4.out hm1 (by omega) hl2 (by omega) HBL.out
                        rw [hs4'] at hr
                        have HC := Lib.hid hr
                        clear hr
                        go_wp2_with fail
                        refine HC.out.mono ?_
                        rintro e w5 ⟨rfl, L, hL1, hL2, h5⟩
                        obtain ⟨hB5, hfin⟩ := HL.out L hL1 hL2
                        have H5 := Lib.hid h5
                        have HB5 := Lib.hid hB5
                        have HFIN := Lib.hid hfin
                        have hs5 : L.size = d.size := hL1.1.trans hs4'
                        clear h5 hB5 hfin hL1 hL2 HC
                        go_wp2
                        go_roundg (c - (mid + 1))
                        case measure => omega
                        case rel => exact ⟨mid + 1, c, l2, _, _, L, by first | rfl | go_num, rfl, rfl, rfl, rfl, by omega, by omega, by omega, Nat.le_refl _, by omega, hl2, hs5, H5, HB5, Lib.hid fun R h1 h2 => HF.out R (permIn_trans _ _ _ _ _ HP3.out (HFIN.out R h1 h2).1) (HFIN.out R h1 h2).2⟩
                      · have hlrz : ¬ (mid : Int) - (a : Int) < (c : Int) - (mid : Int) := by omega
                        have hr := HREC.out (c - (mid + 1)) (by omega) (mid + 1) c l2 (Nat.le_refl _) H4.out (by omega) (by omega) hl2 (by omega) HBR.out
                        have e1 : ((mid + 1 : Nat) : Int) = (mid : Int) + 1 := by omega
                        rw [hs4', e1] at hr
                        have HC := Lib.hid hr
                        clear hr e1
                        go_wp2_with fail
                        refine HC.out.mono ?_
                        rintro e w5 ⟨rfl, L, hL1, hL2, h5⟩
                        obtain ⟨hB5, hfin⟩ := HR.out L hL1 hL2
                        have H5 := Lib.hid h5
                        have HB5 := Lib.hid hB5
                        have HFIN := Lib.hid hfin
                        have hs5 : L.size = d.size := hL1.1.trans hs4'
                        clear h5 hB5 hfin hL1 hL2 HC
                        go_wp2
                        go_roundg (mid - a)
                        case measure => omega
                        case rel => exact ⟨a, mid, l2, _, _, L, rfl, rfl, rfl, rfl, rfl, by omega, by omega, by omega, Nat.le_refl _, by omega, hl2, hs5, H5, HB5, Lib.hid fun R h1 h2 => HF.out R (permIn_trans _ _ _ _ _ HP3.out (HFIN.out R h1 h2).1) (HFIN.out R h1 h2).2⟩
                    · obtain ⟨ha0, hnl⟩ := hq.out rfl
                      have hc := peq_any cap a c p2 HK4.out (by omega) (by omega) hq2 (by omega)
                      rw [hs3] at hc
                      obtain ⟨mid, d4, hx⟩ : ∃ mid d4, partitionEqual ltInt d3 a c p2 = (mid, d4) := ⟨_, _, rfl⟩
                      rw [hx] at hc
                      obtain ⟨hm1, hm2, hs4, hb4, hfin⟩ := round_eq swo_ltInt (partitionEqual_holds _) ha0 hq1 hq2 (by omega) HB3.out hnl hx
                      have HB4 := Lib.hid hb4
                      have HFIN := Lib.hid hfin
                      have hs4' : d4.size = d.size := hs4.trans hs3
                      have HC := Lib.hid hc
                      clear hc hx hb4 hfin hs4 hnl hq
                      go_wp2_with fail
                      refine HC.out.mono ?_
                      rintro e w4 ⟨rfl, h4⟩
                      have H4 := Lib.hid h4
                      clear h4 HC
                      go_wp2
                      go_roundg (c - mid)
                      case measure => omega
                      case rel => exact ⟨mid, c, l2, wb, wp, d4, rfl, rfl, rfl, rfl, rfl, by omega, by omega, by omega, Nat.le_refl _, by omega, hl2, hs4', H4, HB4, Lib.hid fun R h1 h2 => HF.out R (permIn_trans _ _ _ _ _ HP3.out (HFIN.out R h1 h2).1) (HFIN.out R h1 h2).2⟩
end Go.Proofs.Ytaoneiicoaiehaa.Sd11
