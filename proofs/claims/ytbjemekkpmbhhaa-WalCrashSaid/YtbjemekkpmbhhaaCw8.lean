/- The walk of WalCrash. -/
import Derived.Test.YtbjemekkpmbhhaaW8d
namespace Go.Proofs.Ytbjemekkpmbhhaa.Cw8
open Go Go.RowKit Go.Lib Go.Proofs.Ytbjemekkpmbhhaa.Dh Go.Proofs.Ytbjemekkpmbhhaa.Fm Go.Proofs.Ytbjemekkpmbhhaa.St Go.Proofs.Ytbjemekkpmbhhaa.Fl7 Go.Proofs.Ytbjemekkpmbhhaa.Rs7 Go.Proofs.Ytbjemekkpmbhhaa.Wl8 Go.Proofs.Ytbjemekkpmbhhaa.Wa8 Go.Proofs.Ytbjemekkpmbhhaa.Wr8 Go.Proofs.Ytbjemekkpmbhhaa.Pl8 Go.Proofs.Ytbjemekkpmbhhaa.Po8 Go.Proofs.Ytbjemekkpmbhhaa.Hv8 Go.Proofs.Ytbjemekkpmbhhaa.Ss8 Go.Proofs.Ytbjemekkpmbhhaa.Rw8 Go.Proofs.Ytbjemekkpmbhhaa.Do8 Go.Proofs.Ytbjemekkpmbhhaa.Be8
/-- A row of steps that came in. -/
structure CameIn (w : World) (ao : Option Addr) (l : List Sx) : Prop where
  cells : l ≠ [] → ∃ b o, ao = some ⟨b, o, none⟩ ∧ b < w.heap.size ∧ Cells w b o l
  ok : ∀ s ∈ l, s.ok w
  len : l.length ≤ 140737488351232
theorem heavy_any {w : World} {ao : Option Addr} {l : List Sx} (h : CameIn w ao l) (cap : Nat) :
    Calls Try.prog 4 #[.slice ao l.length cap] w fun e w' => HeavyEnd l e ∧ w' = w := by
  by_cases hl : l = []
  · subst hl
    refine (heavy_nil w ao cap).mono ?_
    rintro e w' ⟨rfl, rfl⟩
    exact ⟨⟨false, rfl, fun _ => ⟨by decide, by decide⟩⟩, rfl⟩
  · obtain ⟨b, o, rfl, _, hc⟩ := h.cells hl
    exact heavy_some w b o cap l hc h.ok h.len
theorem nil_nil (W : World) : (binOp .eql 30 (.slice none 0 0) (.slice none 0 0)).run Try.prog W = .ok (.bool true) W := by kernel_rfl
theorem some_nil (a : Addr) (n c : Nat) (W : World) : (binOp .eql 30 (.slice (some a) n c) (.slice none 0 0)).run Try.prog W = .ok (.bool false) W := by
  kernel_rfl
set_option maxRecDepth 40000 in
set_option maxHeartbeats 16000000 in
theorem walk (w : World) (ao : Option Addr) (cap : Nat) (l : List Sx) (h : CameIn w ao l) :
    Calls Try.prog 3 #[.slice ao l.length cap] w fun e w' => e = .returned (.bool true) ∧ Below w.heap.size w w' := by
  have HH := Lib.hid (heavy_any h cap)
  have HA := Lib.hid Av8.alive_any
  have HN := Lib.hid (s_new w 1048576 (by decide) (by decide))
  have HCI := Lib.hid h
  clear h
  have hq0 := nil_nil
  have hq1 := some_nil
  go_enter Try.func3, Try.ntmps3
  go_wp2_with fail
  refine HH.out.mono ?_
  rintro e w1 ⟨⟨r, rfl, hr⟩, rfl⟩
  clear HH
  cases r with
  | true =>
    clear hr HN
    go_wp2_with fail
    refine (HA.out _).mono ?_
    rintro e w2 ⟨rfl, hb⟩
    have HB := Lib.hid hb
    clear hb
    go_wp2
    go_ret
    exact ⟨rfl, HB.out⟩
  | false =>
    have HV := Lib.hid (hr rfl)
    clear hr
    go_wp2_with fail
    refine HN.out.mono ?_
    rintro e w2 ⟨p, rfl, hd⟩
    have HO := Lib.hid (s_open (G := []) (P := []) hd (calm_new 1048576) 0 (left_new 1048576) (by decide) rfl)
    clear hd HN
    go_wp2_with fail
    refine HO.out.mono ?_
    rintro e w3 ⟨j, n, q, A, c, D1, rfl, _, _, _, _, hup, hses, _, _⟩
    simp only [List.append_nil, List.take_nil, List.length_nil] at hup hses ⊢
    have HS := Lib.hid (hses.fewer (Kp' := blockOf none) fun x hx => by obtain ⟨a, ha, _⟩ := hx; cases ha)
    have HU := Lib.hid hup
    clear hup hses HO
    go_wp2
    go_loopw [5, 8, 9, 10, 11, 12, 13, 14, 15, 16, 17, 18, 46, 47, 48, 49, 50, 51, 52, 53, 54, 55, 56, 57, 58, 59, 60, 61, 62, 63, 64, 65, 66, 67, 68, 69, 70, 71, 72, 73, 74, 75, 76, 77, 78, 79, 80, 81, 82, 83, 84, 85, 86, 87, 88, 89, 90, 91, 92, 93, 94, 95, 96, 97, 98, 99, 100, 101, 102, 103, 104, 105, 106, 107, 108, 109, 110, 111, 112, 113, 114, 115, 116, 117, 118, 119, 120, 121, 122, 123, 124, 125, 126, 127, 128, 129, 130, 131, 132, 133, 134, 135, 136, 137, 138, 139, 140, 141, 142, 143, 144, 145, 146, 147, 148, 149, 150, 151] (fun vw vh vm vr vi _ _ _ _ _ _ _ _ _ _ _ _ _ _ _ _ _ _ _ _ _ _ _ _ _ _ _ _ _ _ _ _ _ _ _ _ _ _ _ _ _ _ _ _ _ _ _ _ _ _ _ _ _ _ _ _ _ _ _ _ _ _ _ _ _ _ _ _ _ _ _ _ _ _ _ _ _ _ _ _ _ _ _ _ _ _ _ _ _ _ _ _ _ _ _ _ _ _ _ _ _ _ _ _ _ _ _ _ _ _ _ _ _ wr => RelW w1 p l vw vh vm vr vi wr) (fun _ _ _ _ vi _ _ _ _ _ _ _ _ _ _ _ _ _ _ _ _ _ _ _ _ _ _ _ _ _ _ _ _ _ _ _ _ _ _ _ _ _ _ _ _ _ _ _ _ _ _ _ _ _ _ _ _ _ _ _ _ _ _ _ _ _ _ _ _ _ _ _ _ _ _ _ _ _ _ _ _ _ _ _ _ _ _ _ _ _ _ _ _ _ _ _ _ _ _ _ _ _ _ _ _ _ _ _ _ _ _ _ _ _ _ _ _ _ _ => l.length - (RowKit.intOf vi).toNat)
    case atStart => exact ⟨0, q, none, 0, [], none, 0, 0, false, D1, _, by omega, rfl, rfl, rfl, rfl, rfl, HS, Lib.hid (own_nil _ _), Lib.hid (.up HU.out (Nat.zero_le _))⟩
    case round =>
      obtain ⟨i, q, Ah, ch, H, Am, nm, cm, R, D, X, hi, rfl, rfl, rfl, rfl, rfl, hs, ho, hg⟩ := hrel
      clear HS HU
      by_cases hlt : i < l.length
      · have hin := HCI.out
        have hlne : l ≠ [] := fun e => by rw [e] at hlt; exact absurd hlt (Nat.not_lt_zero _)
        obtain ⟨b, o, rfl, hblt, hcells⟩ := hin.cells hlne
        have hsok := hin.ok _ (List.getElem_mem hlt)
        obtain ⟨S0, hS0⟩ := hs.out
        have hbw := hS0.below
        have c0 := (hbw.cell (p := ⟨b, o + i * 4, none⟩) hblt).trans (hcells i hlt).1
        have c1 := (hbw.cell (p := ⟨b, o + i * 4 + 1, none⟩) hblt).trans (hcells i hlt).2.1
        have c2 := (hbw.cell (p := ⟨b, o + i * 4 + 2, none⟩) hblt).trans (hcells i hlt).2.2.1
        have c3 := (hbw.cell (p := ⟨b, o + i * 4 + 3, none⟩) hblt).trans (hcells i hlt).2.2.2
        have htt := tot_take l i hlt
        have htl := tot_le l (i + 1)
        have hlen := HV.out.1
        have htot := HV.out.2
        obtain ⟨s, hse⟩ : ∃ s, s = l[i] := ⟨_, rfl⟩
        rw [← hse] at c0 c1 c2 c3 hsok htt
        unfold sliceV at c1
        have hil : (i : Int) < (l.length : Int) := by omega
        have hi0 : (0 : Int) ≤ (i : Int) := by omega
        have hz1 : decide ((i : Int) < (l.length : Int)) = true := decide_eq_true hil
        have HK := Lib.hid hsok
        have HT := Lib.hid htt
        clear hsok htt hse hcells hlne hin hbw hS0
        obtain ⟨t', ht'⟩ : ∃ t', t' = s.o := ⟨_, rfl⟩
        rw [← ht'] at c0
        clear ht'
        have hszs : Fl7.size (ll s.L) ≤ tot l := by have := HT.out; omega
        by_cases h0 : t' = 0
        · subst h0
          generalize hst : tot (l.take i) = T at hg
          rcases hg.out with ⟨hup, hsz⟩ | ⟨A', c', L', hf, hl, hr', hne, hcap, hsz⟩ | ⟨hf, hl, hsz⟩
          · have hsz2 : Fl7.size (ll (H ++ s.L)) ≤ tot (l.take (i + 1)) := by rw [size_ll, HT.out, hst]; omega
            have hc := do_append hs.out ho.out hup 0 s HK.out.reads (by omega)
            simp only [stepO] at hc
            have HC := Lib.hid hc
            have HSZ := Lib.hid hsz2
            have hHl : H.length + s.L.length ≤ 100000 := by
              have h1 := len_size (H ++ s.L)
              rw [List.length_append] at h1
              omega
            clear hc hsz2 hup hsz hg hst hs ho
            go_wp2_with fail
            refine HC.out.mono ?_
            rintro e w4 ⟨r, D', X', ⟨rfl, hb⟩, ⟨rfl, hup⟩ | ⟨rfl, hne, hf, hl⟩⟩
            · have cx : w4.cell? ⟨wr.heap.size, 1, none⟩ = some (.slice s.A s.L.length s.c) := cell_of hb.box 1
              have hsz4 : wr.heap.size < w4.heap.size := lt_of_at hb.box
              have H1 := Lib.hid (first_any (W := w4.drew) (B := w1.heap.size) (A := Ah) (c := ch) (H := H) hb.own (by omega))
              have H2 : Hid (∀ v1 W1, First w4.drew H v1 W1 → W1.cell? ⟨wr.heap.size, 1, none⟩ = some (.slice s.A s.L.length s.c) ∧ ∃ v2 W2, (Builtin.append_ #[30, 30] 30 #[v1, .slice s.A s.L.length s.c]).run Try.prog W1 = .ok v2 W2 ∧ Second w4.drew H s.L v2 W2) := Lib.hid (by
                intro v1 W1 hf
                have hbl : Below w4.drew.heap.size w4.drew W1 := by obtain ⟨_, _, _, _, h⟩ := hf; exact h
                have hsrc : SrcT w4.drew s.A s.c s.L := ⟨HK.out.reads.keep (Nat.le_refl _) (by obtain ⟨S, hS⟩ := hb.ses; exact hS.below.drew), fun h => by
                  have := HK.out.none h
                  exact ⟨this.1, this.2⟩⟩
                exact ⟨(hbl.cell (p := ⟨wr.heap.size, 1, none⟩) hsz4).trans cx, second_any hf hsrc hHl⟩)
              have HB := Lib.hid hb
              have HU := Lib.hid hup
              clear hb hup HC
              go_wp2
              go_region_law (first
                | (obtain ⟨cx1, v2, W2, hrun2, hs2⟩ := H2.out _ _ ‹First _ _ _ _›; refine step_run rfl _ _ _ rfl _ _ _ rfl rfl hrun2 ?_; obtain ⟨A2, c2, rfl, ho2, hb2⟩ := hs2; have HO2 := Lib.hid ho2; have HB2 := Lib.hid hb2; clear ho2 hb2 hrun2)
                | (obtain ⟨v1, W1, hrun1, hf1⟩ := H1.out; refine step_run rfl _ _ _ rfl _ _ _ rfl rfl hrun1 ?_; have cx1 := (H2.out _ _ hf1).1; clear hrun1))
              all_goals
                have HS2 := Lib.hid (HB.out.ses.keep_new (((Below.refl w4.heap.size w4).drew).trans HB2.out) (blockOf A2) (fun x hx => OwnT.block HO2.out x hx))
                go_wp2
                go_round
                case rel => exact ⟨i + 1, q, A2, c2, H ++ s.L, none, 0, 0, false, D', X', by omega, rfl, by rw [List.length_append], rfl, rfl, by go_num, HS2, Lib.hid (OwnT.keep HO2.out (HB.out.ses.size) fun _ _ => rfl), Lib.hid (.up HU.out HSZ.out)⟩
                case measure => simp [RowKit.intOf]; omega
            · have cx : w4.cell? ⟨wr.heap.size, 1, none⟩ = some (.slice s.A s.L.length s.c) := cell_of hb.box 1
              obtain ⟨a, hA⟩ : ∃ a, s.A = some a := by
                rcases hx : s.A with _ | a
                · exact absurd (HK.out.none hx).1 hne
                · exact ⟨a, rfl⟩
              have hrd := HK.out.reads
              rw [hA] at hrd cx
              have HST := Lib.hid (Stage.put (w0 := w1) a s.c s.L hf hl hrd hne HK.out.cap HSZ.out)
              have HB := Lib.hid hb
              clear hb hl hf hne HC hrd hA
              go_wp2
              go_round
              case rel => exact ⟨i + 1, q, Ah, ch, H, some a, s.L.length, s.c, false, D', X', by omega, rfl, rfl, rfl, rfl, by go_num, Lib.hid HB.out.ses, Lib.hid HB.out.own, HST⟩
              case measure => simp [RowKit.intOf]; omega
          · have hc := do_append_down hs.out ho.out hf 0 s
            simp only [stepO] at hc
            have HC := Lib.hid hc
            have HST := Lib.hid (Stage.put (w0 := w1) (T := tot (l.take (i + 1))) A' cm L' hf hl hr' hne hcap (by rw [HT.out, hst]; omega))
            clear hc hf hl hr' hne hcap hsz hg hst hs ho
            go_wp2_with fail
            refine HC.out.mono ?_
            rintro e w4 ⟨rfl, hb⟩
            have HB := Lib.hid hb
            clear hb HC
            go_wp2
            go_round
            case rel => exact ⟨i + 1, q, Ah, ch, H, some A', L'.length, cm, false, D, X, by omega, rfl, rfl, rfl, rfl, by go_num, Lib.hid HB.out.ses, Lib.hid HB.out.own, HST⟩
            case measure => simp [RowKit.intOf]; omega
          · have hc := do_append_down hs.out ho.out hf 0 s
            simp only [stepO] at hc
            have HC := Lib.hid hc
            have HST := Lib.hid (Stage.reset (w0 := w1) (T := tot (l.take (i + 1))) hf hl (by rw [HT.out, hst]; omega))
            clear hc hf hl hsz hg hst hs ho
            go_wp2_with fail
            refine HC.out.mono ?_
            rintro e w4 ⟨rfl, hb⟩
            have HB := Lib.hid hb
            clear hb HC
            go_wp2
            go_round
            case rel => exact ⟨i + 1, q, Ah, ch, H, none, 0, 0, true, D, X, by omega, rfl, rfl, rfl, rfl, by go_num, Lib.hid HB.out.ses, Lib.hid HB.out.own, HST⟩
            case measure => simp [RowKit.intOf]; omega
        · have z0 : (t' == 0) = false := by simpa using h0
          by_cases h1 : t' = 1
          · subst h1
            clear h0 z0
            generalize hst : tot (l.take i) = T at hg
            rcases hg.out with ⟨hup, hsz⟩ | ⟨A', c', L', hf, hl, hr', hne, hcap, hsz⟩ | ⟨hf, hl, hsz⟩
            · have hc := do_reset hs.out ho.out hup 1 s
              simp only [stepO] at hc
              have HC := Lib.hid hc
              have HSZ := Lib.hid (show Fl7.size (ll H) ≤ tot (l.take (i + 1)) by rw [HT.out, hst]; omega)
              clear hc hup hsz hg hst hs ho
              go_wp2_with fail
              refine HC.out.mono ?_
              rintro e w4 ⟨r, D', X', ⟨rfl, hb⟩, ⟨rfl, hup⟩ | ⟨rfl, hf, hl⟩⟩
              · have HST := Lib.hid (Stage.up (w0 := w1) (T := tot (l.take (i + 1))) hup (Nat.zero_le _))
                have HB := Lib.hid hb
                clear hb hup HC
                go_wp2
                go_round
                case rel => exact ⟨i + 1, q, none, 0, [], none, 0, 0, false, D', X', by omega, rfl, rfl, rfl, rfl, by go_num, Lib.hid (HB.out.ses.fewer fun x hx => by obtain ⟨a, ha, _⟩ := hx; cases ha), Lib.hid (own_nil _ _), HST⟩
                case measure => simp [RowKit.intOf]; omega
              · have HST := Lib.hid (Stage.reset (w0 := w1) hf hl HSZ.out)
                have HB := Lib.hid hb
                clear hb hf hl HC
                go_wp2
                go_round
                case rel => exact ⟨i + 1, q, Ah, ch, H, none, 0, 0, true, D', X', by omega, rfl, rfl, rfl, rfl, by go_num, Lib.hid HB.out.ses, Lib.hid HB.out.own, HST⟩
                case measure => simp [RowKit.intOf]; omega
            · have hc := do_reset_down hs.out ho.out hf 1 s
              simp only [stepO] at hc
              have HC := Lib.hid hc
              have HST := Lib.hid (Stage.put (w0 := w1) (T := tot (l.take (i + 1))) A' cm L' hf hl hr' hne hcap (by rw [HT.out, hst]; omega))
              clear hc hf hl hr' hne hcap hsz hg hst hs ho
              go_wp2_with fail
              refine HC.out.mono ?_
              rintro e w4 ⟨rfl, hb⟩
              have HB := Lib.hid hb
              clear hb HC
              go_wp2
              go_round
              case rel => exact ⟨i + 1, q, Ah, ch, H, some A', L'.length, cm, false, D, X, by omega, rfl, rfl, rfl, rfl, by go_num, Lib.hid HB.out.ses, Lib.hid HB.out.own, HST⟩
              case measure => simp [RowKit.intOf]; omega
            · have hc := do_reset_down hs.out ho.out hf 1 s
              simp only [stepO] at hc
              have HC := Lib.hid hc
              have HST := Lib.hid (Stage.reset (w0 := w1) (T := tot (l.take (i + 1))) hf hl (by rw [HT.out, hst]; omega))
              clear hc hf hl hsz hg hst hs ho
              go_wp2_with fail
              refine HC.out.mono ?_
              rintro e w4 ⟨rfl, hb⟩
              have HB := Lib.hid hb
              clear hb HC
              go_wp2
              go_round
              case rel => exact ⟨i + 1, q, Ah, ch, H, none, 0, 0, true, D, X, by omega, rfl, rfl, rfl, rfl, by go_num, Lib.hid HB.out.ses, Lib.hid HB.out.own, HST⟩
              case measure => simp [RowKit.intOf]; omega
          · have z1 : (t' == 1) = false := by simpa using h1
            by_cases h3 : t' = 3
            · subst h3
              clear h0 h1 z0 z1
              have hc := do_fault hs.out ho.out 3 s
              have hf := do_fuse hs.out ho.out 3 s s.n HK.out.n.2
              have hb0 := boxed hs.out ho.out 3 s
              simp only [stepO] at hc hf
              generalize hst : tot (l.take i) = T at hg
              rcases hg.out with ⟨hup, hsz⟩ | ⟨A', c', L', hfa, hl, hr', hne, hcap, hsz⟩ | ⟨hfa, hl, hsz⟩
              · rw [hup.fault] at hc
                have HC := Lib.hid hc
                have HF := Lib.hid hf
                have HST := Lib.hid (Stage.up (w0 := w1) (T := tot (l.take (i + 1))) (up_fuse hup s.n) (by rw [HT.out, hst]; omega))
                clear hc hf hup hsz hg hst hs ho hb0
                go_wp2_with fail
                refine HC.out.mono ?_
                rintro e w4 ⟨rfl, rfl⟩
                go_wp2_with fail
                refine HF.out.mono ?_
                rintro e w4 ⟨rfl, hb⟩
                have HB := Lib.hid hb
                clear hb HC HF
                go_wp2
                go_round
                case rel => exact ⟨i + 1, q, Ah, ch, H, none, 0, 0, false, _, X, by omega, rfl, rfl, rfl, rfl, by go_num, Lib.hid HB.out.ses, Lib.hid HB.out.own, HST⟩
                case measure => simp [RowKit.intOf]; omega
              · rw [hfa] at hc
                have HC := Lib.hid hc
                have HST := Lib.hid (Stage.put (w0 := w1) (T := tot (l.take (i + 1))) A' cm L' hfa hl hr' hne hcap (by rw [HT.out, hst]; omega))
                have HB := Lib.hid hb0
                clear hc hf hl hr' hne hcap hsz hg hst hs ho hfa hb0
                go_wp2_with fail
                refine HC.out.mono ?_
                rintro e w4 ⟨rfl, rfl⟩
                go_wp2
                go_round
                case rel => exact ⟨i + 1, q, Ah, ch, H, some A', L'.length, cm, false, D, X, by omega, rfl, rfl, rfl, rfl, by go_num, Lib.hid HB.out.ses, Lib.hid HB.out.own, HST⟩
                case measure => simp [RowKit.intOf]; omega
              · rw [hfa] at hc
                have HC := Lib.hid hc
                have HST := Lib.hid (Stage.reset (w0 := w1) (T := tot (l.take (i + 1))) hfa hl (by rw [HT.out, hst]; omega))
                have HB := Lib.hid hb0
                clear hc hf hl hsz hg hst hs ho hfa hb0
                go_wp2_with fail
                refine HC.out.mono ?_
                rintro e w4 ⟨rfl, rfl⟩
                go_wp2
                go_round
                case rel => exact ⟨i + 1, q, Ah, ch, H, none, 0, 0, true, D, X, by omega, rfl, rfl, rfl, rfl, by go_num, Lib.hid HB.out.ses, Lib.hid HB.out.own, HST⟩
                case measure => simp [RowKit.intOf]; omega
            · have z3 : (t' == 3) = false := by simpa using h3
              by_cases h4 : t' = 4
              · subst h4
                clear h0 h1 h3 z0 z1 z3
                have hcr := do_crash hs.out ho.out 4 s s.n s.m HK.out.n HK.out.m.2 (stage_loose hg.out)
                obtain ⟨P, hP⟩ := stage_crash hg.out s.n s.m
                have hTi : tot (l.take i) ≤ 32768 := by have := tot_le l i; omega
                have hTi2 : tot (l.take i) ≤ tot (l.take (i + 1)) := by rw [HT.out]; omega
                generalize tot (l.take i) = T at hP hTi hTi2
                obtain ⟨D4, hD4⟩ : ∃ D4, D4 = stCrash D s.n s.m := ⟨_, rfl⟩
                rw [← hD4] at hcr hP
                simp only [stepO] at hcr
                have HC := Lib.hid hcr
                have HP := Lib.hid hP
                have HTI := Lib.hid (And.intro hTi hTi2)
                clear hcr hP hs ho hg hD4 hTi hTi2
                go_wp2_with fail
                refine HC.out.mono ?_
                rintro e w4 ⟨rfl, hb⟩
                have HO := Lib.hid (do_open hb HP.out HTI.out.1)
                clear hb HC
                go_wp2_with fail
                refine HO.out.mono ?_
                rintro e w5 ⟨q', M, A2, c2, D', X', rfl, hM, hblk, hcnt, hup, hsz, hses, hown2, hown1⟩
                have hL := len_any hblk
                rw [hcnt] at hL
                have HL := Lib.hid hL
                have HST := Lib.hid (Stage.up (w0 := w1) (T := tot (l.take (i + 1))) hup (Nat.le_trans hsz HTI.out.2))
                have HSE := Lib.hid hses
                have HO2 := Lib.hid hown2
                have HO1 := Lib.hid hown1
                have HM := Lib.hid hM
                clear hL hup hsz hses hown2 hown1 hblk hcnt HO hM
                go_wp2_with fail
                refine HL.out.mono ?_
                rintro e w6 ⟨rfl, rfl⟩
                clear HL
                by_cases hno : R = true ∧ M = []
                · obtain ⟨rfl, rfl⟩ := hno
                  simp only [List.length_nil]
                  go_wp2
                  go_round
                  case rel => exact ⟨i + 1, q', A2, c2, [], none, 0, 0, false, D', X', by omega, rfl, rfl, rfl, rfl, by go_num, HSE, HO2, HST⟩
                  case measure => simp [RowKit.intOf]; omega
                · have hM2 : M.take H.length = H ∧ ∃ j, M.drop H.length = P.take j := by
                    rcases HM.out with h | h
                    · exact h
                    · exact absurd h hno
                  have hb1 := begins_any w6 Ah A2 ch c2 H M HO1.out.reads HO2.out.reads hM2.1 (by have := len_size M; have := HST.out; cases HST.out with | up h hs => omega) (OwnT.cap HO2.out).1
                  have hNK : H.length ≤ M.length := by
                    have := congrArg List.length hM2.1
                    rw [List.length_take] at this
                    omega
                  have hKc := (OwnT.cap HO2.out).1
                  have hcm := (OwnT.cap HO2.out).2
                  have hrP : ∀ W, Below w6.heap.size w6 W → Rds W Am P := fun W hW => by
                    obtain ⟨S, hS⟩ := HSE.out
                    exact HP.out.reads.keep (Nat.le_refl _) (hS.below.trans (hW.mono hS.below.size))
                  have hPl : P.length ≤ 140737488351232 := by
                    have h1 := len_size (H ++ P)
                    have h2 := HP.out.size
                    have h3 := HTI.out.1
                    rw [List.length_append] at h1
                    omega
                  obtain ⟨jj, hjj⟩ := hM2.2
                  have hRM : R = true → M.length ≠ 0 := fun h1 h2 => hno ⟨h1, List.length_eq_zero_iff.1 h2⟩
                  have hnm := HP.out.len
                  subst hnm
                  have hPc := HP.out.cap
                  have HB1 := Lib.hid hb1
                  have HBW : Hid (∀ W, Below w6.heap.size w6 W → RelW w1 p l (.pointer (some ⟨q', 0, none⟩)) (.slice A2 M.length c2) (.slice none 0 0) (.bool false) (.int .i64 ((i : Int) + 1)) W) := Lib.hid fun W hW =>
                    ⟨i + 1, q', A2, c2, M, none, 0, 0, false, D', X', by omega, rfl, rfl, rfl, rfl, by go_num, Lib.hid (HSE.out.below hW), Lib.hid (OwnT.keep HO2.out (Nat.le_refl _) fun x hx => hW.block x (OwnT.block HO2.out x hx).2), HST⟩
                  unfold maxLen at hcm
                  rcases HO2.out.2 with ⟨h1, h2⟩ | ⟨g, cap', cur, h1, _⟩
                  · simp only [Value.slice.injEq] at h1
                    obtain ⟨rfl, hM0, rfl⟩ := h1
                    obtain rfl : M = [] := List.length_eq_zero_iff.1 hM0
                    obtain rfl : H = [] := List.length_eq_zero_iff.1 (by omega)
                    have hb2 : ∀ W, Below w6.heap.size w6 W → Calls Try.prog 14 #[.slice none 0 0, .slice Am P.length cm] W fun e w' => e = .returned (.bool true) ∧ Below W.heap.size W w' := fun W hW =>
                      begins_any W none Am 0 cm [] P (Rds.nil _ _) (hrP W hW) rfl hPl hPc
                    have HB2 := Lib.hid hb2
                    cases R with
                    | true => exact absurd rfl (hRM rfl)
                    | false =>
                      simp only [List.length_nil] at HB1 HBW ⊢
                      clear hb1 hb2 hrP hjj hM2 hno hRM h2
                      go_wp2_with fail
                      refine HB1.out.mono ?_
                      rintro e w7 ⟨rfl, hw7⟩
                      have HW7 := Lib.hid hw7
                      clear hw7
                      go_wp2_with fail
                      refine (HB2.out _ HW7.out).mono ?_
                      rintro e w8 ⟨rfl, hw8⟩
                      have HW8 := Lib.hid (HW7.out.trans (hw8.mono HW7.out.size))
                      clear hw8
                      go_wp2
                      go_round
                      case rel => exact HBW.out _ HW8.out
                      case measure => simp [RowKit.intOf]; omega
                  · simp only [Value.slice.injEq] at h1
                    obtain ⟨rfl, _, rfl⟩ := h1
                    have hz2 : (H.length : Int) ≤ (M.length : Int) := by omega
                    have hz3 : (M.length : Int) ≤ (c2 : Int) := by omega
                    have hz4 : (0 : Int) ≤ (H.length : Int) := by omega
                    have hz5 : (H.length : Int) ≤ (c2 : Int) := by omega
                    by_cases hcN : c2 = H.length
                    · obtain rfl : M = H := by
                        have h3 := hM2.1
                        rw [List.take_of_length_le (by omega)] at h3
                        exact h3
                      subst hcN
                      have hb2 : ∀ W, Below w6.heap.size w6 W → Calls Try.prog 14 #[.slice (some ⟨g, 0, none⟩) 0 0, .slice Am P.length cm] W fun e w' => e = .returned (.bool true) ∧ Below W.heap.size W w' := fun W hW =>
                        begins_any W (some ⟨g, 0, none⟩) Am 0 cm [] P (Rds.nil _ _) (hrP W hW) rfl hPl hPc
                      have HB2 := Lib.hid hb2
                      cases R with
                      | true =>
                        have hK1 := hRM rfl
                        have hK0 : ((M.length : Int) == 0) = false := by rw [beq_eq_false_iff_ne]; omega
                        clear hb1 hb2 hrP hjj hM2 hno hRM
                        go_wp2_with fail
                        refine HB1.out.mono ?_
                        rintro e w7 ⟨rfl, hw7⟩
                        have HW7 := Lib.hid hw7
                        clear hw7
                        go_wp2_with fail
                        refine (HB2.out _ HW7.out).mono ?_
                        rintro e w8 ⟨rfl, hw8⟩
                        have HW8 := Lib.hid (HW7.out.trans (hw8.mono HW7.out.size))
                        clear hw8
                        go_wp2
                        go_round
                        case rel => exact HBW.out _ HW8.out
                        case measure => simp [RowKit.intOf]; omega
                      | false =>
                        clear hb1 hb2 hrP hjj hM2 hno hRM
                        go_wp2_with fail
                        refine HB1.out.mono ?_
                        rintro e w7 ⟨rfl, hw7⟩
                        have HW7 := Lib.hid hw7
                        clear hw7
                        go_wp2_with fail
                        refine (HB2.out _ HW7.out).mono ?_
                        rintro e w8 ⟨rfl, hw8⟩
                        have HW8 := Lib.hid (HW7.out.trans (hw8.mono HW7.out.size))
                        clear hw8
                        go_wp2
                        go_round
                        case rel => exact HBW.out _ HW8.out
                        case measure => simp [RowKit.intOf]; omega
                    · have hb2 : ∀ W, Below w6.heap.size w6 W → Calls Try.prog 14 #[.slice (some ⟨g, H.length, none⟩) (M.length - H.length) (c2 - H.length), .slice Am P.length cm] W fun e w' => e = .returned (.bool true) ∧ Below W.heap.size W w' := fun W hW => by
                        have h3 := begins_any W (some ⟨g, H.length, none⟩) Am (c2 - H.length) cm (M.drop H.length) P (rds_drop ((OwnT.reads HO2.out).keep (Nat.le_refl _) hW) H.length) (hrP W hW) (take_drop hjj) hPl hPc
                        rwa [List.length_drop] at h3
                      have HB2 := Lib.hid hb2
                      have hoc : ¬ c2 - H.length = 0 := by omega
                      clear hcN
                      cases R with
                      | true =>
                        have hK1 := hRM rfl
                        have hK0 : ((M.length : Int) == 0) = false := by rw [beq_eq_false_iff_ne]; omega
                        clear hb1 hb2 hrP hjj hM2 hno hRM
                        go_wp2_with fail
                        refine HB1.out.mono ?_
                        rintro e w7 ⟨rfl, hw7⟩
                        have HW7 := Lib.hid hw7
                        clear hw7
                        go_wp2_with fail
                        refine (HB2.out _ HW7.out).mono ?_
                        rintro e w8 ⟨rfl, hw8⟩
                        have HW8 := Lib.hid (HW7.out.trans (hw8.mono HW7.out.size))
                        clear hw8
                        go_wp2
                        go_round
                        case rel => exact HBW.out _ HW8.out
                        case measure => simp [RowKit.intOf]; omega
                      | false =>
                        clear hb1 hb2 hrP hjj hM2 hno hRM
                        go_wp2_with fail
                        refine HB1.out.mono ?_
                        rintro e w7 ⟨rfl, hw7⟩
                        have HW7 := Lib.hid hw7
                        clear hw7
                        go_wp2_with fail
                        refine (HB2.out _ HW7.out).mono ?_
                        rintro e w8 ⟨rfl, hw8⟩
                        have HW8 := Lib.hid (HW7.out.trans (hw8.mono HW7.out.size))
                        clear hw8
                        go_wp2
                        go_round
                        case rel => exact HBW.out _ HW8.out
                        case measure => simp [RowKit.intOf]; omega
              · have z4 : (t' == 4) = false := by simpa using h4
                have HB := Lib.hid (boxed hs.out ho.out t' s)
                have HST := Lib.hid (hg.out.more (T' := tot (l.take (i + 1))) (by rw [HT.out]; omega))
                clear h0 h1 h3 h4 hs ho hg
                go_wp2
                go_round
                case rel => exact ⟨i + 1, q, Ah, ch, H, Am, nm, cm, R, D, X, by omega, rfl, rfl, rfl, rfl, by go_num, Lib.hid HB.out.ses, Lib.hid HB.out.own, HST⟩
                case measure => simp [RowKit.intOf]; omega
      · obtain rfl : i = l.length := by omega
        clear hlt
        go_wp2_with fail
        refine (HA.out _).mono ?_
        rintro e w2 ⟨rfl, hb⟩
        have HB := Lib.hid hb
        clear hb
        go_wp2
        go_ret
        obtain ⟨S, hS⟩ := hs.out
        exact ⟨rfl, hS.below.trans (HB.out.mono hS.below.size)⟩
end Go.Proofs.Ytbjemekkpmbhhaa.Cw8
