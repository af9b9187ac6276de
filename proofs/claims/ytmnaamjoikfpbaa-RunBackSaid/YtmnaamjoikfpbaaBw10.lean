/- RunBack's walk. -/
import Derived.Test.YtmnaamjoikfpbaaSw10
namespace Go.Proofs.Ytmnaamjoikfpbaa.Bw10
open Go Go.RowKit Go.Proofs.Ytmnaamjoikfpbaa.Dh Go.Proofs.Ytmnaamjoikfpbaa.Nm Go.Proofs.Ytmnaamjoikfpbaa.St Go.Proofs.Ytmnaamjoikfpbaa.Fl7 Go.Proofs.Ytmnaamjoikfpbaa.Pm9 Go.Proofs.Ytmnaamjoikfpbaa.Mt9 Go.Proofs.Ytmnaamjoikfpbaa.Mg9 Go.Proofs.Ytmnaamjoikfpbaa.Rd9 Go.Proofs.Ytmnaamjoikfpbaa.Rg9 Go.Proofs.Ytmnaamjoikfpbaa.Fd10 Go.Proofs.Ytmnaamjoikfpbaa.So10 Go.Proofs.Ytmnaamjoikfpbaa.Sz10 Go.Proofs.Ytmnaamjoikfpbaa.On10 Go.Proofs.Ytmnaamjoikfpbaa.Re10 Go.Proofs.Ytmnaamjoikfpbaa.Ge10 Go.Proofs.Ytmnaamjoikfpbaa.Sn10 Go.Proofs.Ytmnaamjoikfpbaa.Ly10 Go.Proofs.Ytmnaamjoikfpbaa.Av10 Go.Proofs.Ytmnaamjoikfpbaa.Sw10 Go.Proofs.Ytmnaamjoikfpbaa.Op9
theorem fine_small {m : List Pr} (h : Small m) : Fine m := ⟨by have := h.len; omega, fits_of h.may⟩
set_option maxRecDepth 40000 in
set_option maxHeartbeats 8000000 in
theorem walk_of (w : World) (A : Option Addr) (c : Nat) (L : List Pr) (hL : PairsAt w A L) (key a b : ByteArray) (hk : key.size ≤ 140737488351232) (ha : a.size ≤ 140737488351232) (hb : b.size ≤ 140737488351232) (most : Int) :
    Calls Try.prog 3 #[.slice A L.length c, .string key, .string a, .string b, .int .i64 most] w fun e w' => e = .returned (.bool true) ∧ Below w.heap.size w w' := by
  have HLg := Lib.hid (La9.large_any w A c L hL.reads hL.len hL.text)
  have HP := Lib.hid hL
  obtain ⟨N0, hN0⟩ : ∃ N0, N0 = L.length := ⟨_, rfl⟩
  have HN0 := Lib.hid hN0
  rw [← hN0] at HLg ⊢
  clear hL hN0
  go_enter Try.func3, Try.ntmps3
  go_wp2_with fail
  refine HLg.out.mono ?_
  rintro e w1 ⟨r, rfl, hr, hb1⟩
  have HB1 := Lib.hid hb1
  cases r
  · by_cases hsum : (key.size : Int) + (a.size : Int) + (b.size : Int) > 4096
    · clear hr HLg hb1
      go_wp2_with fail
      refine (alive_any _).mono ?_
      rintro e w2 ⟨rfl, hb3⟩
      go_wp2
      go_ret
      exact ⟨rfl, HB1.out.trans (hb3.mono HB1.out.size)⟩
    · obtain ⟨hr1, hr2⟩ := hr rfl
      have hsm := small_of (L := L) (by rw [← HN0.out]; exact hr1) hr2
      obtain ⟨m, hm⟩ : ∃ m, m = Fd10.sorted L := ⟨_, rfl⟩
      have hso := Sd10.sorted_any w1 A c L (HP.out.reads.keep (Nat.le_refl _) hb1) (by rw [← HN0.out]; omega) HP.out.text
      rw [← hm] at hso hsm
      rw [← HN0.out] at hso
      have HSO := Lib.hid hso
      have HSM := Lib.hid hsm
      clear hr hr1 hr2 hsm hm hso hb1 HLg HP
      go_wp2_with fail
      refine HSO.out.mono ?_
      rintro e w2a ⟨⟨A2, c2, rfl, hrda⟩, hb2'⟩
      obtain ⟨N, hN⟩ : ∃ N, N = m.length := ⟨_, rfl⟩
      have HNm := Lib.hid hN
      rw [← hN]
      obtain ⟨w2, hw2⟩ : ∃ w2, w2 = w2a.alloc (.cells #[.slice A2 N c2] 28) := ⟨_, rfl⟩
      have hb2a : Below w2a.heap.size w2a w2 := by rw [hw2]; exact (Below.refl _ _).alloc (Nat.le_refl _) _
      have href : RefAt w2 w2a.heap.size A2 c2 m := ⟨by rw [hw2, ← hN]; exact heap_new _ _, hrda.keep (Nat.le_refl _) hb2a⟩
      have HN := Lib.hid (Nw.new_any w2 262144 (by decide) (by decide))
      have HR2 := Lib.hid href
      have HB2 := Lib.hid (HB1.out.trans ((hb2'.trans (hb2a.mono hb2'.size)).mono HB1.out.size))
      have HW2 := Lib.hid hw2
      clear hrda hb2' hN HSO hb2a href hw2
      go_wp2_with fail
      rw [← HW2.out]
      refine HN.out.mono ?_
      rintro e w3 ⟨p, rfl, hb3, hF3⟩
      have href3 := HR2.out.keep (Nat.le_refl _) hb3
      have hwr := write_D0 (n := 262144) hF3 nmR (by unfold maxLen; decide) nm_r A2 c2 m href3.reads (by have := HSM.out.len; omega) HSM.out.sorted HSM.out.may (by have := HSM.out.bytes; omega)
      rw [← HNm.out] at hwr
      have HWR : Hid (Calls Try.prog 10 #[.pointer (some ⟨p, 0, none⟩), .string ⟨#[114]⟩, .slice A2 N c2] w3 fun e w' => e = .returned (.int .i64 0) ∧ To (fun b => w2.heap.size ≤ b ∧ b < w3.heap.size) w3 w' p (D1 262144 nmR (rb m))) := Lib.hid hwr
      have HB3 := Lib.hid hb3
      have d0 := cell_of href3.ref 0
      rw [← HNm.out] at d0
      clear hb3 hF3 href3 hwr HN
      go_wp2_with fail
      refine HWR.out.mono ?_
      rintro e w4 ⟨rfl, ht4⟩
      have hB4 : Below w2.heap.size w2 w4 := Ly10.to_below ht4 HB3.out fun b hb => hb.1
      have hrdD := read_D1 262144 nmR (rb m) nm_r (by have := HSM.out.bytes; omega)
      have hop := open_ok ht4.2 nmR (by unfold maxLen; decide) m hrdD (by have := HSM.out.len; omega) (by have := HSM.out.bytes; omega) HSM.out.sorted HSM.out.may
      have HOP : Hid (Calls Try.prog 12 #[.pointer (some ⟨p, 0, none⟩), .string ⟨#[114]⟩] w4 fun e w' => (∃ q A c, e = .returned (.tuple #[.pointer (some ⟨q, 0, none⟩), .int .i64 0]) ∧ RunAt w' w4.heap.size q p nmR m A c) ∧ Below w4.heap.size w4 w') := Lib.hid hop
      have HLo := Lib.hid (Sy.loose_any ht4.2 (by show (0 : Nat) ≤ _; omega))
      have HF4 := Lib.hid (file_D1 ht4.2 (by unfold maxLen; decide) nm_r)
      have HB4 := Lib.hid hB4
      have HLo2 : Hid (Calls Try.prog 11 #[.pointer (some ⟨p, 0, none⟩)] w4 fun e w' => e = .returned (.int .i64 0) ∧ w' = w4) := HLo
      clear ht4 hB4 hrdD hop HWR d0
      go_wp2_with (first
        | (go_at_call 11; refine HLo2.out.mono ?_; rintro e wU ⟨rfl, hwU⟩; rw [hwU]; clear hwU wU)
        | fail)
      clear hsum
      refine HOP.out.mono ?_
      rintro e w5 ⟨⟨q, Ar, cr, rfl, hrun5⟩, hb5⟩
      have hB5 := HB4.out.trans (hb5.mono HB4.out.size)
      have hf5 := HF4.out.below hb5
      have hU := Sy.used_any hf5.full
      obtain ⟨Z, hZ⟩ : ∃ Z, Z = (rb m).length := ⟨_, rfl⟩
      have hu : Fm.used (D1 262144 nmR (rb m)).now = Z := by rw [hZ]; simp [D1, Fm.used]
      rw [hu] at hU
      have hSz := On10.size_any hrun5
      have hLn := On10.len_any hrun5
      rw [← hZ] at hSz
      rw [← HNm.out] at hLn
      have HK : Hid (∀ V, Below w5.heap.size w5 V → RunAt V w4.heap.size q p nmR m Ar cr ∧ FileAt V (grow (fun b => w2.heap.size ≤ b ∧ b < w3.heap.size) w3 w4) p (D1 262144 nmR (rb m)) nmR (rb m) ∧ RefAt V w2a.heap.size A2 c2 m ∧ V.cell? ⟨w2a.heap.size, 0, none⟩ = some (.slice A2 N c2)) := Lib.hid fun V hV => by
        have hr := HR2.out.keep (Nat.le_refl _) (hB5.trans (hV.mono hB5.size))
        have c0 := cell_of hr.ref 0
        rw [← HNm.out] at c0
        exact ⟨hrun5.below hV, hf5.below hV, hr, c0⟩
      have HU := Lib.hid hU
      have HSZ := Lib.hid hSz
      have HLN := Lib.hid hLn
      have HB5 := Lib.hid hB5
      have HX0 : Hid (Below w5.heap.size w5 w5.drew) := Lib.hid (Below.refl _ _).drew
      have hN200 : N ≤ 200 := by rw [HNm.out]; exact HSM.out.len
      have hFs := fine_small HSM.out
      have HFs := Lib.hid hFs
      have d0 := (HK.out w5 (Below.refl _ _)).2.2.2
      have HU2 : Hid (Calls Try.prog 15 #[.pointer (some ⟨p, 0, none⟩)] w5.drew fun e w' => e = .returned (.int .i64 (Z : Int)) ∧ w' = w5.drew) := Lib.hid (by have := Sy.used_any (hf5.below (Below.refl w5.heap.size w5).drew).full; rw [hu] at this; exact this)
      have HS2 : Hid (Calls Try.prog 14 #[.pointer (some ⟨q, 0, none⟩)] w5.drew fun e w' => e = .returned (.int .i64 (Z : Int)) ∧ w' = w5.drew) := Lib.hid (by have := On10.size_any (hrun5.below (Below.refl w5.heap.size w5).drew); rw [← hZ] at this; exact this)
      have HL2 : Hid (Calls Try.prog 13 #[.pointer (some ⟨q, 0, none⟩)] w5.drew fun e w' => e = .returned (.int .i64 (N : Int)) ∧ w' = w5.drew) := Lib.hid (by have := On10.len_any (hrun5.below (Below.refl w5.heap.size w5).drew); rw [← HNm.out] at this; exact this)
      obtain ⟨WD, hWD⟩ : ∃ WD, WD = w5.drew := ⟨_, rfl⟩
      rw [← hWD] at HU2 HS2 HL2
      have HWD := Lib.hid hWD
      clear hrun5 hb5 hB5 hf5 hU hu hZ hSz hLn hFs HOP HLo HLo2 HF4 HU HSZ HLN hWD
      go_wp2
      go_region_held3 (fun V => V.cell? ⟨w2a.heap.size, 0, none⟩ = some (.slice A2 N c2)) (first | exact (HK.out _ (Hid.out (by assumption))).2.2.2 | go_keep) (first
        | (go_at_call 13; rw [← HWD.out]; (with_reducible refine HL2.out.mono ?_); rintro e wU ⟨rfl, hwU⟩; rw [hwU, HWD.out]; clear hwU wU)
        | (go_at_call 14; rw [← HWD.out]; (with_reducible refine HS2.out.mono ?_); rintro e wU ⟨rfl, hwU⟩; rw [hwU, HWD.out]; clear hwU wU)
        | (go_at_call 15; rw [← HWD.out]; (with_reducible refine HU2.out.mono ?_); rintro e wU ⟨rfl, hwU⟩; rw [hwU, HWD.out]; clear hwU wU))
      go_wp2
      go_loopw [16, 17, 18, 19, 97, 98, 99, 100, 101, 102, 103, 104, 105, 106, 107, 108, 109, 110, 111, 112, 113, 114, 115, 116, 117, 118, 119, 120, 121, 122, 123, 124, 125, 126, 127, 128, 129, 130, 131, 132, 133, 134, 135, 136] (fun i _ _ _ _ _ _ _ _ _ _ _ _ _ _ _ _ _ _ _ _ _ _ _ _ _ _ _ _ _ _ _ _ _ _ _ _ _ _ _ _ _ _ _ wr => ∃ (k : Nat), k ≤ N ∧ i = .int .i64 k ∧ Hid (Below w5.heap.size w5 wr)) (fun i _ _ _ _ _ _ _ _ _ _ _ _ _ _ _ _ _ _ _ _ _ _ _ _ _ _ _ _ _ _ _ _ _ _ _ _ _ _ _ _ _ _ _ _ => N - (intOf i).toNat)
      case atStart => exact ⟨0, by omega, rfl, Lib.hid (Below.refl _ _).drew⟩
      case round =>
        obtain ⟨k, hk, rfl, hB⟩ := hrel
        by_cases hlt : k < N
        · have hil : k < m.length := by rw [← HNm.out]; exact hlt
          obtain ⟨hrun, hfil, href, d0⟩ := HK.out wr hB.out
          have hrd := href.reads
          obtain ⟨b', o', rfl, p0, p1, p2⟩ := hrd.at_ hil
          have hget := Ge10.get_some hrun hfil (by have := HSM.out.bytes; omega) (by have := HSM.out.len; omega) HSM.out.sorted k hil (HSM.out.may _ (List.getElem_mem hil))
          rw [got_fine hil (fine_rb m k hil)] at hget
          have hcl : ∀ V, Below wr.heap.size wr V → V.cell? ⟨b', o' + k * 3, none⟩ = some (.string m[k].k) ∧ V.cell? ⟨b', o' + k * 3 + 1, none⟩ = some (.string m[k].v) ∧ V.cell? ⟨b', o' + k * 3 + 2, none⟩ = some (.bool m[k].g) ∧ V.cell? ⟨w2a.heap.size, 0, none⟩ = some (.slice (some ⟨b', o', none⟩) N c2) := fun V hV => by
            obtain ⟨b2, o2, he, x0, x1, x2⟩ := (hrd.keep (Nat.le_refl _) hV).at_ hil
            cases he
            exact ⟨x0, x1, x2, (HK.out V (hB.out.trans (hV.mono hB.out.size))).2.2.2⟩
          obtain ⟨x, hx⟩ : ∃ x, x = m[k] := ⟨_, rfl⟩
          rw [← hx] at p0 p1 p2 hget hcl
          obtain ⟨xk, xv, xg⟩ := x
          dsimp only at p0 p1 p2 hcl
          have HCL := Lib.hid hcl
          have HG : Hid (Calls Try.prog 16 #[.pointer (some ⟨q, 0, none⟩), .string xk] wr fun e w' => e = .returned (.tuple #[.agg #[.string xk, .string xv, .bool xg], .bool true, .int .i64 0]) ∧ Below wr.heap.size wr w') := Lib.hid hget
          have hne : ∀ V : World, (binOp .neq 39 (.agg #[.string xk, .string xv, .bool xg]) (.agg #[.string xk, .string xv, .bool xg])).run Try.prog V = .ok (.bool false) V := fun V => by rw [run_ne, eqP_iff.2 rfl]; rfl
          clear hget hx hcl hrun hfil hrd hil href
          go_wp2_with fail
          refine HG.out.mono ?_
          rintro e w8 ⟨rfl, hb8⟩
          obtain ⟨W9, hW9⟩ : ∃ W9, W9 = w8.alloc (.cells #[.string xk, .string xv, .bool xg] 39) := ⟨_, rfl⟩
          have hb9 : Below wr.heap.size wr W9 := by rw [hW9]; exact hb8.alloc hb8.size _
          obtain ⟨y0, y1, y2, y3⟩ := HCL.out W9 hb9
          have hnw : W9.heap[w8.heap.size]? = some (pairO ⟨xk, xv, xg⟩) := by rw [hW9]; exact Wd9.heap_new w8 _
          have z0 := cell_of hnw 0
          have z1 := cell_of hnw 1
          have z2 := cell_of hnw 2
          rw [hW9] at y0 y1 y2 y3 z0 z1 z2
          have HB9 := Lib.hid (hB.out.trans (hb9.mono hB.out.size))
          have HW9 := Lib.hid hW9
          clear hb8 hb9 hnw hW9 p0 p1 p2 d0
          go_wp2
          go_quiet (fail)
          go_wp2
          exact ⟨⟨k + 1, by omega, by go_num, Lib.hid (Rq9.below_dn (by rw [← HW9.out]; exact HB9.out) _)⟩, by simp [intOf]; omega⟩
        · obtain rfl : k = N := by omega
          obtain ⟨hrun, hfil, href, d0⟩ := HK.out wr hB.out
          have hget := get_back hrun hfil (by have := HSM.out.bytes; omega) (by have := HSM.out.len; omega) HSM.out.sorted HSM.out.may key
          obtain ⟨x, hx⟩ : ∃ x, x = (Pm9.get key m).getD zp := ⟨_, rfl⟩
          obtain ⟨u, hu⟩ : ∃ u, u = (Pm9.get key m).isSome := ⟨_, rfl⟩
          rw [← hx, ← hu] at hget
          have HGT : Hid (∀ V, Below w5.heap.size w5 V → Calls Try.prog 17 #[.pointer (some ⟨w2a.heap.size, 0, none⟩), .string key] V fun e w' => e = .returned (.tuple #[.agg #[.string x.k, .string x.v, .bool x.g], .bool u]) ∧ Below V.heap.size V w') := Lib.hid fun V hV => by
            have := Rg9.rget_any (HK.out V hV).2.2.1 HFs.out key
            rw [gotV, ← hx, ← hu] at this
            exact this
          obtain ⟨G, hG⟩ : ∃ G, G = Pm9.scan a b most m := ⟨_, rfl⟩
          have HG1 : Hid (∀ V, Below w5.heap.size w5 V → Calls Try.prog 18 #[.pointer (some ⟨q, 0, none⟩), .string a, .string b, .int .i64 most] V fun e w' => (∃ A c, e = .returned (.tuple #[.slice A G.length c, .int .i64 0]) ∧ Reads w' A G) ∧ Below V.heap.size V w') := Lib.hid fun V hV => by
            obtain ⟨r1, r2, _, _⟩ := HK.out V hV
            have := scan_back r1 r2 (by have := HSM.out.bytes; omega) (by have := HSM.out.len; omega) HSM.out.sorted HSM.out.may a b most
            rw [← hG] at this
            exact this.mono fun e w' ⟨A, c, h1, h2, h3⟩ => ⟨⟨A, c, h1, reads_of_own h2⟩, h3⟩
          have HG2 : Hid (∀ V, Below w5.heap.size w5 V → Calls Try.prog 20 #[.pointer (some ⟨w2a.heap.size, 0, none⟩), .string a, .string b, .int .i64 most] V fun e w' => (∃ A c, e = .returned (.slice A G.length c) ∧ Reads w' A G) ∧ Below V.heap.size V w') := Lib.hid fun V hV => by
            have := Rp9.rscan_any (HK.out V hV).2.2.1 HFs.out a b ha hb most
            rw [← hG] at this
            exact this.mono fun e w' ⟨A, c, h1, h2, h3⟩ => ⟨⟨A, c, h1, reads_of_own h2⟩, h3⟩
          have hGl : G.length ≤ 140737488351232 := by
            have h1 : G.length ≤ m.length := by rw [hG, scan_piece HSM.out.sorted, List.length_take, List.length_drop]; omega
            have := HSM.out.len; omega
          have HGL := Lib.hid hGl
          have HGG : Hid (Calls Try.prog 16 #[.pointer (some ⟨q, 0, none⟩), .string key] wr fun e w' => e = .returned (.tuple #[.agg #[.string x.k, .string x.v, .bool x.g], .bool u, .int .i64 0]) ∧ Below wr.heap.size wr w') := Lib.hid hget
          clear hget hx hu hG hGl hrun hfil href
          obtain ⟨xk, xv, xg⟩ := x
          dsimp only at HGT HGG
          go_wp2_with fail
          clear d0
          refine HGG.out.mono ?_
          rintro e w8 ⟨rfl, hb8⟩
          have hb9 := hB.out.trans ((hb8.alloc hb8.size (.cells #[.string xk, .string xv, .bool xg] 39)).mono hB.out.size)
          have HB9 := Lib.hid hb9
          have HT9 := Lib.hid (HGT.out _ hb9)
          clear hb8 hb9
          go_wp2_with fail
          refine HT9.out.mono ?_
          rintro e w10 ⟨rfl, hb10⟩
          have hb11 := HB9.out.trans ((hb10.alloc hb10.size (.cells #[.string xk, .string xv, .bool xg] 39)).mono HB9.out.size)
          have HB11 := Lib.hid hb11
          have HS1 := Lib.hid (HG1.out _ hb11)
          clear hb10 hb11
          go_wp2_with fail
          refine HS1.out.mono ?_
          rintro e w12 ⟨⟨A12, c12, rfl, hr12⟩, hb12⟩
          have hb13 := HB11.out.trans (hb12.mono HB11.out.size)
          have HB13 := Lib.hid hb13
          have HS2 := Lib.hid (HG2.out _ hb13)
          have HR12 := Lib.hid hr12
          obtain ⟨Gn, hGn⟩ : ∃ Gn, Gn = G.length := ⟨_, rfl⟩
          have HGn := Lib.hid hGn
          rw [← hGn] at HS2 ⊢
          clear hb12 hb13 hr12 hGn
          have huu : (u == u) = true := by simp
          go_wp2_with fail
          refine HS2.out.mono ?_
          rintro e w14 ⟨⟨A14, c14, rfl, hr14⟩, hb14⟩
          have hb15 := HB13.out.trans (hb14.mono HB13.out.size)
          have HB15 := Lib.hid hb15
          have hsame := same_any w14 A12 A14 c12 c14 G G (HR12.out.keep (Nat.le_refl _) hb14) hr14 HGL.out
          rw [same_iff.2 rfl, ← HGn.out] at hsame
          have HSA := Lib.hid hsame
          clear hb14 hb15 hr14 hsame
          go_wp2_with fail
          refine HSA.out.mono ?_
          rintro e wS ⟨rfl, hbS⟩
          have HBS := Lib.hid (HB15.out.trans (hbS.mono HB15.out.size))
          have HAV := Lib.hid (alive_any wS)
          clear hbS
          go_wp2_with (go_at_call 7; refine HAV.out.mono ?_; rintro e w16 ⟨rfl, hb16⟩; have HB16 := Lib.hid (HBS.out.trans (hb16.mono HBS.out.size)); clear hb16)
          go_ret
          exact ⟨rfl, HB2.out.trans ((HB5.out.trans (HB16.out.mono HB5.out.size)).mono HB2.out.size)⟩
  · go_wp2_with fail
    refine (alive_any _).mono ?_
    rintro e w2 ⟨rfl, hb3⟩
    go_wp2
    go_ret
    exact ⟨rfl, HB1.out.trans (hb3.mono HB1.out.size)⟩
theorem walk (W : World) (A : Option Addr) (c : Nat) (L : List Pr) (key a b : ByteArray) (most : Int) (hL : PairsAt W A L) (hk : key.size ≤ 140737488351232) (ha : a.size ≤ 140737488351232) (hb : b.size ≤ 140737488351232) (_ : -9223372036854775808 ≤ most ∧ most ≤ 9223372036854775807) :
    Calls Try.prog 3 #[.slice A L.length c, .string key, .string a, .string b, .int .i64 most] W fun e w' => e = .returned (.bool true) ∧ Below W.heap.size W w' :=
  walk_of W A c L hL key a b hk ha hb most
end Go.Proofs.Ytmnaamjoikfpbaa.Bw10
