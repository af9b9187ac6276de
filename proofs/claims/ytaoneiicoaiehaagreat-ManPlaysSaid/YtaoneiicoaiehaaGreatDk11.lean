/- The contract of the document's own Save (package fascicleref11). -/
import Derived.Test.YtaoneiicoaiehaaGreatDj11
import Derived.Test.YtaoneiicoaiehaaGreatRq11
import Derived.Test.YtaoneiicoaiehaaGreatGb11
namespace Go.Proofs.YtaoneiicoaiehaaGreat.Dk11
open Go Go.RowKit Go.Lib Go.Proofs.YtaoneiicoaiehaaGreat Go.Proofs.YtaoneiicoaiehaaGreat.Dh Go.Proofs.YtaoneiicoaiehaaGreat.Dk Go.Proofs.YtaoneiicoaiehaaGreat.Fm Go.Proofs.YtaoneiicoaiehaaGreat.Cl Go.Proofs.YtaoneiicoaiehaaGreat.Nm Go.Proofs.YtaoneiicoaiehaaGreat.St Go.Proofs.YtaoneiicoaiehaaGreat.Sy Go.Proofs.YtaoneiicoaiehaaGreat.Ol11 Go.Proofs.YtaoneiicoaiehaaGreat.Fr11 Go.Proofs.YtaoneiicoaiehaaGreat.Fq11 Go.Proofs.YtaoneiicoaiehaaGreat.Ck11 Go.Proofs.YtaoneiicoaiehaaGreat.Fz11 Go.Proofs.YtaoneiicoaiehaaGreat.Fw11 Go.Proofs.YtaoneiicoaiehaaGreat.Fx11 Go.Proofs.YtaoneiicoaiehaaGreat.Fy11 Go.Proofs.YtaoneiicoaiehaaGreat.Ap11 Go.Proofs.YtaoneiicoaiehaaGreat.Kp11 Go.Proofs.YtaoneiicoaiehaaGreat.Sv11 Go.Proofs.YtaoneiicoaiehaaGreat.Da11 Go.Proofs.YtaoneiicoaiehaaGreat.Db11 Go.Proofs.YtaoneiicoaiehaaGreat.Dc11 Go.Proofs.YtaoneiicoaiehaaGreat.Dd11 Go.Proofs.YtaoneiicoaiehaaGreat.De11 Go.Proofs.YtaoneiicoaiehaaGreat.Df11 Go.Proofs.YtaoneiicoaiehaaGreat.Dg11 Go.Proofs.YtaoneiicoaiehaaGreat.Di11 Go.Proofs.YtaoneiicoaiehaaGreat.Dj11 Go.Proofs.YtaoneiicoaiehaaGreat.Nu11 Go.Proofs.YtaoneiicoaiehaaGreat.Ma11 Go.Proofs.YtaoneiicoaiehaaGreat.Pg11 Go.Proofs.YtaoneiicoaiehaaGreat.Gb11
theorem save_is (D : St) (k : ByteArray) (m : Man) (h : may m = true) : saveS D k m = Sv11.follow (steps (new_ k) k (Fl7.bs (by_ m))) D := by unfold saveS; rw [if_pos h]
theorem follow_stop {f : St → Int × St} {l : List (St → Int × St)} {D : St} (h : ¬ (f D).1 = 0) : Sv11.follow (f :: l) D = f D := by
  show (if (f D).1 = 0 then _ else _) = _
  rw [if_neg h]
theorem follow_next {f : St → Int × St} {l : List (St → Int × St)} {D : St} (h : (f D).1 = 0) : Sv11.follow (f :: l) D = Sv11.follow l (f D).2 := by
  show (if (f D).1 = 0 then _ else _) = _
  rw [if_pos h]
theorem follow_last {f : St → Int × St} {D : St} : Sv11.follow [f] D = f D := by
  by_cases h : (f D).1 = 0
  · rw [follow_next h]
    show ((0 : Int), (f D).2) = f D
    exact Prod.ext h.symm rfl
  · rw [follow_stop h]
theorem step_ok {f : St → Int × St} {l : List (St → Int × St)} {D : St} {r : Int × St} (h : f D = r) (h0 : r.1 = 0) : Sv11.follow (f :: l) D = Sv11.follow l r.2 := by
  subst h; exact follow_next h0
theorem step_bad {f : St → Int × St} {l : List (St → Int × St)} {D : St} {r : Int × St} (h : f D = r) (h0 : ¬ r.1 = 0) : Sv11.follow (f :: l) D = r := by
  subst h; exact follow_stop h0
/-- What Save leaves so far. -/
structure Sofar (w : World) (Q : Nat → Prop) (q : Nat) (D : St) (W : World) : Prop where
  to_ : ToR Q w W q D
theorem Sofar.call {w W V : World} {Q : Nat → Prop} {q : Nat} {D D2 : St} (h : ToR Q w W q D) (k : ToR (grow Q w W) W V q D2) : ToR Q w V q D2 := h.trans k
theorem fit_of {w : World} {Q : Nat → Prop} {q : Nat} {D : St} (h : RefAt w Q q D) : FitD D := by
  obtain ⟨_, _, _, _, _, _, _, h⟩ := h; exact h.fit
set_option maxRecDepth 100000 in
set_option maxHeartbeats 16000000 in
theorem rsave_any {w : World} {Q : Nat → Prop} {q : Nat} {D : St} (h : RefAt w Q q D) (k : ByteArray) (hk : Nm2 k) (hj : Nm2 (new_ k)) (hne : new_ k ≠ k) (hlen : D.loose.length ≤ 900000) {m : Man} {A : Option Addr} {c : Nat} (hm : ManAt w m A c) (hml : m.runs.length ≤ 1000000) :
    Calls Tryz.prog 22 #[.pointer (some ⟨q, 0, none⟩), .string k, manV m A c] w (Does w Q q (saveS D k m)) := by
  have hb0 : Below w.heap.size w (w.alloc (.cells #[.int .u64 (m.wal : Int), .slice A m.runs.length c, .int .u64 (m.next : Int)] 36)) := (Below.refl _ _).alloc (Nat.le_refl _) _
  have hbx := heap_new w (.cells #[.int .u64 (m.wal : Int), .slice A m.runs.length c, .int .u64 (m.next : Int)] 36)
  have hp := Rq11.rput_any (hm.keep (Nat.le_refl _) hb0) hml
  have d0 : (w.alloc (.cells #[.int .u64 (m.wal : Int), .slice A m.runs.length c, .int .u64 (m.next : Int)] 36)).cell? ⟨w.heap.size, 0, none⟩ = some (.int .u64 (m.wal : Int)) := by rw [cell_of hbx]; rfl
  have d1 : (w.alloc (.cells #[.int .u64 (m.wal : Int), .slice A m.runs.length c, .int .u64 (m.next : Int)] 36)).cell? ⟨w.heap.size, 1, none⟩ = some (.slice A m.runs.length c) := by rw [cell_of hbx]; rfl
  have d2 : (w.alloc (.cells #[.int .u64 (m.wal : Int), .slice A m.runs.length c, .int .u64 (m.next : Int)] 36)).cell? ⟨w.heap.size, 2, none⟩ = some (.int .u64 (m.next : Int)) := by rw [cell_of hbx]; rfl
  unfold manV at hp ⊢
  unfold putV at hp
  have HB0 := Lib.hid hb0
  have H := Lib.hid h
  have HKJ := Lib.hid (And.intro hk (And.intro hj hne))
  have hks : k.size ≤ 64 := hk.len
  cases hmay : may m with
  | false =>
    rw [hmay, if_neg (by decide)] at hp
    have HS : Hid (saveS D k m = (2, D)) := Lib.hid (by unfold saveS; rw [hmay, if_neg (by decide)])
    rw [HS.out]
    have HP := Lib.hid hp
    clear h hb0 hbx hp hmay hk hj hne
    go_enter Tryz.func22, Tryz.ntmps22
    go_wp2_with fail
    refine HP.out.mono ?_
    rintro e w1 ⟨rfl, hb1⟩
    have HB1 := Lib.hid hb1
    clear hb1 HP
    go_wp2
    go_ret
    exact ⟨rfl, ToR.of_below H.out (HB0.out.trans (HB1.out.mono HB0.out.size))⟩
  | true =>
    rw [hmay, if_pos rfl] at hp
    have hsb : (Fl7.bs (by_ m)).size ≤ 1099511627776 := by rw [Fl7.bs_size, by_len]; omega
    have HS := Lib.hid (save_is D k m hmay)
    rw [HS.out]
    obtain ⟨s, hs⟩ : ∃ s, s = Fl7.bs (by_ m) := ⟨_, rfl⟩
    rw [← hs] at hp hsb ⊢
    have HP := Lib.hid hp
    unfold steps
    clear h hb0 hbx hp hmay hk hj hne hs HS
    go_enter Tryz.func22, Tryz.ntmps22
    go_wp2_with fail
    refine HP.out.mono ?_
    rintro e w1 ⟨rfl, hb1⟩
    have hb01 := HB0.out.trans (hb1.mono HB0.out.size)
    have HT := Lib.hid (ToR.of_below H.out hb01)
    clear hb1 HP hb01 d0 d1 d2
    have hd := do_any HT.out.2 (c := .rem (new_ k)) HKJ.out.2.1 (Nat.zero_le _) (by omega)
    rw [do_rem HKJ.out.2.1] at hd
    have hlo := remove_loose D (new_ k)
    have hdr : dropS D (new_ k) = if (stRemove D (new_ k)).1 = 3 then (0, (stRemove D (new_ k)).2) else stRemove D (new_ k) := rfl
    obtain ⟨r1, hr1⟩ : ∃ r1, r1 = stRemove D (new_ k) := ⟨_, rfl⟩
    rw [← hr1] at hd hlo hdr
    simp only [callV, cOp, cNm, cTx, new_] at hd
    have HD := Lib.hid hd
    have HDR := Lib.hid hdr
    clear hd hr1 hdr
    go_wp2_with fail
    refine HD.out.mono ?_
    rintro e w2 ⟨rfl, ht⟩
    have HT2 := Lib.hid (HT.out.trans ht)
    clear ht HD HT
    by_cases h1 : r1.1 = 0 ∨ r1.1 = 3
    · have HE1 : Hid (Sv11.follow [fun D => dropS D (new_ k), fun D => stAppend D (new_ k) s, stSync, fun D => stRename D (new_ k) k, stSync] D = Sv11.follow [fun D => stAppend D (new_ k) s, stSync, fun D => stRename D (new_ k) k, stSync] r1.2) := Lib.hid (by
        have h2 : dropS D (new_ k) = (0, r1.2) := by
          rw [HDR.out]
          rcases h1 with h1 | h1
          · rw [if_neg (by omega)]; exact Prod.ext h1 rfl
          · rw [if_pos h1]
        exact follow_ok h2)
      rcases h1 with h1 | h1
      · skip
        rw [h1]
        clear h1 HDR
        have hd := do_any HT2.out.2 (c := .app (new_ k) s) HKJ.out.2.1 hsb (by omega)
        rw [do_app HKJ.out.2.1] at hd
        have hlo2 := append_loose r1.2 (new_ k) s
        obtain ⟨r2, hr2⟩ : ∃ r2, r2 = stAppend r1.2 (new_ k) s := ⟨_, rfl⟩
        have HR2 := Lib.hid hr2
        rw [← hr2] at hd hlo2
        simp only [callV, cOp, cNm, cTx, new_] at hd
        have HD := Lib.hid hd
        clear hd hr2
        go_wp2_with fail
        refine HD.out.mono ?_
        rintro e w3 ⟨rfl, ht⟩
        have HT3 := Lib.hid (HT2.out.trans ht)
        clear ht HD HT2
        by_cases h2 : r2.1 = 0
        · have HE2 : Hid (Sv11.follow [fun D => dropS D (new_ k), fun D => stAppend D (new_ k) s, stSync, fun D => stRename D (new_ k) k, stSync] D = Sv11.follow [stSync, fun D => stRename D (new_ k) k, stSync] r2.2) := Lib.hid (HE1.out.trans (step_ok HR2.out.symm h2))
          rw [h2]
          clear h2 HR2 HE1
          have hd := sync_any HT3.out.2
          have hlo3 := sync_loose r2.2
          obtain ⟨r3, hr3⟩ : ∃ r3, r3 = stSync r2.2 := ⟨_, rfl⟩
          have HR3 := Lib.hid hr3
          rw [← hr3] at hd hlo3
          have HD := Lib.hid hd
          clear hd hr3
          go_wp2_with fail
          refine HD.out.mono ?_
          rintro e w4 ⟨rfl, ht⟩
          have HT4 := Lib.hid (HT3.out.trans ht)
          clear ht HD HT3
          by_cases h3 : r3.1 = 0
          · have HE3 : Hid (Sv11.follow [fun D => dropS D (new_ k), fun D => stAppend D (new_ k) s, stSync, fun D => stRename D (new_ k) k, stSync] D = Sv11.follow [fun D => stRename D (new_ k) k, stSync] r3.2) := Lib.hid (HE2.out.trans (step_ok HR3.out.symm h3))
            rw [h3]
            clear h3 HR3 HE2
            have hd := do_any HT4.out.2 (c := .mov (new_ k) k) ⟨HKJ.out.2.1, HKJ.out.1, HKJ.out.2.2⟩ (show k.size ≤ _ by omega) (by omega)
            rw [do_mov HKJ.out.2.1 HKJ.out.1 HKJ.out.2.2] at hd
            obtain ⟨r4, hr4⟩ : ∃ r4, r4 = stRename r3.2 (new_ k) k := ⟨_, rfl⟩
            have HR4 := Lib.hid hr4
            rw [← hr4] at hd
            simp only [callV, cOp, cNm, cTx, new_] at hd
            have HD := Lib.hid hd
            clear hd hr4
            go_wp2_with fail
            refine HD.out.mono ?_
            rintro e w5 ⟨rfl, ht⟩
            have HT5 := Lib.hid (HT4.out.trans ht)
            clear ht HD HT4
            by_cases h4 : r4.1 = 0
            · have HE4 : Hid (Sv11.follow [fun D => dropS D (new_ k), fun D => stAppend D (new_ k) s, stSync, fun D => stRename D (new_ k) k, stSync] D = stSync r4.2) := Lib.hid ((HE3.out.trans (step_ok HR4.out.symm h4)).trans follow_last)
              rw [h4]
              have HD := Lib.hid (sync_any HT5.out.2)
              clear h4 HR4 HE3
              go_wp2_with fail
              refine HD.out.mono ?_
              rintro e w6 ⟨rfl, ht⟩
              have HT6 := Lib.hid (HT5.out.trans ht)
              clear ht HD HT5
              go_wp2
              go_ret
              rw [HE4.out]
              exact ⟨rfl, HT6.out⟩
            · have HEz : Hid (Sv11.follow [fun D => dropS D (new_ k), fun D => stAppend D (new_ k) s, stSync, fun D => stRename D (new_ k) k, stSync] D = r4) := Lib.hid (HE3.out.trans (step_bad HR4.out.symm h4))
              have hz : (r4.1 == 0) = false := by simpa using h4
              clear h4 HR4 HE3
              go_wp2
              go_ret
              rw [HEz.out]
              exact ⟨rfl, HT5.out⟩
          · have HEz : Hid (Sv11.follow [fun D => dropS D (new_ k), fun D => stAppend D (new_ k) s, stSync, fun D => stRename D (new_ k) k, stSync] D = r3) := Lib.hid (HE2.out.trans (step_bad HR3.out.symm h3))
            have hz : (r3.1 == 0) = false := by simpa using h3
            clear h3 HR3 HE2
            go_wp2
            go_ret
            rw [HEz.out]
            exact ⟨rfl, HT4.out⟩
        · have HEz : Hid (Sv11.follow [fun D => dropS D (new_ k), fun D => stAppend D (new_ k) s, stSync, fun D => stRename D (new_ k) k, stSync] D = r2) := Lib.hid (HE1.out.trans (step_bad HR2.out.symm h2))
          have hz : (r2.1 == 0) = false := by simpa using h2
          clear h2 HR2 HE1
          go_wp2
          go_ret
          rw [HEz.out]
          exact ⟨rfl, HT3.out⟩
      · skip
        rw [h1]
        clear h1 HDR
        have hd := do_any HT2.out.2 (c := .app (new_ k) s) HKJ.out.2.1 hsb (by omega)
        rw [do_app HKJ.out.2.1] at hd
        have hlo2 := append_loose r1.2 (new_ k) s
        obtain ⟨r2, hr2⟩ : ∃ r2, r2 = stAppend r1.2 (new_ k) s := ⟨_, rfl⟩
        have HR2 := Lib.hid hr2
        rw [← hr2] at hd hlo2
        simp only [callV, cOp, cNm, cTx, new_] at hd
        have HD := Lib.hid hd
        clear hd hr2
        go_wp2_with fail
        refine HD.out.mono ?_
        rintro e w3 ⟨rfl, ht⟩
        have HT3 := Lib.hid (HT2.out.trans ht)
        clear ht HD HT2
        by_cases h2 : r2.1 = 0
        · have HE2 : Hid (Sv11.follow [fun D => dropS D (new_ k), fun D => stAppend D (new_ k) s, stSync, fun D => stRename D (new_ k) k, stSync] D = Sv11.follow [stSync, fun D => stRename D (new_ k) k, stSync] r2.2) := Lib.hid (HE1.out.trans (step_ok HR2.out.symm h2))
          rw [h2]
          clear h2 HR2 HE1
          have hd := sync_any HT3.out.2
          have hlo3 := sync_loose r2.2
          obtain ⟨r3, hr3⟩ : ∃ r3, r3 = stSync r2.2 := ⟨_, rfl⟩
          have HR3 := Lib.hid hr3
          rw [← hr3] at hd hlo3
          have HD := Lib.hid hd
          clear hd hr3
          go_wp2_with fail
          refine HD.out.mono ?_
          rintro e w4 ⟨rfl, ht⟩
          have HT4 := Lib.hid (HT3.out.trans ht)
          clear ht HD HT3
          by_cases h3 : r3.1 = 0
          · have HE3 : Hid (Sv11.follow [fun D => dropS D (new_ k), fun D => stAppend D (new_ k) s, stSync, fun D => stRename D (new_ k) k, stSync] D = Sv11.follow [fun D => stRename D (new_ k) k, stSync] r3.2) := Lib.hid (HE2.out.trans (step_ok HR3.out.symm h3))
            rw [h3]
            clear h3 HR3 HE2
            have hd := do_any HT4.out.2 (c := .mov (new_ k) k) ⟨HKJ.out.2.1, HKJ.out.1, HKJ.out.2.2⟩ (show k.size ≤ _ by omega) (by omega)
            rw [do_mov HKJ.out.2.1 HKJ.out.1 HKJ.out.2.2] at hd
            obtain ⟨r4, hr4⟩ : ∃ r4, r4 = stRename r3.2 (new_ k) k := ⟨_, rfl⟩
            have HR4 := Lib.hid hr4
            rw [← hr4] at hd
            simp only [callV, cOp, cNm, cTx, new_] at hd
            have HD := Lib.hid hd
            clear hd hr4
            go_wp2_with fail
            refine HD.out.mono ?_
            rintro e w5 ⟨rfl, ht⟩
            have HT5 := Lib.hid (HT4.out.trans ht)
            clear ht HD HT4
            by_cases h4 : r4.1 = 0
            · have HE4 : Hid (Sv11.follow [fun D => dropS D (new_ k), fun D => stAppend D (new_ k) s, stSync, fun D => stRename D (new_ k) k, stSync] D = stSync r4.2) := Lib.hid ((HE3.out.trans (step_ok HR4.out.symm h4)).trans follow_last)
              rw [h4]
              have HD := Lib.hid (sync_any HT5.out.2)
              clear h4 HR4 HE3
              go_wp2_with fail
              refine HD.out.mono ?_
              rintro e w6 ⟨rfl, ht⟩
              have HT6 := Lib.hid (HT5.out.trans ht)
              clear ht HD HT5
              go_wp2
              go_ret
              rw [HE4.out]
              exact ⟨rfl, HT6.out⟩
            · have HEz : Hid (Sv11.follow [fun D => dropS D (new_ k), fun D => stAppend D (new_ k) s, stSync, fun D => stRename D (new_ k) k, stSync] D = r4) := Lib.hid (HE3.out.trans (step_bad HR4.out.symm h4))
              have hz : (r4.1 == 0) = false := by simpa using h4
              clear h4 HR4 HE3
              go_wp2
              go_ret
              rw [HEz.out]
              exact ⟨rfl, HT5.out⟩
          · have HEz : Hid (Sv11.follow [fun D => dropS D (new_ k), fun D => stAppend D (new_ k) s, stSync, fun D => stRename D (new_ k) k, stSync] D = r3) := Lib.hid (HE2.out.trans (step_bad HR3.out.symm h3))
            have hz : (r3.1 == 0) = false := by simpa using h3
            clear h3 HR3 HE2
            go_wp2
            go_ret
            rw [HEz.out]
            exact ⟨rfl, HT4.out⟩
        · have HEz : Hid (Sv11.follow [fun D => dropS D (new_ k), fun D => stAppend D (new_ k) s, stSync, fun D => stRename D (new_ k) k, stSync] D = r2) := Lib.hid (HE1.out.trans (step_bad HR2.out.symm h2))
          have hz : (r2.1 == 0) = false := by simpa using h2
          clear h2 HR2 HE1
          go_wp2
          go_ret
          rw [HEz.out]
          exact ⟨rfl, HT3.out⟩
    · have h10 : ¬ r1.1 = 0 := fun e => h1 (.inl e)
      have h13 : ¬ r1.1 = 3 := fun e => h1 (.inr e)
      have hdr : dropS D (new_ k) = r1 := by rw [HDR.out, if_neg h13]
      have HEz : Hid (Sv11.follow [fun D => dropS D (new_ k), fun D => stAppend D (new_ k) s, stSync, fun D => stRename D (new_ k) k, stSync] D = r1) := Lib.hid (step_bad hdr h10)
      have hz0 : (r1.1 == 0) = false := by simpa using h10
      have hz3 : (r1.1 == 3) = false := by simpa using h13
      have hn3 : (r1.1 != 3) = true := by simpa using h13
      have hn0 : (r1.1 != 0) = true := by simpa using h10
      clear h1 h10 h13 hdr HDR
      go_wp2
      go_ret
      rw [HEz.out]
      exact ⟨rfl, HT2.out⟩
end Go.Proofs.YtaoneiicoaiehaaGreat.Dk11
