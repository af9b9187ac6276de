/- The contract of the document's done. -/
import Derived.Test.YtaoneiicoaiehaaGreatDc11
import Derived.Test.YtaoneiicoaiehaaGreatFx11
import Derived.Test.YtaoneiicoaiehaaGreatFy11
import Derived.Deep.RegionHeld3
namespace Go.Proofs.YtaoneiicoaiehaaGreat.Dd11
open Go Go.RowKit Go.Lib Go.Proofs.YtaoneiicoaiehaaGreat Go.Proofs.YtaoneiicoaiehaaGreat.Dh Go.Proofs.YtaoneiicoaiehaaGreat.Dk Go.Proofs.YtaoneiicoaiehaaGreat.Fm Go.Proofs.YtaoneiicoaiehaaGreat.Nm Go.Proofs.YtaoneiicoaiehaaGreat.St Go.Proofs.YtaoneiicoaiehaaGreat.Sy Go.Proofs.YtaoneiicoaiehaaGreat.Ol11 Go.Proofs.YtaoneiicoaiehaaGreat.Fr11 Go.Proofs.YtaoneiicoaiehaaGreat.Fq11 Go.Proofs.YtaoneiicoaiehaaGreat.Ck11 Go.Proofs.YtaoneiicoaiehaaGreat.Fz11 Go.Proofs.YtaoneiicoaiehaaGreat.Fw11 Go.Proofs.YtaoneiicoaiehaaGreat.Fx11 Go.Proofs.YtaoneiicoaiehaaGreat.Fy11 Go.Proofs.YtaoneiicoaiehaaGreat.Ap11 Go.Proofs.YtaoneiicoaiehaaGreat.Kp11 Go.Proofs.YtaoneiicoaiehaaGreat.Sv11 Go.Proofs.YtaoneiicoaiehaaGreat.Da11 Go.Proofs.YtaoneiicoaiehaaGreat.Db11 Go.Proofs.YtaoneiicoaiehaaGreat.Dc11
theorem makes_pre {w W w' : World} {R : List Fl} {e : Ending} (hb : Below w.heap.size w W) (h : Makes W R e w') : Makes w R e w' := by
  obtain ⟨A, c, h1, h2, h3⟩ := h
  exact ⟨A, c, h1, rowF_base h2 hb.size, hb.trans (h3.mono hb.size)⟩
set_option maxRecDepth 100000 in
set_option maxHeartbeats 8000000 in
theorem done_app {w : World} {A : Option Addr} {cp : Nat} {R : List Fl} (h : RdF w A R) (hl : R.length ≤ 1000) (k s : ByteArray) (hs : s.size ≤ 1099511627776) (ht : (textR R k).size ≤ 1099511627776) :
    Calls Tryz.prog 46 #[.slice A R.length cp, callV (.app k s)] w (Makes w (doneR R (.app k s))) := by
  have hb0 : Below w.heap.size w (w.alloc (callO (.app k s))) := (Below.refl _ _).alloc (Nat.le_refl _) _
  have hb1 : Below w.heap.size w (w.alloc (callO (.app k s))).drew := hb0.drew
  have HB := Lib.hid hb1
  have hrd := h.keep (Nat.le_refl _) hb1
  have HT := Lib.hid (text_any (c := cp) hrd (by omega) k)
  have HW := Lib.hid (with_any (c := cp) hrd (by omega) (k, textR R k ++ s))
  have hbx := heap_new w (callO (.app k s))
  have b0 : (w.alloc (callO (.app k s))).cell? ⟨w.heap.size, 0, none⟩ = some (.int .i64 1) := by rw [cell_of hbx]; rfl
  have b1 : (w.alloc (callO (.app k s))).cell? ⟨w.heap.size, 1, none⟩ = some (.string k) := by rw [cell_of hbx]; rfl
  have b2 : (w.alloc (callO (.app k s))).cell? ⟨w.heap.size, 2, none⟩ = some (.string s) := by rw [cell_of hbx]; rfl
  have HD : Hid (doneR R (.app k s) = wi (k, textR R k ++ s) false R) := Lib.hid rfl
  rw [HD.out]
  generalize textR R k = t at ht HT HW ⊢
  obtain ⟨N, hN⟩ : ∃ N, N = R.length := ⟨_, rfl⟩
  simp only [callO, cOp, cNm, cTx] at b0 b1 b2 HB HT HW
  unfold callV
  simp only [cOp, cNm, cTx]
  clear h hb0 hb1 hrd hbx HD hN
  go_enter Tryz.func46, Tryz.ntmps46
  go_wp2
  refine wp_region_still_tail 11 (by kernel_rfl) (by kernel_rfl) ?_
  simp only [List.take_succ_cons, List.take_zero, List.drop_succ_cons, List.drop_zero]
  change wpStill _ _ (World.drew _) _ _ _
  repeat (with_reducible refine wpStill_step (fun K hK => ?_); go_simp; with_reducible refine hK _ ?_; clear hK K)
  refine wpStill_step (fun K hK => ?_)
  go_simp
  refine ⟨_, HT.out, hK _ ?_⟩
  clear hK K
  have hcat : ¬ 9223372036854775807 < t.size + s.size := by omega
  repeat (with_reducible refine wpStill_step (fun K hK => ?_); go_simp; with_reducible refine hK _ ?_; clear hK K)
  clear hcat
  with_reducible refine wpStill_nil ?_
  change wpList _ _ _ _ _ (World.drew _)
  go_wp2_with fail
  refine HW.out.mono ?_
  rintro e w2 ⟨A2, c2, rfl, o1, o2⟩
  have HO := Lib.hid o1
  have HB2 := Lib.hid o2
  clear o1 o2
  go_wp2
  go_ret
  exact makes_pre HB.out ⟨A2, c2, rfl, HO.out, HB2.out⟩
set_option maxRecDepth 100000 in
set_option maxHeartbeats 8000000 in
theorem done_rem {w : World} {A : Option Addr} {cp : Nat} {R : List Fl} (h : RdF w A R) (hl : R.length ≤ 1000) (k : ByteArray) :
    Calls Tryz.prog 46 #[.slice A R.length cp, callV (.rem k)] w (Makes w (doneR R (.rem k))) := by
  have hb0 : Below w.heap.size w (w.alloc (callO (.rem k))) := (Below.refl _ _).alloc (Nat.le_refl _) _
  have HB := Lib.hid hb0
  have hrd := h.keep (Nat.le_refl _) hb0
  have HW := Lib.hid (without_any (c := cp) hrd (by omega) k)
  have hbx := heap_new w (callO (.rem k))
  have b0 : (w.alloc (callO (.rem k))).cell? ⟨w.heap.size, 0, none⟩ = some (.int .i64 4) := by rw [cell_of hbx]; rfl
  have b1 : (w.alloc (callO (.rem k))).cell? ⟨w.heap.size, 1, none⟩ = some (.string k) := by rw [cell_of hbx]; rfl
  have HD : Hid (doneR R (.rem k) = wo k R) := Lib.hid rfl
  rw [HD.out]
  simp only [callO, cOp, cNm, cTx] at b0 b1 HB HW
  unfold callV
  simp only [cOp, cNm, cTx]
  clear h hb0 hrd hbx HD
  go_enter Tryz.func46, Tryz.ntmps46
  go_wp2_with fail
  refine HW.out.mono ?_
  rintro e w2 ⟨A2, c2, rfl, o1, o2⟩
  have HO := Lib.hid o1
  have HB2 := Lib.hid o2
  clear o1 o2
  go_wp2
  go_ret
  exact makes_pre HB.out ⟨A2, c2, rfl, HO.out, HB2.out⟩
set_option maxRecDepth 100000 in
set_option maxHeartbeats 8000000 in
theorem done_mov {w : World} {A : Option Addr} {cp : Nat} {R : List Fl} (h : RdF w A R) (hl : R.length ≤ 1000) (j k : ByteArray) :
    Calls Tryz.prog 46 #[.slice A R.length cp, callV (.mov j k)] w (Makes w (doneR R (.mov j k))) := by
  have hb0 : Below w.heap.size w (w.alloc (callO (.mov j k))) := (Below.refl _ _).alloc (Nat.le_refl _) _
  have HB := Lib.hid hb0
  have hrd := h.keep (Nat.le_refl _) hb0
  have hbx := heap_new w (callO (.mov j k))
  have b0 : (w.alloc (callO (.mov j k))).cell? ⟨w.heap.size, 0, none⟩ = some (.int .i64 3) := by rw [cell_of hbx]; rfl
  have b1 : (w.alloc (callO (.mov j k))).cell? ⟨w.heap.size, 1, none⟩ = some (.string j) := by rw [cell_of hbx]; rfl
  have b2 : (w.alloc (callO (.mov j k))).cell? ⟨w.heap.size, 2, none⟩ = some (.string k) := by rw [cell_of hbx]; rfl
  have HD : Hid (doneR R (.mov j k) = wi (k, textR R j) false (wo j R)) := Lib.hid rfl
  rw [HD.out]
  simp only [callO, cOp, cNm, cTx] at b0 b1 b2 HB
  unfold callV
  simp only [cOp, cNm, cTx]
  have hk0 : ∀ V, Below (w.heap.size + 1) (w.alloc (.cells #[.int .i64 3, .string j, .string k, .int .i64 0] 69 (0, 0))) V → V.cell? ⟨w.heap.size, 1, none⟩ = some (.string j) ∧ V.cell? ⟨w.heap.size, 2, none⟩ = some (.string k) := fun V hV =>
    ⟨(hV.cell (p := ⟨w.heap.size, 1, none⟩) (Nat.lt_succ_self _)).trans b1, (hV.cell (p := ⟨w.heap.size, 2, none⟩) (Nat.lt_succ_self _)).trans b2⟩
  have HK := Lib.hid hk0
  have HBx : Hid (Below (w.heap.size + 1) (w.alloc (.cells #[.int .i64 3, .string j, .string k, .int .i64 0] 69 (0, 0))) (w.alloc (.cells #[.int .i64 3, .string j, .string k, .int .i64 0] 69 (0, 0))).drew) := Lib.hid (Below.refl _ _).drew
  have HBw : Hid (∀ V, Below (w.heap.size + 1) (w.alloc (.cells #[.int .i64 3, .string j, .string k, .int .i64 0] 69 (0, 0))) V → Below w.heap.size w V) := Lib.hid fun V hV => HB.out.trans (hV.mono (Nat.le_succ _))
  have HSz : Hid (w.heap.size + 1 ≤ (w.alloc (.cells #[.int .i64 3, .string j, .string k, .int .i64 0] 69 (0, 0))).drew.heap.size) := Lib.hid (by show _ ≤ (w.alloc _).heap.size; rw [size_alloc]; exact Nat.le_refl _)
  have HWo : Hid (∀ V, Below w.heap.size w V → Calls Tryz.prog 78 #[.slice A R.length cp, .string j] V (Makes V (wo j R))) := Lib.hid fun V hV => without_any (c := cp) (h.keep (Nat.le_refl _) hV) (by omega) j
  have HT : Hid (∀ V, Below w.heap.size w V → Calls Tryz.prog 74 #[.slice A R.length cp, .string j] V fun e w' => e = .returned (.string (textR R j)) ∧ w' = V) := Lib.hid fun V hV => text_any (c := cp) (h.keep (Nat.le_refl _) hV) (by omega) j
  have hwl := wo_le j R
  have HWi : Hid (∀ V A2 c2, RdF V A2 (wo j R) → Calls Tryz.prog 77 #[.slice A2 (wo j R).length c2, .agg #[.string k, .string (textR R j)]] V (Makes V (wi (k, textR R j) false (wo j R)))) := Lib.hid fun V A2 c2 hV => with_any (c := c2) hV (by omega) (k, textR R j)
  generalize textR R j = t at HT HWi ⊢
  generalize wo j R = R2 at HWo HWi ⊢
  clear hb0 hbx HD hrd hk0 h hwl
  go_enter Tryz.func46, Tryz.ntmps46
  go_wp2
  go_region_held3 (fun W => W.cell? ⟨w.heap.size, 1, none⟩ = some (.string j) ∧ W.cell? ⟨w.heap.size, 2, none⟩ = some (.string k)) (first | exact HK.out _ (Hid.out (by assumption)) | go_keep) (first
    | (go_at_call 78; (with_reducible refine (HWo.out _ (HBw.out _ HBx.out)).mono ?_); rintro e w3 ⟨A3, c3, rfl, o1, o2⟩; have HB3 := Lib.hid (HBx.out.trans (o2.mono HSz.out)); have HR3 := Lib.hid o1; clear o1 o2)
    | (go_at_call 74; (with_reducible refine (HT.out w3 (HBw.out _ HB3.out)).mono ?_); rintro e w3 ⟨rfl, rfl⟩)
    | (go_at_call 77; (with_reducible refine (HWi.out w3 A3 c3 HR3.out.rd).mono ?_); rintro e w5 ⟨A5, c5, rfl, o1, o2⟩; have HO5 := Lib.hid o1; have HB5 := Lib.hid (HB3.out.trans (o2.mono (by have := HB3.out.size; rw [size_alloc] at this; exact this))); have HS5 := Lib.hid (show w.heap.size ≤ w3.heap.size from (HBw.out _ HB3.out).size); clear o1 o2))
  all_goals
    go_wp2
    go_ret
    exact ⟨A5, c5, rfl, rowF_base HO5.out HS5.out, HBw.out _ HB5.out⟩
/-- What done makes, of any call. -/
theorem done_any {w : World} {A : Option Addr} {cp : Nat} {R : List Fl} (h : RdF w A R) (hl : R.length ≤ 1000) {c : Cmd} (hc : FitC c) (hs : (cTx c).size ≤ 1099511627776) (ht : ∀ k, (textR R k).size ≤ 1099511627776) :
    Calls Tryz.prog 46 #[.slice A R.length cp, callV c] w (Makes w (doneR R c)) := by
  cases c with
  | app k s => exact done_app h hl k s hs (ht k)
  | cut k n => exact hc.elim
  | mov j k => exact done_mov h hl j k
  | rem k => exact done_rem h hl k
end Go.Proofs.YtaoneiicoaiehaaGreat.Dd11
