/- The contract of the document's Crash. -/
import Derived.Test.YtaoneiicoaiehaaGreatDi11
import Derived.Deep.CutRange
import Derived.Deep.CutBlock
namespace Go.Proofs.YtaoneiicoaiehaaGreat.Dj11
open Go Go.RowKit Go.Lib Go.Proofs.YtaoneiicoaiehaaGreat Go.Proofs.YtaoneiicoaiehaaGreat.Dh Go.Proofs.YtaoneiicoaiehaaGreat.Dk Go.Proofs.YtaoneiicoaiehaaGreat.Fm Go.Proofs.YtaoneiicoaiehaaGreat.Cl Go.Proofs.YtaoneiicoaiehaaGreat.Nm Go.Proofs.YtaoneiicoaiehaaGreat.St Go.Proofs.YtaoneiicoaiehaaGreat.Sy Go.Proofs.YtaoneiicoaiehaaGreat.Ol11 Go.Proofs.YtaoneiicoaiehaaGreat.Fr11 Go.Proofs.YtaoneiicoaiehaaGreat.Fq11 Go.Proofs.YtaoneiicoaiehaaGreat.Ck11 Go.Proofs.YtaoneiicoaiehaaGreat.Fz11 Go.Proofs.YtaoneiicoaiehaaGreat.Fw11 Go.Proofs.YtaoneiicoaiehaaGreat.Fx11 Go.Proofs.YtaoneiicoaiehaaGreat.Fy11 Go.Proofs.YtaoneiicoaiehaaGreat.Ap11 Go.Proofs.YtaoneiicoaiehaaGreat.Kp11 Go.Proofs.YtaoneiicoaiehaaGreat.Sv11 Go.Proofs.YtaoneiicoaiehaaGreat.Da11 Go.Proofs.YtaoneiicoaiehaaGreat.Db11 Go.Proofs.YtaoneiicoaiehaaGreat.Dc11 Go.Proofs.YtaoneiicoaiehaaGreat.Dd11 Go.Proofs.YtaoneiicoaiehaaGreat.De11 Go.Proofs.YtaoneiicoaiehaaGreat.Df11 Go.Proofs.YtaoneiicoaiehaaGreat.Dg11 Go.Proofs.YtaoneiicoaiehaaGreat.Di11
theorem torn_size (s : ByteArray) (t : Int) : (torn s t).size ≤ s.size := by
  unfold torn
  rw [ByteArray.size_extract]
  omega
theorem good_crash {D : St} (h : St.Good D) (n t : Int) : St.Good (stCrash D n t) := by
  have h0 : used (runs D.sure (D.loose.take (keeps D n))) ≤ 16777216 := runs_used _ _ (oks_take _ _ _ h.oks) h.used
  have h1 : used (crashed D n t) ≤ 16777216 := by
    unfold crashed
    split
    · rename_i k s he
      have hok := oks_at _ _ _ _ h.oks he
      split
      · refine run_used _ _ ?_ h0
        show used _ + (torn s t).size ≤ 16777216
        have h2 : used (runs D.sure (D.loose.take (keeps D n))) + s.size ≤ 16777216 := hok
        have := torn_size s t
        omega
      · exact h0
    · exact h0
  exact ⟨trivial, rfl, h1, h.room, ⟨Int.le_refl _, (by decide : (-1 : Int) ≤ 9223372036854775807)⟩⟩
/-- The rows of a crash, in the midst of it. -/
structure Mid (w : World) (Q : Nat → Prop) (F : Fs) (R : List Fl) (A : Option Addr) (c : Nat) (W : World) : Prop where
  rf : RF F R
  fit : FitF F
  used : Fm.used F ≤ 16777216
  row : RowQ W (grow Q w W) R A c
  bel : Below w.heap.size w W
theorem Mid.start {w : World} {Q : Nat → Prop} {q : Nat} {D : St} {R R' : List Fl} {A A' : Option Addr} {c c' : Nat} {v : Value} (h : RefIs w Q q D R R' A A' c c' v) : Mid w Q D.sure R' A' c' w :=
  ⟨h.rsure, h.fit.sure, h.good.used, h.sure.keep (fun _ _ _ => rfl) grow_up, Below.refl _ _⟩
theorem Mid.len {w : World} {Q : Nat → Prop} {F : Fs} {R : List Fl} {A : Option Addr} {c : Nat} {W : World} (h : Mid w Q F R A c W) : R.length ≤ 2 := Da11.RF.len h.rf h.fit
theorem Mid.texts {w : World} {Q : Nat → Prop} {F : Fs} {R : List Fl} {A : Option Addr} {c : Nat} {W : World} (h : Mid w Q F R A c W) (k : ByteArray) : (textR R k).size ≤ 1099511627776 := by
  rw [h.rf.text k, Fl7.bs_size]
  have h1 := txt_le k F
  have h2 := h.used
  omega
theorem Mid.below {w : World} {Q : Nat → Prop} {F : Fs} {R : List Fl} {A : Option Addr} {c : Nat} {W V : World} (h : Mid w Q F R A c W) (hb : Below W.heap.size W V) : Mid w Q F R A c V :=
  ⟨h.rf, h.fit, h.used, h.row.keep (fun b _ hl => hb.block b hl) (fun _ hb' => hb'.elim .inl fun x => .inr ⟨x.1, Nat.lt_of_lt_of_le x.2 hb.size⟩), h.bel.trans (hb.mono h.bel.size)⟩
/-- A call is done. -/
theorem Mid.done {w : World} {Q : Nat → Prop} {F : Fs} {R : List Fl} {A : Option Addr} {c : Nat} {W V : World} (h : Mid w Q F R A c W) {x : Cmd} (hx : FitC x) (hok : x.ok F) {e : Ending} (hm : Makes W (doneR R x) e V) :
    ∃ A2 c2, e = .returned (.slice A2 (doneR R x).length c2) ∧ Mid w Q (x.run F) (doneR R x) A2 c2 V := by
  obtain ⟨A2, c2, h1, h2, h3⟩ := hm
  refine ⟨A2, c2, h1, h.rf.run h.fit.uq x (fun j k e => by subst e; exact hx.2.2), h.fit.run hx, run_used _ _ hok h.used, ?_, h.bel.trans (h3.mono h.bel.size)⟩
  have hr := RowF.lt h2
  exact ⟨rowF_base h2 (Nat.zero_le _), fun b hb => .inr ⟨Nat.le_trans h.bel.size (hr b hb).1, (hr b hb).2⟩⟩
/-- What a crash leaves at the end. -/
theorem crash_fin {w W w4 : World} {Q : Nat → Prop} {q : Nat} {D : St} {n t : Int} {R : List Fl} {A : Option Addr} {c : Nat} (hq : Q q) (hg : St.Good (stCrash D n t)) (hf : FitD (stCrash D n t)) (h : Mid w Q (crashed D n t) R A c W)
    (hne : ∀ b, (Value.slice A R.length c).ownBlock = some b → b ≠ q) (o1 : Only q W w4) (hz : w4.heap[q]? = some (diskO (.slice A R.length c) (.slice A R.length c) (.slice none 0 0) D.room (-1) false)) : ToR Q w w4 q (stCrash D n t) := by
  refine ⟨⟨o1.os.trans h.bel.os, o1.tape.trans h.bel.tape, o1.output.trans h.bel.output, by rw [o1.size]; exact h.bel.size, fun b hb hn => (o1.block b (fun e => hn (e ▸ hq))).trans (h.bel.block b hb)⟩, ?_⟩
  have hrow : RowQ w4 (grow Q w w4) R A c := h.row.keep1 (fun b hb => o1.block b (hne b hb)) (fun b hb => hb.elim .inl fun x => .inr ⟨x.1, by rw [o1.size]; exact x.2⟩)
  exact ⟨R, R, A, A, c, c, .slice none 0 0, ⟨⟨.inl hq, hz⟩, hrow, hrow, h.rf, h.rf, RowC.nil _ _, hf, hg⟩⟩
/-- Where a row of files lies, no disk lies. -/
theorem row_ne {w W : World} {Q : Nat → Prop} {F : Fs} {R : List Fl} {A : Option Addr} {c : Nat} (h : Mid w Q F R A c W) {q : Nat} {cs : Array Value} (hq : W.heap[q]? = some (.cells cs 43 (0, 0))) : ∀ b, (Value.slice A R.length c).ownBlock = some b → b ≠ q := by
  rintro b hb rfl
  obtain ⟨cs', hc⟩ := h.row.blk hb
  rw [hq] at hc
  injection hc with hc
  injection hc with _ e _
  exact absurd e (by decide)
theorem runs_step (F : Fs) (l : List Cmd) (i : Nat) (h : i < l.length) : runs F (l.take (i + 1)) = l[i].run (runs F (l.take i)) := by
  rw [List.take_succ_eq_append_getElem h, runs_snoc]
theorem ctx_len {D : St} (hg : St.Good D) (hf : FitD D) {i : Nat} (h : i < D.loose.length) : (cTx D.loose[i]).size ≤ 16777216 := by
  have hok := oks_at _ _ _ _ hg.oks (List.getElem?_eq_getElem h)
  have hfc := hf.loose _ (List.getElem_mem h)
  cases hc : D.loose[i] with
  | app k s => rw [hc] at hok; have : used (runs D.sure (D.loose.take i)) + s.size ≤ 16777216 := hok; show s.size ≤ _; omega
  | cut k n => exact Nat.zero_le _
  | mov j k => rw [hc] at hfc; have := hfc.2.1.len; show k.size ≤ _; omega
  | rem k => exact Nat.zero_le _
/-- What the disk reads as, in a later world. -/
structure Later (V : World) (q : Nat) (D : St) (R R' : List Fl) (A A' Av : Option Addr) (c c' cv : Nat) : Prop where
  blk : V.heap[q]? = some (diskO (.slice A R.length c) (.slice A' R'.length c') (.slice Av D.loose.length cv) D.room D.fuse D.still)
  call : ∀ i (h : i < D.loose.length), ∃ g, Av = some ⟨g, 0, none⟩ ∧ V.cell? ⟨g, i * 4, none⟩ = some (.int .i64 (cOp D.loose[i])) ∧ V.cell? ⟨g, i * 4 + 1, none⟩ = some (.string (cNm D.loose[i])) ∧ V.cell? ⟨g, i * 4 + 2, none⟩ = some (.string (cTx D.loose[i])) ∧ V.cell? ⟨g, i * 4 + 3, none⟩ = some (.int .i64 0)
theorem later_of {w : World} {Q : Nat → Prop} {q : Nat} {D : St} {R R' : List Fl} {A A' Av : Option Addr} {c c' cv : Nat} (h : RefIs w Q q D R R' A A' c c' (.slice Av D.loose.length cv)) {V : World} (hb : Below w.heap.size w V) : Later V q D R R' A A' Av c c' cv := by
  refine ⟨(hb.block _ (lt_of_at h.blk.2)).trans h.blk.2, fun i hi => ?_⟩
  obtain ⟨g, c1, e, _, hlt, h0, h1, h2, h3⟩ := h.row.cell hi
  injection e with e1 _ _
  have hk : ∀ j, V.cell? ⟨g, j, none⟩ = w.cell? ⟨g, j, none⟩ := fun j => hb.cell (p := ⟨g, j, none⟩) hlt
  exact ⟨g, e1, (hk _).trans h0, (hk _).trans h1, (hk _).trans h2, (hk _).trans h3⟩
theorem cop_app {x : Cmd} (h : FitC x) (h1 : cOp x = 1) : ∃ k s, x = .app k s := by
  cases x with
  | app k s => exact ⟨k, s, rfl⟩
  | cut k n => exact h.elim
  | mov j k => exact absurd h1 (show ¬ (3 : Int) = 1 by decide)
  | rem k => exact absurd h1 (show ¬ (4 : Int) = 1 by decide)
set_option maxRecDepth 100000 in
set_option maxHeartbeats 16000000 in
theorem crash_any {w : World} {Q : Nat → Prop} {q : Nat} {D : St} (h : RefAt w Q q D) (n t : Int) (hn : -9223372036854775808 ≤ n ∧ n ≤ 9223372036854775807) (ht : -9223372036854775808 ≤ t ∧ t ≤ 9223372036854775807) (hlen : D.loose.length ≤ 1000000) :
    Calls Tryz.prog 25 #[.pointer (some ⟨q, 0, none⟩), .int .i64 n, .int .i64 t] w fun e w' => e = .returned (.tuple #[]) ∧ ToR Q w w' q (stCrash D n t) := by
  obtain ⟨R, R', A, A', c, c', v, hi⟩ := h
  obtain ⟨Av, cv, rfl⟩ := hi.row.shape
  have HQ := Lib.hid hi.blk.1
  have HG := Lib.hid (good_crash hi.good n t)
  have HFD := Lib.hid (hi.fit.crash n t)
  have HL : Hid (∀ V, Below w.heap.size w V → Later V q D R R' A A' Av c c' cv) := Lib.hid fun V hb => later_of hi hb
  have HM0 := Lib.hid (Mid.start hi)
  have HOK : Hid (∀ i (h : i < D.loose.length), D.loose[i].ok (runs D.sure (D.loose.take i)) ∧ FitC D.loose[i] ∧ (cTx D.loose[i]).size ≤ 16777216) := Lib.hid fun i h => ⟨oks_at _ _ _ _ hi.good.oks (List.getElem?_eq_getElem h), hi.fit.loose _ (List.getElem_mem h), ctx_len hi.good hi.fit h⟩
  have HST : Hid (∀ i (h : i < D.loose.length), runs D.sure (D.loose.take (i + 1)) = D.loose[i].run (runs D.sure (D.loose.take i))) := Lib.hid fun i h => runs_step _ _ i h
  obtain ⟨K, hK⟩ : ∃ K, K = keeps D n := ⟨_, rfl⟩
  obtain ⟨M, hM⟩ : ∃ M, max n 0 = M := ⟨_, rfl⟩
  have hmin : min M (D.loose.length : Int) = (K : Int) := by rw [hK, ← hM]; unfold keeps; omega
  have hKL : K ≤ D.loose.length := by omega
  have HK := Lib.hid hK
  have h0 := HL.out w (Below.refl _ _)
  have c1 : w.cell? ⟨q, 1, none⟩ = some (.slice A' R'.length c') := by rw [cell_of h0.blk]; rfl
  have c2 : w.cell? ⟨q, 2, none⟩ = some (.slice Av D.loose.length cv) := by rw [cell_of h0.blk]; rfl
  clear hi hK h0
  go_enter Tryz.func25, Tryz.ntmps25
  go_wp2
  clear hM hmin
  go_loopg [7, 8] (K + 1) (fun g1 vl vi wr => ∃ (i : Nat) (R1 : List Fl) (A1 : Option Addr) (c1 : Nat), vl = .slice A1 R1.length c1 ∧ vi = .int .i64 (i : Int) ∧ i ≤ K ∧ K + 1 - i ≤ g1 ∧ Hid (Dj11.Mid w Q (runs D.sure (D.loose.take i)) R1 A1 c1 wr))
  case atStart => exact ⟨0, R', A', c', rfl, rfl, by omega, by omega, HM0⟩
  case round =>
    obtain ⟨i, R1, A1, c1, rfl, rfl, hiK, hg1, HM⟩ := hrel
    clear HM0
    have hlt := HL.out wr HM.out.bel
    have c2 : wr.cell? ⟨q, 2, none⟩ = some (.slice Av D.loose.length cv) := by rw [cell_of hlt.blk]; rfl
    by_cases hik : i < K
    · have hiL : i < D.loose.length := by omega
      obtain ⟨g, rfl, x0, x1, x2, x3⟩ := hlt.call i hiL
      obtain ⟨hok, hfc, hsz⟩ := HOK.out i hiL
      have hst := HST.out i hiL
      obtain ⟨x, hx⟩ : ∃ x, x = D.loose[i] := ⟨_, rfl⟩
      rw [← hx] at x0 x1 x2 hok hfc hsz hst
      have hdn := done_any (w := wr) (cp := c1) HM.out.row.rd (by have := HM.out.len; omega) hfc (by omega) HM.out.texts
      unfold callV at hdn
      have HDN := Lib.hid hdn
      have HX := Lib.hid hok
      have HFC := Lib.hid hfc
      have HSE := Lib.hid hst
      have hzi : (i : Int) < (K : Int) := by omega
      have hzL : (i : Int) < (D.loose.length : Int) := by omega
      clear hlt hok hfc hst hx hdn
      go_wp2_with fail
      refine HDN.out.mono ?_
      intro e w3 hm
      obtain ⟨A2, c2', rfl, hmid⟩ := HM.out.done HFC.out HX.out hm
      rw [← HSE.out] at hmid
      obtain ⟨R2, hR2⟩ : ∃ R2, R2 = doneR R1 x := ⟨_, rfl⟩
      rw [← hR2] at hmid ⊢
      have HM2 := Lib.hid hmid
      clear hm hmid hR2
      go_wp2
      go_roundg (K - i)
      case measure => omega
      case rel => exact ⟨i + 1, R2, A2, c2', rfl, by go_num, by omega, by omega, HM2⟩
    · obtain rfl : i = K := by omega
      by_cases hend : i = D.loose.length
      · have hcr : crashed D n t = runs D.sure (D.loose.take i) := by rw [HK.out]; exact Ca.crashed_end D n t (by rw [← HK.out]; exact hend)
        have HM3 := Lib.hid (show Dj11.Mid w Q (crashed D n t) R1 A1 c1 wr from by rw [hcr]; exact HM.out)
        have hz : ¬ (i : Int) < (D.loose.length : Int) := by omega
        have hz2 : decide ((i : Int) < (D.loose.length : Int)) = false := decide_eq_false hz
        clear hcr hend
        have hL := HL.out wr HM3.out.bel
        have hWq := hL.blk
        unfold diskO at hWq
        have q0 : wr.cell? ⟨q, 0, none⟩ = some (.slice A R.length c) := by rw [cell_of hWq]; rfl
        have f0 := free_of hWq 0
        have HNE := Lib.hid (row_ne HM3.out hWq)
        have hs := sure_any (setCell_heap hWq 0 (.slice A1 R1.length c1))
        have HS := Lib.hid hs
        clear hL hWq hs
        go_wp2_with fail
        refine HS.out.mono ?_
        rintro e w5 ⟨rfl, ho, hz⟩
        unfold diskO at hz
        have r4 : w5.cell? ⟨q, 4, none⟩ = some (.int .i64 D.fuse) := by rw [cell_of hz]; rfl
        have g4 := free_of hz 4
        have hz2 := setCell_heap hz 4 (.int .i64 (-1))
        have r5 : (w5.setCell ⟨q, 4, none⟩ (.int .i64 (-1))).cell? ⟨q, 5, none⟩ = some (.bool D.still) := by rw [cell_of hz2]; rfl
        have g5 := free_of hz2 5
        have hz3 := setCell_heap hz2 5 (.bool false)
        have HZ3 := Lib.hid hz3
        have HO3 : Hid (Only q wr ((w5.setCell ⟨q, 4, none⟩ (.int .i64 (-1))).setCell ⟨q, 5, none⟩ (.bool false))) := Lib.hid ((((only_trans ((Only.refl q wr).set 0 _) ho)).set 4 _).set 5 _)
        clear ho hz hz2 hz3 HS q0 f0
        go_wp2
        go_end0
        exact ⟨rfl, crash_fin HQ.out HG.out HFD.out HM3.out HNE.out HO3.out HZ3.out⟩
      · have hiL : i < D.loose.length := by omega
        have hzL : (i : Int) < (D.loose.length : Int) := by omega
        have hz2 : decide ((i : Int) < (D.loose.length : Int)) = true := decide_eq_true hzL
        obtain ⟨g, rfl, x0, x1, x2, x3⟩ := hlt.call i hiL
        obtain ⟨hok, hfc, hsz⟩ := HOK.out i hiL
        have hget : D.loose[keeps D n]? = some D.loose[i] := by rw [← HK.out]; exact List.getElem?_eq_getElem hiL
        obtain ⟨x, hx⟩ : ∃ x, x = D.loose[i] := ⟨_, rfl⟩
        rw [← hx] at x0 x1 x2 hok hfc hsz hget
        by_cases h1 : cOp x = 1
        · obtain ⟨k, s, rfl⟩ := cop_app hfc h1
          simp only [cOp, cNm, cTx] at x0 x1 x2 hsz
          by_cases h2 : 0 < t
          · have hcr : crashed D n t = Cmd.run (runs D.sure (D.loose.take i)) (.app k (torn s t)) := by rw [HK.out]; exact Ca.crashed_torn D n t k s hget h2
            obtain ⟨J, hJ⟩ : ∃ J : Nat, min t (s.size : Int) = (J : Int) := ⟨(min t (s.size : Int)).toNat, by omega⟩
            have hJs : J ≤ s.size := by omega
            have htn : torn s t = s.extract 0 J := by unfold torn; rw [hJ]; rfl
            have hfc2 : FitC (.app k (torn s t)) := hfc
            have hok2 : Cmd.ok (runs D.sure (D.loose.take i)) (.app k (torn s t)) := by have h3 : Fm.used (runs D.sure (D.loose.take i)) + s.size ≤ 16777216 := hok; show Fm.used _ + (torn s t).size ≤ 16777216; have := torn_size s t; omega
            have hb4 : Below wr.heap.size wr (wr.alloc (callO (.app k (torn s t)))) := (Below.refl _ _).alloc (Nat.le_refl _) _
            have hm4 := HM.out.below hb4
            have hdn := done_any (cp := c1) hm4.row.rd (by have := hm4.len; omega) hfc2 (by show (torn s t).size ≤ _; have := torn_size s t; omega) hm4.texts
            have hbx := heap_new wr (callO (.app k s))
            simp only [callV, callO, cOp, cNm, cTx] at hdn hm4 hbx
            have HM4 := Lib.hid hm4
            have HDN := Lib.hid hdn
            have HOK2 := Lib.hid hok2
            have HFC2 := Lib.hid hfc2
            have HCR := Lib.hid hcr
            rw [htn] at HM4 HDN HOK2 HFC2 HCR
            obtain ⟨S, hS⟩ : ∃ S, S = s.extract 0 J := ⟨_, rfl⟩
            rw [← hS] at HM4 HDN HOK2 HFC2 HCR
            have hSx : s.extract 0 J = S := hS.symm
            have y0 : (wr.alloc (.cells #[.int .i64 1, .string k, .string s, .int .i64 0] 69 (0, 0))).cell? ⟨wr.heap.size, 0, none⟩ = some (.int .i64 1) := by rw [cell_of hbx]; rfl
            have y1 : (wr.alloc (.cells #[.int .i64 1, .string k, .string s, .int .i64 0] 69 (0, 0))).cell? ⟨wr.heap.size, 1, none⟩ = some (.string k) := by rw [cell_of hbx]; rfl
            have y2 : (wr.alloc (.cells #[.int .i64 1, .string k, .string s, .int .i64 0] 69 (0, 0))).cell? ⟨wr.heap.size, 2, none⟩ = some (.string s) := by rw [cell_of hbx]; rfl
            have y3 : (wr.alloc (.cells #[.int .i64 1, .string k, .string s, .int .i64 0] 69 (0, 0))).cell? ⟨wr.heap.size, 3, none⟩ = some (.int .i64 0) := by rw [cell_of hbx]; rfl
            have fy := free_of hbx 2
            clear hlt hok hfc hget hx h1 hcr htn hfc2 hok2 hb4 hm4 hdn hbx hS hend
            go_wp2_with fail
            refine HDN.out.mono ?_
            intro e w6 hm
            obtain ⟨A2, c2', rfl, hmid⟩ := HM4.out.done HFC2.out HOK2.out hm
            rw [← HCR.out] at hmid
            obtain ⟨R2, hR2⟩ : ∃ R2, R2 = doneR R1 (.app k S) := ⟨_, rfl⟩
            rw [← hR2] at hmid ⊢
            have HM6 := Lib.hid hmid
            clear hm hmid hR2
            have hL := HL.out w6 HM6.out.bel
            have hWq := hL.blk
            unfold diskO at hWq
            have q0 : w6.cell? ⟨q, 0, none⟩ = some (.slice A R.length c) := by rw [cell_of hWq]; rfl
            have f0 := free_of hWq 0
            have HNE := Lib.hid (row_ne HM6.out hWq)
            have hs := sure_any (setCell_heap hWq 0 (.slice A2 R2.length c2'))
            have HS := Lib.hid hs
            clear hL hWq hs
            go_wp2_with fail
            refine HS.out.mono ?_
            rintro e w5 ⟨rfl, ho, hz⟩
            unfold diskO at hz
            have r4 : w5.cell? ⟨q, 4, none⟩ = some (.int .i64 D.fuse) := by rw [cell_of hz]; rfl
            have g4 := free_of hz 4
            have hz2 := setCell_heap hz 4 (.int .i64 (-1))
            have r5 : (w5.setCell ⟨q, 4, none⟩ (.int .i64 (-1))).cell? ⟨q, 5, none⟩ = some (.bool D.still) := by rw [cell_of hz2]; rfl
            have g5 := free_of hz2 5
            have hz3 := setCell_heap hz2 5 (.bool false)
            have HZ3 := Lib.hid hz3
            have HO3 : Hid (Only q w6 ((w5.setCell ⟨q, 4, none⟩ (.int .i64 (-1))).setCell ⟨q, 5, none⟩ (.bool false))) := Lib.hid ((((only_trans ((Only.refl q w6).set 0 _) ho)).set 4 _).set 5 _)
            clear ho hz hz2 hz3 HS q0 f0
            go_wp2
            go_end0
            exact ⟨rfl, crash_fin HQ.out HG.out HFD.out HM6.out HNE.out HO3.out HZ3.out⟩
          · have hcr : crashed D n t = runs D.sure (D.loose.take i) := by rw [HK.out]; exact Ca.crashed_low D n t (by omega)
            have HM3 := Lib.hid (show Dj11.Mid w Q (crashed D n t) R1 A1 c1 wr from by rw [hcr]; exact HM.out)
            clear hlt hok hfc hget hx h1 hcr hend
            have hL := HL.out wr HM3.out.bel
            have hWq := hL.blk
            unfold diskO at hWq
            have q0 : wr.cell? ⟨q, 0, none⟩ = some (.slice A R.length c) := by rw [cell_of hWq]; rfl
            have f0 := free_of hWq 0
            have HNE := Lib.hid (row_ne HM3.out hWq)
            have hs := sure_any (setCell_heap hWq 0 (.slice A1 R1.length c1))
            have HS := Lib.hid hs
            clear hL hWq hs
            go_wp2_with fail
            refine HS.out.mono ?_
            rintro e w5 ⟨rfl, ho, hz⟩
            unfold diskO at hz
            have r4 : w5.cell? ⟨q, 4, none⟩ = some (.int .i64 D.fuse) := by rw [cell_of hz]; rfl
            have g4 := free_of hz 4
            have hz2 := setCell_heap hz 4 (.int .i64 (-1))
            have r5 : (w5.setCell ⟨q, 4, none⟩ (.int .i64 (-1))).cell? ⟨q, 5, none⟩ = some (.bool D.still) := by rw [cell_of hz2]; rfl
            have g5 := free_of hz2 5
            have hz3 := setCell_heap hz2 5 (.bool false)
            have HZ3 := Lib.hid hz3
            have HO3 : Hid (Only q wr ((w5.setCell ⟨q, 4, none⟩ (.int .i64 (-1))).setCell ⟨q, 5, none⟩ (.bool false))) := Lib.hid ((((only_trans ((Only.refl q wr).set 0 _) ho)).set 4 _).set 5 _)
            clear ho hz hz2 hz3 HS q0 f0
            go_wp2
            go_end0
            exact ⟨rfl, crash_fin HQ.out HG.out HFD.out HM3.out HNE.out HO3.out HZ3.out⟩
        · have hcr : crashed D n t = runs D.sure (D.loose.take i) := by rw [HK.out]; exact Ca.crashed_other D n t x hget (fun k s e => h1 (by rw [e]; rfl))
          have HM3 := Lib.hid (show Dj11.Mid w Q (crashed D n t) R1 A1 c1 wr from by rw [hcr]; exact HM.out)
          have hz3 : (cOp x == 1) = false := by simpa using h1
          clear hlt hok hfc hget hx h1 hcr hend
          have hL := HL.out wr HM3.out.bel
          have hWq := hL.blk
          unfold diskO at hWq
          have q0 : wr.cell? ⟨q, 0, none⟩ = some (.slice A R.length c) := by rw [cell_of hWq]; rfl
          have f0 := free_of hWq 0
          have HNE := Lib.hid (row_ne HM3.out hWq)
          have hs := sure_any (setCell_heap hWq 0 (.slice A1 R1.length c1))
          have HS := Lib.hid hs
          clear hL hWq hs
          go_wp2_with fail
          refine HS.out.mono ?_
          rintro e w5 ⟨rfl, ho, hz⟩
          unfold diskO at hz
          have r4 : w5.cell? ⟨q, 4, none⟩ = some (.int .i64 D.fuse) := by rw [cell_of hz]; rfl
          have g4 := free_of hz 4
          have hz2 := setCell_heap hz 4 (.int .i64 (-1))
          have r5 : (w5.setCell ⟨q, 4, none⟩ (.int .i64 (-1))).cell? ⟨q, 5, none⟩ = some (.bool D.still) := by rw [cell_of hz2]; rfl
          have g5 := free_of hz2 5
          have hz3 := setCell_heap hz2 5 (.bool false)
          have HZ3 := Lib.hid hz3
          have HO3 : Hid (Only q wr ((w5.setCell ⟨q, 4, none⟩ (.int .i64 (-1))).setCell ⟨q, 5, none⟩ (.bool false))) := Lib.hid ((((only_trans ((Only.refl q wr).set 0 _) ho)).set 4 _).set 5 _)
          clear ho hz hz2 hz3 HS q0 f0
          go_wp2
          go_end0
          exact ⟨rfl, crash_fin HQ.out HG.out HFD.out HM3.out HNE.out HO3.out HZ3.out⟩
end Go.Proofs.YtaoneiicoaiehaaGreat.Dj11
