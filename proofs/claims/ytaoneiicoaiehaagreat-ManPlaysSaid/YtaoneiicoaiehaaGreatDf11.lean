/- The contract of the document's Do. -/
import Derived.Test.YtaoneiicoaiehaaGreatDe11
import Derived.Deep.RegionLaw
import Derived.Laws.EntriesVeiled
namespace Go.Proofs.YtaoneiicoaiehaaGreat.Df11
open Go Go.RowKit Go.Lib Go.Proofs.YtaoneiicoaiehaaGreat Go.Proofs.YtaoneiicoaiehaaGreat.Dh Go.Proofs.YtaoneiicoaiehaaGreat.Dk Go.Proofs.YtaoneiicoaiehaaGreat.Fm Go.Proofs.YtaoneiicoaiehaaGreat.Nm Go.Proofs.YtaoneiicoaiehaaGreat.St Go.Proofs.YtaoneiicoaiehaaGreat.Sy Go.Proofs.YtaoneiicoaiehaaGreat.Ol11 Go.Proofs.YtaoneiicoaiehaaGreat.Fr11 Go.Proofs.YtaoneiicoaiehaaGreat.Fq11 Go.Proofs.YtaoneiicoaiehaaGreat.Ck11 Go.Proofs.YtaoneiicoaiehaaGreat.Fz11 Go.Proofs.YtaoneiicoaiehaaGreat.Fw11 Go.Proofs.YtaoneiicoaiehaaGreat.Fx11 Go.Proofs.YtaoneiicoaiehaaGreat.Fy11 Go.Proofs.YtaoneiicoaiehaaGreat.Ap11 Go.Proofs.YtaoneiicoaiehaaGreat.Kp11 Go.Proofs.YtaoneiicoaiehaaGreat.Sv11 Go.Proofs.YtaoneiicoaiehaaGreat.Da11 Go.Proofs.YtaoneiicoaiehaaGreat.Db11 Go.Proofs.YtaoneiicoaiehaaGreat.Dc11 Go.Proofs.YtaoneiicoaiehaaGreat.Dd11 Go.Proofs.YtaoneiicoaiehaaGreat.De11
theorem step_call {ops : Array Oper} {o : Oper} {a : Act} {w : World} {K : Act → World → Prop} {Q : Exit → Act → World → Prop} {E : Prop}
    (hg : o.guard = none) (s x : Operand) (hop : o.op = Op.call { callee := Callee.builtin Builtin.append, args := #[s, x], argTypes := #[41, 41] })
    (v : Value) (l : List Cmd) (c : Cmd) (nb : Nat) (hs : a.eval s = v) (hx : a.eval x = .slice (some ⟨nb, 0, none⟩) 1 1) (hl : w.ownsRow 0 69 4 v l.length (cellsC l))
    (hn : ∀ j u, (cells4 c)[j]? = some u → w.cell? ((⟨nb, 0, none⟩ : Addr).add j) = some u) (hlen : l.length ≤ 1000000)
    (hK : ∀ v' w', w'.ownsRow 0 69 4 v' (l.length + 1) (cellsC l ++ cells4 c) → w.grownBy w' v.ownBlock → (v'.ownBlock = v.ownBlock ∨ v'.ownBlock = some w.heap.size) → K (a.put o.dst v') w') :
    if Region.wanted o (yielded ops a.tmps) = true then Oper.wp Tryz.prog o a w K Q else E := by
  obtain ⟨i0, hi, iz0, iz1, iz2⟩ := info_parts infoC
  have hw : Region.wanted o (yielded ops a.tmps) = true := by simp [Region.wanted, hg]
  rw [if_pos hw]
  obtain ⟨v', w', hrun, r1, r2, _, r4⟩ := run_append_own_at (P := Tryz.prog) (w := w) 0 41 o.type 69 i0 _ 4 48 Tryz.underlying41 hi iz0 iz1 iz2 rfl (by decide) v l.length (cellsC l) hl ⟨nb, 0, none⟩ 1 1 (cells4 c) rfl hn (one4 c) (by unfold maxLen; omega) (by omega) (Nat.zero_le _)
  unfold Oper.wp
  simp [execOp, hop, resolve, invoke, builtin, hs, hx, hrun, Result.andThen]
  exact hK _ _ r1 r2 r4
theorem may_ok {D : St} (hg : St.Good D) {c : Cmd} (hc : FitC c) (h : mayS D c = 0) : c.ok D.now := by
  have hu := hg.now
  have hr := hg.room
  unfold mayS at h
  cases hs : D.still with
  | true => rw [hs, if_pos rfl] at h; exact absurd h (by decide)
  | false =>
    rw [hs, if_neg (by decide)] at h
    cases c with
    | app k s =>
      show used D.now + s.size ≤ 16777216
      by_cases h0 : s.size ≠ 0 ∧ D.room < (used D.now : Int) + s.size
      · simp only [if_pos h0] at h; exact absurd h (by decide)
      · by_cases h1 : s.size = 0
        · omega
        · have : ¬ D.room < (used D.now : Int) + s.size := fun h2 => h0 ⟨h1, h2⟩
          omega
    | cut k n => exact hc.elim
    | mov j k =>
      refine ⟨hc.2.2, ?_⟩
      cases hg : (Fm.get D.now j).isSome with
      | true => rfl
      | false => simp only [hg] at h; exact absurd h (by decide)
    | rem k => exact trivial
/-- The row of files and the row of calls are laid. -/
theorem do_fin {w2 w3 w6 : World} {Q : Nat → Prop} {q : Nat} {D2 : St} {c : Cmd} {R R' R2 : List Fl} {A A' A2 : Option Addr} {cp cp' c2 : Nat} {v v2 : Value} (hi : RefIs w2 Q q D2 R R' A A' cp cp' v) (hc : FitC c) (hok : c.ok D2.now)
    (o1 : RowF w2.heap.size R2 (.slice A2 R2.length c2) w3) (o2 : Below w2.heap.size w2 w3) (hR2 : doneR R c = R2)
    (r1 : w6.ownsRow 0 69 4 v2 (D2.loose.length + 1) (cellsC D2.loose ++ cells4 c)) (r2 : ((w3.setCell ⟨q, 0, none⟩ (.slice A2 R2.length c2)).alloc (callO c)).grownBy w6 v.ownBlock)
    (r4 : v2.ownBlock = v.ownBlock ∨ v2.ownBlock = some ((w3.setCell ⟨q, 0, none⟩ (.slice A2 R2.length c2)).alloc (callO c)).heap.size) :
    (w6.cell? ⟨q, 2, none⟩ = some v ∧ w6.frozen? ⟨q, 2, none⟩ = false) ∧ ToR Q w2 (w6.setCell ⟨q, 2, none⟩ v2) q { D2 with now := c.run D2.now, loose := D2.loose ++ [c] } := by
  have hq2 : q < w2.heap.size := lt_of_at hi.blk.2
  have hs23 := o2.size
  have hs4 : (w3.setCell ⟨q, 0, none⟩ (.slice A2 R2.length c2)).heap.size = w3.heap.size := World.size_setCell ..
  have hsW : ((w3.setCell ⟨q, 0, none⟩ (.slice A2 R2.length c2)).alloc (callO c)).heap.size = w3.heap.size + 1 := by rw [size_alloc, hs4]
  have hs6 := r2.size
  have hvq : ∀ b, v.ownBlock = some b → b ≠ q := fun b hb => neC hi hb
  have h3q := (o2.block q hq2).trans hi.blk.2
  have h4q := setCell_heap h3q 0 (.slice A2 R2.length c2)
  have hWq := (heap_alloc _ (callO c) q (by rw [hs4]; omega)).trans h4q
  have h6q := (r2.block q (by rw [hsW]; omega) (fun e => hvq q e.symm rfl)).trans hWq
  have h7q := setCell_heap h6q 2 v2
  have hs7 : (w6.setCell ⟨q, 2, none⟩ v2).heap.size = w6.heap.size := World.size_setCell ..
  have h37 : ∀ b, b < w3.heap.size → b ≠ q → v.ownBlock ≠ some b → (w6.setCell ⟨q, 2, none⟩ v2).heap[b]? = w3.heap[b]? := fun b hb hne hv => by
    rw [heap_setCell_other _ _ _ _ hne, r2.block b (by rw [hsW]; omega) (fun e => hv e.symm), heap_alloc _ _ _ (by rw [hs4]; omega), heap_setCell_other _ _ _ _ hne]
  have h27 : ∀ b, b < w2.heap.size → b ≠ q → v.ownBlock ≠ some b → (w6.setCell ⟨q, 2, none⟩ v2).heap[b]? = w2.heap[b]? := fun b hb hne hv => (h37 b (by omega) hne hv).trans (o2.block b hb)
  have hvQ : ∀ b, v.ownBlock = some b → Q b := hi.row.2
  have hvlt : ∀ b, v.ownBlock = some b → b < w2.heap.size := fun b hb => by obtain ⟨cs, hx⟩ := hi.row.blk hb; exact lt_of_at hx
  refine ⟨⟨by rw [cell_of h6q]; rfl, free_of h6q 2⟩, ⟨?_, ?_, ?_, ?_, ?_⟩, R2, R', A2, A', c2, cp', v2, ⟨.inl hi.blk.1, h7q⟩, ?_, ?_, ?_, hi.rsure, ?_, ?_, ?_⟩
  · exact (show (w6.setCell ⟨q, 2, none⟩ v2).os = w6.os from rfl).trans (r2.os.trans o2.os)
  · exact (show (w6.setCell ⟨q, 2, none⟩ v2).tape = w6.tape from rfl).trans (r2.tape.trans o2.tape)
  · exact (show (w6.setCell ⟨q, 2, none⟩ v2).output = w6.output from rfl).trans (r2.output.trans o2.output)
  · rw [hs7]; omega
  · intro b hb hn
    exact h27 b hb (fun e => hn (e ▸ hi.blk.1)) (fun e => hn (hvQ b e))
  · have hrow := RowF.lt o1
    refine ⟨?_, fun b hb => .inr ⟨(hrow b hb).1, by rw [hs7]; have := (hrow b hb).2; omega⟩⟩
    refine RowF.keep (rowF_base o1 (Nat.zero_le _)) fun b hb => ?_
    have hl := hrow b hb
    exact h37 b hl.2 (by omega) (fun e => by have := hvlt b e; omega)
  · refine hi.sure.keep1 (fun b hb => ?_) grow_up
    obtain ⟨cs, hcs⟩ := hi.sure.blk hb
    refine h27 b (lt_of_at hcs) (neB hi hb) (fun e => ?_)
    obtain ⟨cs', hcs'⟩ := hi.row.blk e
    rw [hcs] at hcs'
    injection hcs' with hx
    injection hx with _ hx _
    exact absurd hx (by decide)
  · rw [← hR2]
    exact hi.rnow.run hi.fit.now.uq c (fun j k e => by subst e; exact hc.2.2)
  · have hr : RowC w6 (fun b => v2.ownBlock = some b) (D2.loose ++ [c]) v2 := by
      refine ⟨?_, fun b hb => hb⟩
      rw [List.length_append, cellsC_append]
      have e : cellsC [c] = cells4 c := by show cells4 c ++ [] = _; rw [List.append_nil]
      rw [e]; exact r1
    have hne : ∀ b, v2.ownBlock = some b → b ≠ q := fun b hb => by
      rcases r4 with e | e
      · exact hvq b (e.symm.trans hb)
      · rw [e] at hb; injection hb with hb; omega
    refine hr.keep1 (fun b hb => heap_setCell_other _ _ _ _ (hne b hb)) (fun b hb => ?_)
    obtain ⟨cs, hcs⟩ := hr.blk hb
    have hlt := lt_of_at hcs
    rcases r4 with e | e
    · exact .inl (hvQ b (e.symm.trans hb))
    · rw [e] at hb; injection hb with hb; exact .inr ⟨by omega, by rw [hs7]; exact hlt⟩
  · refine ⟨hi.fit.now.run hc, hi.fit.sure, fun x hx => ?_⟩
    rcases List.mem_append.1 hx with e | e
    · exact hi.fit.loose x e
    · rw [List.mem_singleton] at e; rw [e]; exact hc
  · exact ⟨oks_snoc c _ _ hi.good.oks (by rw [hi.good.runs]; exact hok), by show runs D2.sure (D2.loose ++ [c]) = _; rw [runs_snoc, hi.good.runs], hi.good.used, hi.good.room, hi.good.fuse⟩
theorem row_shape {w : World} {n : Nat} {v : Value} {xs : List Value} (h : w.ownsRow 0 69 4 v n xs) : ∃ A c, v = .slice A n c := by
  rcases h.2 with ⟨rfl, h0⟩ | ⟨g, cap, cur, rfl, _⟩
  · exact ⟨none, 0, by rw [h0]⟩
  · exact ⟨_, cap, rfl⟩
theorem only_to {w w' : World} {Q : Nat → Prop} {q : Nat} {D : St} {R R' : List Fl} {A A' : Option Addr} {c c' : Nat} {v : Value} (ho : Only q w w') (hq : Q q) (h : RefIs w' Q q D R R' A A' c c' v) : ToR Q w w' q D :=
  ⟨ho.tread hq, RefAt.move ⟨R, R', A, A', c, c', v, h⟩ (Nat.le_refl _) (fun _ _ _ => rfl) grow_up⟩
/-- What Do answers and leaves. -/
def Does (w : World) (Q : Nat → Prop) (q : Nat) (r : Int × St) (e : Ending) (w' : World) : Prop := e = .returned (.int .i64 r.1) ∧ ToR Q w w' q r.2
theorem fin_go {w w1 w2 w7 : World} {Q : Nat → Prop} {q : Nat} {D : St} {c : Cmd} (hb : (burnt D).1 = 0) (h1 : Below w.heap.size w w1) (ho : Only q w1 w2) (hq : Q q) (hz : ToR Q w2 w7 q { (burnt D).2 with now := c.run (burnt D).2.now, loose := (burnt D).2.loose ++ [c] }) :
    Does w Q q (doing D c) (.returned (.int .i64 0)) w7 := by
  have e : doing D c = (0, { (burnt D).2 with now := c.run (burnt D).2.now, loose := (burnt D).2.loose ++ [c] }) := by
    unfold doing
    rw [if_pos hb, burnt_now, burnt_loose]
  rw [e]
  refine ⟨rfl, ToR.pre h1 ⟨(ho.tread hq).trans (hz.1.mono grow_up), hz.2.move (Nat.le_refl _) (fun _ _ _ => rfl) fun b hb => hb.elim .inl fun x => .inr ⟨by have := ho.size; omega, x.2⟩⟩⟩
set_option maxRecDepth 100000 in
set_option maxHeartbeats 16000000 in
theorem do_any {w : World} {Q : Nat → Prop} {q : Nat} {D : St} (h : RefAt w Q q D) {c : Cmd} (hc : FitC c) (hs : (cTx c).size ≤ 1099511627776) (hlen : D.loose.length ≤ 1000000) :
    Calls Tryz.prog 27 #[.pointer (some ⟨q, 0, none⟩), callV c] w (Does w Q q (doS D c)) := by
  have hb0 : Below w.heap.size w (w.alloc (callO c)) := (Below.refl _ _).alloc (Nat.le_refl _) _
  have HM := Lib.hid (may_any (h.below hb0) hc hs)
  have hbx := heap_new w (callO c)
  have b0 : (w.alloc (callO c)).cell? ⟨w.heap.size, 0, none⟩ = some (.int .i64 (cOp c)) := by rw [cell_of hbx]; rfl
  have b1 : (w.alloc (callO c)).cell? ⟨w.heap.size, 1, none⟩ = some (.string (cNm c)) := by rw [cell_of hbx]; rfl
  have b2 : (w.alloc (callO c)).cell? ⟨w.heap.size, 2, none⟩ = some (.string (cTx c)) := by rw [cell_of hbx]; rfl
  have b3 : (w.alloc (callO c)).cell? ⟨w.heap.size, 3, none⟩ = some (.int .i64 0) := by rw [cell_of hbx]; rfl
  have HB := Lib.hid hb0
  have HBX := Lib.hid hbx
  have H := Lib.hid h
  have HC := Lib.hid hc
  have hgood : St.Good D := by obtain ⟨_, _, _, _, _, _, _, hx⟩ := h; exact hx.good
  have HOK : mayS D c = 0 → Hid (c.ok D.now) := fun hm => Lib.hid (may_ok hgood hc hm)
  unfold doS
  unfold callV at HM ⊢
  unfold callO at HB HBX b0 b1 b2 b3 HM
  obtain ⟨k, hk⟩ : ∃ k, k = mayS D c := ⟨_, rfl⟩
  rw [← hk] at HM HOK ⊢
  clear h hc hb0 hbx hk hgood
  by_cases h0 : k = 0
  · subst h0
    replace HOK := HOK rfl
    go_enter Tryz.func27, Tryz.ntmps27
    go_wp2_with fail
    refine HM.out.mono ?_
    rintro e w1 ⟨rfl, hb1⟩
    have hb01 : Below w.heap.size w w1 := HB.out.trans (hb1.mono HB.out.size)
    obtain ⟨R, R', A, A', cp, cp', v, hi⟩ := H.out.below hb01
    have hbx1 := (hb1.block _ (lt_of_at HBX.out)).trans HBX.out
    have hqlt : q < w.heap.size := by obtain ⟨_, _, _, _, _, _, _, hx⟩ := H.out; exact lt_of_at hx.blk.2
    have HQ := Lib.hid (show w.heap.size ≠ q by omega)
    have HB01 := Lib.hid hb01
    have HI := Lib.hid hi
    have HBX1 := Lib.hid hbx1
    have hbu := burn_any hi
    unfold Burns at hbu
    by_cases hb : (burnt D).1 = 0
    · have hd : decide ((burnt D).1 = 0) = true := decide_eq_true hb
      rw [hd] at hbu
      have HBU := Lib.hid hbu
      have HBN := Lib.hid hb
      clear hb01 hi hbx1 hqlt hbu hb hd hb1 HM
      go_wp2_with fail
      refine HBU.out.mono ?_
      rintro e w2 ⟨rfl, ho, hi2⟩
      have hbx2 := (ho.block _ HQ.out).trans HBX1.out
      have HO := Lib.hid ho
      have HI2 := Lib.hid hi2
      have HBX2 := Lib.hid hbx2
      have c0 : w2.cell? ⟨q, 0, none⟩ = some (.slice A R.length cp) := by rw [cell_of hi2.blk.2]; rfl
      have f0 := free_of hi2.blk.2 0
      have b0 : w2.cell? ⟨w.heap.size, 0, none⟩ = some (.int .i64 (cOp c)) := by rw [cell_of hbx2]; rfl
      have b1 : w2.cell? ⟨w.heap.size, 1, none⟩ = some (.string (cNm c)) := by rw [cell_of hbx2]; rfl
      have b2 : w2.cell? ⟨w.heap.size, 2, none⟩ = some (.string (cTx c)) := by rw [cell_of hbx2]; rfl
      have b3 : w2.cell? ⟨w.heap.size, 3, none⟩ = some (.int .i64 0) := by rw [cell_of hbx2]; rfl
      have hl2 := Da11.RF.len hi2.rnow hi2.fit.now
      have htx : ∀ k, (textR R k).size ≤ 1099511627776 := fun k => by
        rw [hi2.rnow.text k, Fl7.bs_size]
        have h1 := txt_le k (burnt D).2.now
        have h2 := hi2.good.now
        omega
      have hdn := done_any (w := w2.drew) (cp := cp) (show RdF w2.drew A R from hi2.now.rd) (by omega) HC.out hs htx
      unfold callV at hdn
      generalize hR2 : doneR R c = R2 at hdn
      have HR2 := Lib.hid hR2
      have HDN := Lib.hid hdn
      clear ho hi2 hbx2 hl2 htx hdn hR2 HBU
      go_wp2
      go_region_law ((go_simp; go_at_call 46; (with_reducible refine HDN.out.mono ?_); rintro e w3 ⟨A2, c2, rfl, o1, o2⟩; have q0 := (o2.cell (p := ⟨q, 0, none⟩) (lt_of_at HI2.out.blk.2)).trans c0; have g0 := (o2.frozen (p := ⟨q, 0, none⟩) (lt_of_at HI2.out.blk.2)).trans f0; have HO1 := Lib.hid o1; have HO2 := Lib.hid o2; clear o1 o2))
      all_goals
        obtain ⟨Av, cv, rfl⟩ := HI2.out.row.shape
        have h3q := (HO2.out.block q (lt_of_at HI2.out.blk.2)).trans HI2.out.blk.2
        have h4q := setCell_heap h3q 0 (.slice A2 R2.length c2)
        have k2 : (w3.setCell ⟨q, 0, none⟩ (.slice A2 R2.length c2)).cell? ⟨q, 2, none⟩ = some (.slice Av (burnt D).2.loose.length cv) := by rw [cell_of h4q]; rfl
        have h4qa := (heap_alloc _ (callO c) q (lt_of_at h4q)).trans h4q
        unfold callO at h4qa
        have k2a : ((w3.setCell ⟨q, 0, none⟩ (.slice A2 R2.length c2)).alloc (.cells #[.int .i64 (cOp c), .string (cNm c), .string (cTx c), .int .i64 0] 69 (0, 0))).cell? ⟨q, 2, none⟩ = some (.slice Av (burnt D).2.loose.length cv) := by rw [cell_of h4qa]; rfl
        have h4b := (heap_setCell_other w3 ⟨q, 0, none⟩ w.heap.size (.slice A2 R2.length c2) HQ.out).trans ((HO2.out.block _ (lt_of_at HBX2.out)).trans HBX2.out)
        have p0 : (w3.setCell ⟨q, 0, none⟩ (.slice A2 R2.length c2)).cell? ⟨w.heap.size, 0, none⟩ = some (.int .i64 (cOp c)) := by rw [cell_of h4b]; rfl
        have p1 : (w3.setCell ⟨q, 0, none⟩ (.slice A2 R2.length c2)).cell? ⟨w.heap.size, 1, none⟩ = some (.string (cNm c)) := by rw [cell_of h4b]; rfl
        have p2 : (w3.setCell ⟨q, 0, none⟩ (.slice A2 R2.length c2)).cell? ⟨w.heap.size, 2, none⟩ = some (.string (cTx c)) := by rw [cell_of h4b]; rfl
        have p3 : (w3.setCell ⟨q, 0, none⟩ (.slice A2 R2.length c2)).cell? ⟨w.heap.size, 3, none⟩ = some (.int .i64 0) := by rw [cell_of h4b]; rfl
        have hll : (burnt D).2.loose.length ≤ 1000000 := by rw [burnt_loose]; exact hlen
        have hok : c.ok (burnt D).2.now := by rw [burnt_now]; exact HOK.out
        have hFIN : ∀ (w6 : World) (v2 : Value), w6.ownsRow 0 69 4 v2 ((burnt D).2.loose.length + 1) (cellsC (burnt D).2.loose ++ cells4 c) → ((w3.setCell ⟨q, 0, none⟩ (.slice A2 R2.length c2)).drew.alloc (callO c)).grownBy w6 (Value.slice Av (burnt D).2.loose.length cv).ownBlock →
            (v2.ownBlock = (Value.slice Av (burnt D).2.loose.length cv).ownBlock ∨ v2.ownBlock = some ((w3.setCell ⟨q, 0, none⟩ (.slice A2 R2.length c2)).drew.alloc (callO c)).heap.size) →
            (w6.cell? ⟨q, 2, none⟩ = some (.slice Av (burnt D).2.loose.length cv) ∧ w6.frozen? ⟨q, 2, none⟩ = false) ∧ ToR Q w2 (w6.setCell ⟨q, 2, none⟩ v2) q { (burnt D).2 with now := c.run (burnt D).2.now, loose := (burnt D).2.loose ++ [c] } := fun w6 v2 r1 r2 r4 =>
          do_fin HI2.out HC.out hok HO1.out ⟨HO2.out.os, HO2.out.tape, HO2.out.output, HO2.out.size, HO2.out.block⟩ HR2.out r1 ⟨r2.os, r2.tape, r2.output, r2.size, r2.block⟩ r4
        have hrow : ((w3.setCell ⟨q, 0, none⟩ (.slice A2 R2.length c2)).drew.alloc (callO c)).ownsRow 0 69 4 (.slice Av (burnt D).2.loose.length cv) (burnt D).2.loose.length (cellsC (burnt D).2.loose) := by
          refine (RowC.keep1 (Q := Q) (Q' := Q) HI2.out.row (fun b hb => ?_) (fun _ x => x)).1
          obtain ⟨cs, hcs⟩ := HI2.out.row.blk hb
          have hlt := lt_of_at hcs
          have h1 : b < (w3.setCell ⟨q, 0, none⟩ (.slice A2 R2.length c2)).heap.size := by rw [World.size_setCell]; have := HO2.out.size; exact Nat.lt_of_lt_of_le hlt this
          exact (heap_alloc _ _ _ h1).trans ((heap_setCell_other _ _ _ _ (neC HI2.out hb)).trans (HO2.out.block b hlt))
        have hnew := news4 (w3.setCell ⟨q, 0, none⟩ (.slice A2 R2.length c2)).drew c
        have hsz3 : (w3.setCell ⟨q, 0, none⟩ (.slice A2 R2.length c2)).drew.heap.size = w3.heap.size := World.size_setCell ..
        rw [hsz3] at hnew
        unfold callO at hFIN hrow hnew
        have HFIN := Lib.hid hFIN
        have HROW := Lib.hid hrow
        have HNEW := Lib.hid hnew
        clear h3q h4q h4qa h4b hFIN hrow hnew hsz3 hok c0 f0 q0 g0 b0 b1 b2 b3
        go_wp2
        go_region_law (refine step_call rfl _ _ rfl _ (burnt D).2.loose c w3.heap.size rfl rfl HROW.out HNEW.out hll ?_; intro v2 w6 r1 r2 r4; obtain ⟨a1, c1, rfl⟩ := row_shape r1; have hq := HFIN.out _ _ r1 r2 r4; have q5 := hq.1.1; have q6 := hq.1.2; have HZ := Lib.hid hq.2; clear hq r1 r2 r4)
        all_goals
          go_wp2
          go_ret
          exact fin_go HBN.out HB01.out HO.out HI.out.blk.1 HZ.out
    · have hd : decide ((burnt D).1 = 0) = false := decide_eq_false hb
      rw [hd] at hbu
      have HBU := Lib.hid hbu
      have HBN := Lib.hid (show doing D c = burnt D from by unfold doing; rw [if_neg hb])
      have HB20 := Lib.hid ((burnt_or D).resolve_left hb)
      clear hb01 hi hbx1 hqlt hbu hb hd hb1 HM
      go_wp2_with fail
      refine HBU.out.mono ?_
      rintro e w2 ⟨rfl, ho, hi2⟩
      have HO := Lib.hid ho
      have HI2 := Lib.hid hi2
      clear ho hi2
      go_wp2
      go_ret
      refine ⟨by rw [HBN.out, HB20.out]; rfl, ?_⟩
      rw [HBN.out]
      exact ToR.pre HB01.out (only_to HO.out HI.out.blk.1 HI2.out)
  · rw [if_neg h0]
    clear HOK
    have hz : (k == 0) = false := by simpa using h0
    clear h0
    go_enter Tryz.func27, Tryz.ntmps27
    go_wp2_with fail
    refine HM.out.mono ?_
    rintro e w1 ⟨rfl, hb1⟩
    have HB1 := Lib.hid hb1
    clear hb1
    go_wp2
    go_ret
    exact ⟨rfl, ToR.of_below H.out (HB.out.trans (HB1.out.mono HB.out.size))⟩
end Go.Proofs.YtaoneiicoaiehaaGreat.Df11
