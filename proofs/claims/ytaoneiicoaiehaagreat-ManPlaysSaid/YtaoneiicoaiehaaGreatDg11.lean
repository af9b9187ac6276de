/- The contracts of the document's sure, Sync, Fuse, Read, New. -/
import Derived.Test.YtaoneiicoaiehaaGreatDf11
namespace Go.Proofs.YtaoneiicoaiehaaGreat.Dg11
open Go Go.RowKit Go.Lib Go.Proofs.YtaoneiicoaiehaaGreat Go.Proofs.YtaoneiicoaiehaaGreat.Dh Go.Proofs.YtaoneiicoaiehaaGreat.Dk Go.Proofs.YtaoneiicoaiehaaGreat.Fm Go.Proofs.YtaoneiicoaiehaaGreat.Nm Go.Proofs.YtaoneiicoaiehaaGreat.St Go.Proofs.YtaoneiicoaiehaaGreat.Sy Go.Proofs.YtaoneiicoaiehaaGreat.Ol11 Go.Proofs.YtaoneiicoaiehaaGreat.Fr11 Go.Proofs.YtaoneiicoaiehaaGreat.Fq11 Go.Proofs.YtaoneiicoaiehaaGreat.Ck11 Go.Proofs.YtaoneiicoaiehaaGreat.Fz11 Go.Proofs.YtaoneiicoaiehaaGreat.Fw11 Go.Proofs.YtaoneiicoaiehaaGreat.Fx11 Go.Proofs.YtaoneiicoaiehaaGreat.Fy11 Go.Proofs.YtaoneiicoaiehaaGreat.Ap11 Go.Proofs.YtaoneiicoaiehaaGreat.Kp11 Go.Proofs.YtaoneiicoaiehaaGreat.Sv11 Go.Proofs.YtaoneiicoaiehaaGreat.Da11 Go.Proofs.YtaoneiicoaiehaaGreat.Db11 Go.Proofs.YtaoneiicoaiehaaGreat.Dc11 Go.Proofs.YtaoneiicoaiehaaGreat.Dd11 Go.Proofs.YtaoneiicoaiehaaGreat.De11 Go.Proofs.YtaoneiicoaiehaaGreat.Df11
def diskO (lv sv v : Value) (r f : Int) (s : Bool) : Obj := .cells #[lv, sv, v, .int .i64 r, .int .i64 f, .bool s] 43 (0, 0)
set_option maxRecDepth 100000 in
set_option maxHeartbeats 4000000 in
theorem sure_any {w : World} {q : Nat} {A A' Av : Option Addr} {n c n' c' nv cv : Nat} {r f : Int} {s : Bool} (h : w.heap[q]? = some (diskO (.slice A n c) (.slice A' n' c') (.slice Av nv cv) r f s)) :
    Calls Tryz.prog 47 #[.pointer (some ⟨q, 0, none⟩)] w fun e w' => e = .returned (.tuple #[]) ∧ Only q w w' ∧ w'.heap[q]? = some (diskO (.slice A n c) (.slice A n c) (.slice none 0 0) r f s) := by
  unfold diskO at h
  have c0 : w.cell? ⟨q, 0, none⟩ = some (.slice A n c) := by rw [cell_of h]; rfl
  have c1 : w.cell? ⟨q, 1, none⟩ = some (.slice A' n' c') := by rw [cell_of h]; rfl
  have c2 : w.cell? ⟨q, 2, none⟩ = some (.slice Av nv cv) := by rw [cell_of h]; rfl
  have f1 := free_of h 1
  have f2 := free_of h 2
  have h1 := setCell_heap h 1 (.slice A n c)
  have c2' : (w.setCell ⟨q, 1, none⟩ (.slice A n c)).cell? ⟨q, 2, none⟩ = some (.slice Av nv cv) := by rw [cell_of h1]; rfl
  have f2' := free_of h1 2
  have HZ := Lib.hid (setCell_heap h1 2 (.slice none 0 0))
  clear h h1
  go_enter Tryz.func47, Tryz.ntmps47
  go_wp2
  go_end0
  exact ⟨rfl, ((Only.refl q w).set 1 _).set 2 _, HZ.out⟩
theorem only_trans {q : Nat} {a b c : World} (h : Only q a b) (k : Only q b c) : Only q a c := ⟨k.os.trans h.os, k.tape.trans h.tape, k.output.trans h.output, k.size.trans h.size, fun b hb => (k.block b hb).trans (h.block b hb)⟩
theorem ref_o {w : World} {Q : Nat → Prop} {q : Nat} {D : St} {R R' : List Fl} {A A' : Option Addr} {c c' : Nat} {v : Value} (h : RefIs w Q q D R R' A A' c c' v) : w.heap[q]? = some (diskO (.slice A R.length c) (.slice A' R'.length c') v D.room D.fuse D.still) := h.blk.2
/-- All is sure. -/
theorem is_sure {w w' : World} {Q : Nat → Prop} {q : Nat} {D : St} {R R' : List Fl} {A A' : Option Addr} {c c' : Nat} {v : Value} (h : RefIs w Q q D R R' A A' c c' v) (ho : Only q w w') (hb : w'.heap[q]? = some (diskO (.slice A R.length c) (.slice A R.length c) (.slice none 0 0) D.room D.fuse D.still)) :
    RefIs w' Q q { D with sure := D.now, loose := [] } R R A A c c (.slice none 0 0) :=
  ⟨⟨h.blk.1, hb⟩, h.now.keep1 (fun b hb => ho.block b (neA h hb)) (fun _ x => x), h.now.keep1 (fun b hb => ho.block b (neA h hb)) (fun _ x => x), h.rnow, h.rnow, RowC.nil _ _, ⟨h.fit.now, h.fit.now, fun c hc => by cases hc⟩,
    ⟨trivial, rfl, h.good.now, h.good.room, h.good.fuse⟩⟩
set_option maxRecDepth 100000 in
set_option maxHeartbeats 8000000 in
theorem sync_any {w : World} {Q : Nat → Prop} {q : Nat} {D : St} (h : RefAt w Q q D) : Calls Tryz.prog 43 #[.pointer (some ⟨q, 0, none⟩)] w (Does w Q q (stSync D)) := by
  have h0 := h
  obtain ⟨R, R', A, A', c, c', v, hi⟩ := h
  have c5 : w.cell? ⟨q, 5, none⟩ = some (.bool D.still) := by rw [cell_of hi.blk.2]; rfl
  unfold stSync
  cases hst : D.still with
  | true =>
    rw [if_pos rfl]
    rw [hst] at c5
    have H := Lib.hid h0
    clear hi h0 hst
    go_enter Tryz.func43, Tryz.ntmps43
    go_wp2
    go_ret
    exact ⟨rfl, ToR.refl H.out⟩
  | false =>
    rw [if_neg (by decide)]
    rw [hst] at c5
    have HI := Lib.hid hi
    have hbu := burn_any hi
    unfold Burns at hbu
    by_cases hb : (burnt D).1 = 0
    · rw [if_pos hb]
      rw [decide_eq_true hb] at hbu
      have HBU := Lib.hid hbu
      clear hbu hb hi h0 hst
      go_enter Tryz.func43, Tryz.ntmps43
      go_wp2_with fail
      refine HBU.out.mono ?_
      rintro e w1 ⟨rfl, ho, hi1⟩
      obtain ⟨Av, cv, rfl⟩ := hi1.row.shape
      have HS := Lib.hid (sure_any (ref_o hi1))
      have HO := Lib.hid ho
      have HI1 := Lib.hid hi1
      clear ho hi1 HBU
      go_wp2_with fail
      refine HS.out.mono ?_
      rintro e w2 ⟨rfl, ho, hz⟩
      have HO2 := Lib.hid ho
      have HZ := Lib.hid hz
      clear ho hz HS
      go_wp2
      go_ret
      refine ⟨rfl, ?_⟩
      have hx := is_sure HI1.out HO2.out HZ.out
      rw [← burnt_now D]
      exact only_to (only_trans HO.out HO2.out) HI.out.blk.1 hx
    · rw [if_neg hb]
      rw [decide_eq_false hb] at hbu
      have HBU := Lib.hid hbu
      have HB20 := Lib.hid ((burnt_or D).resolve_left hb)
      clear hbu hb hi h0 hst
      go_enter Tryz.func43, Tryz.ntmps43
      go_wp2_with fail
      refine HBU.out.mono ?_
      rintro e w1 ⟨rfl, ho, hi1⟩
      have HO := Lib.hid ho
      have HI1 := Lib.hid hi1
      clear ho hi1 HBU
      go_wp2
      go_ret
      exact ⟨by rw [HB20.out]; rfl, only_to HO.out HI.out.blk.1 HI1.out⟩
set_option maxRecDepth 100000 in
set_option maxHeartbeats 8000000 in
theorem fuse_any {w : World} {Q : Nat → Prop} {q : Nat} {D : St} (h : RefAt w Q q D) (n : Int) (hn : n ≤ 9223372036854775807) : Calls Tryz.prog 24 #[.pointer (some ⟨q, 0, none⟩), .int .i64 n] w fun e w' => e = .returned (.tuple #[]) ∧ ToR Q w w' q (stFuse D n) := by
  obtain ⟨R, R', A, A', c, c', v, hi⟩ := h
  have c4 : w.cell? ⟨q, 4, none⟩ = some (.int .i64 D.fuse) := by rw [cell_of hi.blk.2]; rfl
  have f4 := free_of hi.blk.2 4
  have h1 := fun x => setCell_heap hi.blk.2 4 x
  unfold stFuse
  by_cases hneg : n < 0
  · rw [if_pos hneg]
    have hm : max n (-1) = -1 := by omega
    have c5 : (w.setCell ⟨q, 4, none⟩ (.int .i64 (-1))).cell? ⟨q, 5, none⟩ = some (.bool D.still) := by rw [cell_of (h1 _)]; rfl
    have f5 := free_of (h1 (.int .i64 (-1))) 5
    have HR : Hid (RefIs ((w.setCell ⟨q, 4, none⟩ (.int .i64 (-1))).setCell ⟨q, 5, none⟩ (.bool false)) Q q { D with fuse := -1, still := false } R R' A A' c c' v) := Lib.hid
      (is_only hi (((Only.refl q w).set 4 _).set 5 _) _ ((setCell_heap (h1 _) 5 _).trans rfl) rfl rfl rfl ⟨hi.good.oks, hi.good.runs, hi.good.used, hi.good.room, ⟨Int.le_refl _, (by decide : (-1 : Int) ≤ 9223372036854775807)⟩⟩)
    have HQ := Lib.hid hi.blk.1
    clear hi h1
    go_enter Tryz.func24, Tryz.ntmps24
    go_wp2
    go_end0
    exact ⟨rfl, only_to (((Only.refl q w).set 4 _).set 5 _) HQ.out HR.out⟩
  · rw [if_neg hneg]
    have hm : max n (-1) = n := by omega
    have HR : Hid (RefIs (w.setCell ⟨q, 4, none⟩ (.int .i64 n)) Q q { D with fuse := n } R R' A A' c c' v) := Lib.hid
      (is_only hi ((Only.refl q w).set 4 _) _ ((h1 _).trans rfl) rfl rfl rfl ⟨hi.good.oks, hi.good.runs, hi.good.used, hi.good.room, ⟨by show -1 ≤ n; omega, hn⟩⟩)
    have HQ := Lib.hid hi.blk.1
    clear hi h1
    go_enter Tryz.func24, Tryz.ntmps24
    go_wp2
    go_end0
    exact ⟨rfl, only_to ((Only.refl q w).set 4 _) HQ.out HR.out⟩
set_option maxRecDepth 100000 in
set_option maxHeartbeats 8000000 in
theorem new_any (w : World) (n : Int) (h0 : 0 ≤ n) (h1 : n ≤ 16777216) : Calls Tryz.prog 7 #[.int .i64 n] w fun e w' => e = .returned (.tuple #[.pointer (some ⟨w.heap.size, 0, none⟩), .int .i64 0]) ∧ w' = w.alloc (diskO (.slice none 0 0) (.slice none 0 0) (.slice none 0 0) n (-1) false) := by
  go_enter Tryz.func7, Tryz.ntmps7
  go_wp2
  go_ret2
  exact ⟨rfl, rfl⟩
theorem new_ref (w : World) (n : Int) (h0 : 0 ≤ n) (h1 : n ≤ 16777216) : RefAt (w.alloc (diskO (.slice none 0 0) (.slice none 0 0) (.slice none 0 0) n (-1) false)) (fun b => b = w.heap.size) w.heap.size ⟨n, [], [], [], -1, false⟩ :=
  ⟨[], [], none, none, 0, 0, .slice none 0 0, ⟨⟨rfl, heap_new _ _⟩, RowQ.nil _ _, RowQ.nil _ _, RF.nil, RF.nil, RowC.nil _ _, FitD.new n, ⟨trivial, rfl, Nat.zero_le _, ⟨h0, h1⟩, ⟨Int.le_refl _, (by decide : (-1 : Int) ≤ 9223372036854775807)⟩⟩⟩⟩
end Go.Proofs.YtaoneiicoaiehaaGreat.Dg11
