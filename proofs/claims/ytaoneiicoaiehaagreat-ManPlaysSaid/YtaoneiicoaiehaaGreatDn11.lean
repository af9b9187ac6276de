/- The contract of the law's own does. -/
import Derived.Test.YtaoneiicoaiehaaGreatDm11
import Derived.Deep.RegionHeld3
namespace Go.Proofs.YtaoneiicoaiehaaGreat.Dn11
open Go Go.RowKit Go.Lib Go.Proofs.YtaoneiicoaiehaaGreat Go.Proofs.YtaoneiicoaiehaaGreat.Dh Go.Proofs.YtaoneiicoaiehaaGreat.Dk Go.Proofs.YtaoneiicoaiehaaGreat.Fm Go.Proofs.YtaoneiicoaiehaaGreat.Cl Go.Proofs.YtaoneiicoaiehaaGreat.Nm Go.Proofs.YtaoneiicoaiehaaGreat.St Go.Proofs.YtaoneiicoaiehaaGreat.Sy Go.Proofs.YtaoneiicoaiehaaGreat.Ol11 Go.Proofs.YtaoneiicoaiehaaGreat.Fr11 Go.Proofs.YtaoneiicoaiehaaGreat.Fq11 Go.Proofs.YtaoneiicoaiehaaGreat.Ck11 Go.Proofs.YtaoneiicoaiehaaGreat.Fz11 Go.Proofs.YtaoneiicoaiehaaGreat.Fw11 Go.Proofs.YtaoneiicoaiehaaGreat.Fx11 Go.Proofs.YtaoneiicoaiehaaGreat.Fy11 Go.Proofs.YtaoneiicoaiehaaGreat.Ap11 Go.Proofs.YtaoneiicoaiehaaGreat.Kp11 Go.Proofs.YtaoneiicoaiehaaGreat.Sv11 Go.Proofs.YtaoneiicoaiehaaGreat.Da11 Go.Proofs.YtaoneiicoaiehaaGreat.Db11 Go.Proofs.YtaoneiicoaiehaaGreat.Dc11 Go.Proofs.YtaoneiicoaiehaaGreat.Dd11 Go.Proofs.YtaoneiicoaiehaaGreat.De11 Go.Proofs.YtaoneiicoaiehaaGreat.Df11 Go.Proofs.YtaoneiicoaiehaaGreat.Dg11 Go.Proofs.YtaoneiicoaiehaaGreat.Di11 Go.Proofs.YtaoneiicoaiehaaGreat.Dj11 Go.Proofs.YtaoneiicoaiehaaGreat.Nu11 Go.Proofs.YtaoneiicoaiehaaGreat.Ma11 Go.Proofs.YtaoneiicoaiehaaGreat.Pg11 Go.Proofs.YtaoneiicoaiehaaGreat.Gb11 Go.Proofs.YtaoneiicoaiehaaGreat.Mn11 Go.Proofs.YtaoneiicoaiehaaGreat.Ld11 Go.Proofs.YtaoneiicoaiehaaGreat.Dl11 Go.Proofs.YtaoneiicoaiehaaGreat.Hv11 Go.Proofs.YtaoneiicoaiehaaGreat.Av11 Go.Proofs.YtaoneiicoaiehaaGreat.Sa11 Go.Proofs.YtaoneiicoaiehaaGreat.Dm11 Go.Proofs.YtaoneiicoaiehaaGreat.Dk11
theorem box_left {W V : World} {S : Nat → Prop} {p b : Nat} {D : St} {cs : Array Value} {T : TypeId} (hb : W.heap[b]? = some (.cells cs T (0, 0))) (hn : ¬ S b) (ht : To S W V p D) : V.heap[b]? = some (.cells cs T (0, 0)) := (ht.1.block b (lt_of_at hb) hn).trans hb
theorem cells_of {V : World} {b : Nat} {s : Sx} {T : TypeId} (h : V.heap[b]? = some (.cells #[.int .i64 s.o, .int .u64 (s.m.wal : Int), .slice s.A s.m.runs.length s.c, .int .u64 (s.m.next : Int), .int .i64 s.n, .int .i64 s.k] T (0, 0))) :
    V.cell? ⟨b, 1, none⟩ = some (.int .u64 (s.m.wal : Int)) ∧ V.cell? ⟨b, 2, none⟩ = some (.slice s.A s.m.runs.length s.c) ∧ V.cell? ⟨b, 3, none⟩ = some (.int .u64 (s.m.next : Int)) := by
  refine ⟨?_, ?_, ?_⟩
  · rw [cell_of h]; rfl
  · rw [cell_of h]; rfl
  · rw [cell_of h]; rfl
theorem box_right {W V : World} {Q : Nat → Prop} {q b : Nat} {D : St} {cs : Array Value} {T : TypeId} (hb : W.heap[b]? = some (.cells cs T (0, 0))) (hn : ¬ Q b) (ht : ToR Q W V q D) : V.heap[b]? = some (.cells cs T (0, 0)) := (ht.1.block b (lt_of_at hb) hn).trans hb
set_option maxRecDepth 100000 in
set_option maxHeartbeats 16000000 in
theorem does_save (hsort : Sorts) {w0 w : World} {S Q : Nat → Prop} {p q : Nat} {D : St} (h : Duo w0 w S Q p q D D) (s : Sx) (hok : s.ok w0) (h20 : s.m.runs.length ≤ 20) (hlen : D.loose.length ≤ 800000) (ho : s.o = 0) :
    Calls Tryz.prog 8 #[.pointer (some ⟨p, 0, none⟩), .pointer (some ⟨q, 0, none⟩), stepV s] w (Did w0 p q (stepS D s)) := by
  have h0 := h.alloc (stepO s)
  have hbx := heap_new w (stepO s)
  have hnS : ¬ S w.heap.size := fun e => by have := h.hiS _ e; omega
  have hnQ : ¬ Q w.heap.size := fun e => by have := h.hiQ _ e; omega
  have c0 : (w.alloc (stepO s)).cell? ⟨w.heap.size, 0, none⟩ = some (.int .i64 s.o) := by rw [cell_of hbx]; rfl
  have c1 : (w.alloc (stepO s)).cell? ⟨w.heap.size, 1, none⟩ = some (.int .u64 (s.m.wal : Int)) := by rw [cell_of hbx]; rfl
  have c2 : (w.alloc (stepO s)).cell? ⟨w.heap.size, 2, none⟩ = some (.slice s.A s.m.runs.length s.c) := by rw [cell_of hbx]; rfl
  have c3 : (w.alloc (stepO s)).cell? ⟨w.heap.size, 3, none⟩ = some (.int .u64 (s.m.next : Int)) := by rw [cell_of hbx]; rfl
  have c4 : (w.alloc (stepO s)).cell? ⟨w.heap.size, 4, none⟩ = some (.int .i64 s.n) := by rw [cell_of hbx]; rfl
  have c5 : (w.alloc (stepO s)).cell? ⟨w.heap.size, 5, none⟩ = some (.int .i64 s.k) := by rw [cell_of hbx]; rfl
  have HNS := Lib.hid hnS
  have HNQ := Lib.hid hnQ
  have HM := Lib.hid hok.man
  have t0 : (s.o == 0) = true := by rw [ho]; rfl
  simp only [stepO] at h0 hbx c0 c1 c2 c3 c4 c5
  unfold stepV
  have hst : stepS D s = (saveS D kM s.m).2 := by unfold stepS; rw [if_pos ho]
  have HST := Lib.hid hst
  have h0d : Duo w0 (w.alloc (.cells #[.int .i64 s.o, .int .u64 (s.m.wal : Int), .slice s.A s.m.runs.length s.c, .int .u64 (s.m.next : Int), .int .i64 s.n, .int .i64 s.k] 38 (0, 0))).drew S Q p q D D := h0.below ⟨rfl, rfl, rfl, Nat.le_refl _, fun _ _ => rfl⟩
  have hc := save_any hsort h0d.full h0d.hiS kM (by decide) (by omega) (hok.man.keep (Nat.le_refl _) h0d.bel) (by omega)
  have HR : Hid (∀ V S' Q' D1, Duo w0 V S' Q' p q D1 D → Calls Tryz.prog 22 #[.pointer (some ⟨q, 0, none⟩), .string kM, manV s.m s.A s.c] V (Df11.Does V Q' q (saveS D kM s.m))) := Lib.hid fun V S' Q' D1 hV =>
    rsave_any hV.ref kM nm2M nm2N neNM (by omega) (HM.out.keep (Nat.le_refl _) hV.bel) (by omega)
  obtain ⟨r, hr⟩ : ∃ r, r = saveS D kM s.m := ⟨_, rfl⟩
  rw [← hr] at hc HR HST
  unfold manV at hc HR
  have HC := Lib.hid hc
  have H0 := Lib.hid h0d
  have HBX := Lib.hid hbx
  have hkm : kM = ⟨#[109]⟩ := rfl
  rw [hkm] at HC HR
  clear h h0 hbx hnS hnQ hok hst hc hr h0d hlen h20 ho hkm
  go_enter Tryz.func8, Tryz.ntmps8
  go_wp2
  go_region_held3 (fun W => W.cell? ⟨w.heap.size, 1, none⟩ = some (.int .u64 (s.m.wal : Int)) ∧ W.cell? ⟨w.heap.size, 2, none⟩ = some (.slice s.A s.m.runs.length s.c) ∧ W.cell? ⟨w.heap.size, 3, none⟩ = some (.int .u64 (s.m.next : Int))) (first | exact HK4.out | exact HK3.out | go_keep) (first
    | (go_at_call 15; (with_reducible refine HC.out.mono ?_); rintro e w3 ⟨rfl, ht⟩; have HD3 := Lib.hid (H0.out.left ht); have hb3 := box_left (W := (w.alloc (.cells #[.int .i64 s.o, .int .u64 (s.m.wal : Int), .slice s.A s.m.runs.length s.c, .int .u64 (s.m.next : Int), .int .i64 s.n, .int .i64 s.k] 38 (0, 0))).drew) HBX.out HNS.out ht; have HK3 : Hid (w3.cell? ⟨w.heap.size, 1, none⟩ = some (.int .u64 (s.m.wal : Int)) ∧ w3.cell? ⟨w.heap.size, 2, none⟩ = some (.slice s.A s.m.runs.length s.c) ∧ w3.cell? ⟨w.heap.size, 3, none⟩ = some (.int .u64 (s.m.next : Int))) := Lib.hid (cells_of hb3); have HB3 := Lib.hid hb3; clear ht hb3)
    | (go_at_call 22; (with_reducible refine (HR.out _ _ _ _ HD3.out).mono ?_); rintro e w4 ⟨rfl, ht⟩; have HD4 := Lib.hid (HD3.out.right ht); have HK4 : Hid (w4.cell? ⟨w.heap.size, 1, none⟩ = some (.int .u64 (s.m.wal : Int)) ∧ w4.cell? ⟨w.heap.size, 2, none⟩ = some (.slice s.A s.m.runs.length s.c) ∧ w4.cell? ⟨w.heap.size, 3, none⟩ = some (.int .u64 (s.m.next : Int))) := Lib.hid (cells_of (box_right HB3.out HNQ.out ht)); clear ht))
  all_goals
    go_wp2
    go_ret
    rw [HST.out]
    exact ⟨rfl, _, _, HD4.out⟩
set_option maxRecDepth 100000 in
set_option maxHeartbeats 16000000 in
theorem does_fuse (_hsort : Sorts) {w0 w : World} {S Q : Nat → Prop} {p q : Nat} {D : St} (h : Duo w0 w S Q p q D D) (s : Sx) (hok : s.ok w0) (_h20 : s.m.runs.length ≤ 20) (_hlen : D.loose.length ≤ 800000) (ho : s.o = 2) :
    Calls Tryz.prog 8 #[.pointer (some ⟨p, 0, none⟩), .pointer (some ⟨q, 0, none⟩), stepV s] w (Did w0 p q (stepS D s)) := by
  have h0 := h.alloc (stepO s)
  have hbx := heap_new w (stepO s)
  have hnS : ¬ S w.heap.size := fun e => by have := h.hiS _ e; omega
  have hnQ : ¬ Q w.heap.size := fun e => by have := h.hiQ _ e; omega
  have c0 : (w.alloc (stepO s)).cell? ⟨w.heap.size, 0, none⟩ = some (.int .i64 s.o) := by rw [cell_of hbx]; rfl
  have c1 : (w.alloc (stepO s)).cell? ⟨w.heap.size, 1, none⟩ = some (.int .u64 (s.m.wal : Int)) := by rw [cell_of hbx]; rfl
  have c2 : (w.alloc (stepO s)).cell? ⟨w.heap.size, 2, none⟩ = some (.slice s.A s.m.runs.length s.c) := by rw [cell_of hbx]; rfl
  have c3 : (w.alloc (stepO s)).cell? ⟨w.heap.size, 3, none⟩ = some (.int .u64 (s.m.next : Int)) := by rw [cell_of hbx]; rfl
  have c4 : (w.alloc (stepO s)).cell? ⟨w.heap.size, 4, none⟩ = some (.int .i64 s.n) := by rw [cell_of hbx]; rfl
  have c5 : (w.alloc (stepO s)).cell? ⟨w.heap.size, 5, none⟩ = some (.int .i64 s.k) := by rw [cell_of hbx]; rfl
  have HNS := Lib.hid hnS
  have HNQ := Lib.hid hnQ
  have HM := Lib.hid hok.man
  have t0 : (s.o == 0) = false := by rw [ho]; rfl
  have t1 : (s.o == 1) = false := by rw [ho]; rfl
  have t2 : (s.o == 2) = true := by rw [ho]; rfl
  simp only [stepO] at h0 hbx c0 c1 c2 c3 c4 c5
  unfold stepV
  have hst : stepS D s = stFuse D s.n := by unfold stepS; rw [if_neg (by omega), if_pos ho]
  have HST := Lib.hid hst
  have hc := Dg11.fuse_any h0.ref s.n hok.n.2
  have HR : Hid (∀ V S' Q' E1, Duo w0 V S' Q' p q D E1 → Calls Tryz.prog 12 #[.pointer (some ⟨p, 0, none⟩), .int .i64 s.n] V fun e w' => e = .returned (.int .i64 0) ∧ To S' V w' p (stFuse D s.n)) := Lib.hid fun V S' Q' E1 hV =>
    Sy.fuse_any hV.full s.n hok.n.2
  have HC := Lib.hid hc
  have H0 := Lib.hid h0
  have HBX := Lib.hid hbx
  clear h h0 hbx hnS hnQ hok hst hc ho
  go_enter Tryz.func8, Tryz.ntmps8
  go_wp2_with fail
  refine HC.out.mono ?_
  rintro e w3 ⟨rfl, ht⟩
  have HD3 := Lib.hid (H0.out.right ht)
  have hb3 := box_right HBX.out HNQ.out ht
  have d4 : w3.cell? ⟨w.heap.size, 4, none⟩ = some (.int .i64 s.n) := by rw [cell_of hb3]; rfl
  clear ht hb3
  go_wp2_with fail
  refine (HR.out _ _ _ _ HD3.out).mono ?_
  rintro e w4 ⟨rfl, ht⟩
  have HD4 := Lib.hid (HD3.out.left ht)
  clear ht
  go_wp2
  go_ret
  rw [HST.out]
  exact ⟨rfl, _, _, HD4.out⟩
set_option maxRecDepth 100000 in
set_option maxHeartbeats 16000000 in
theorem does_crash (_hsort : Sorts) {w0 w : World} {S Q : Nat → Prop} {p q : Nat} {D : St} (h : Duo w0 w S Q p q D D) (s : Sx) (hok : s.ok w0) (_h20 : s.m.runs.length ≤ 20) (hlen : D.loose.length ≤ 800000) (ho : s.o = 3) :
    Calls Tryz.prog 8 #[.pointer (some ⟨p, 0, none⟩), .pointer (some ⟨q, 0, none⟩), stepV s] w (Did w0 p q (stepS D s)) := by
  have h0 := h.alloc (stepO s)
  have hbx := heap_new w (stepO s)
  have hnS : ¬ S w.heap.size := fun e => by have := h.hiS _ e; omega
  have hnQ : ¬ Q w.heap.size := fun e => by have := h.hiQ _ e; omega
  have c0 : (w.alloc (stepO s)).cell? ⟨w.heap.size, 0, none⟩ = some (.int .i64 s.o) := by rw [cell_of hbx]; rfl
  have c1 : (w.alloc (stepO s)).cell? ⟨w.heap.size, 1, none⟩ = some (.int .u64 (s.m.wal : Int)) := by rw [cell_of hbx]; rfl
  have c2 : (w.alloc (stepO s)).cell? ⟨w.heap.size, 2, none⟩ = some (.slice s.A s.m.runs.length s.c) := by rw [cell_of hbx]; rfl
  have c3 : (w.alloc (stepO s)).cell? ⟨w.heap.size, 3, none⟩ = some (.int .u64 (s.m.next : Int)) := by rw [cell_of hbx]; rfl
  have c4 : (w.alloc (stepO s)).cell? ⟨w.heap.size, 4, none⟩ = some (.int .i64 s.n) := by rw [cell_of hbx]; rfl
  have c5 : (w.alloc (stepO s)).cell? ⟨w.heap.size, 5, none⟩ = some (.int .i64 s.k) := by rw [cell_of hbx]; rfl
  have HNS := Lib.hid hnS
  have HNQ := Lib.hid hnQ
  have HM := Lib.hid hok.man
  have t0 : (s.o == 0) = false := by rw [ho]; rfl
  have t1 : (s.o == 1) = false := by rw [ho]; rfl
  have t2 : (s.o == 2) = false := by rw [ho]; rfl
  have t3 : (s.o == 3) = true := by rw [ho]; rfl
  simp only [stepO] at h0 hbx c0 c1 c2 c3 c4 c5
  unfold stepV
  have hst : stepS D s = stCrash D s.n s.k := by unfold stepS; rw [if_neg (by omega), if_neg (by omega), if_pos ho]
  have HST := Lib.hid hst
  have hc := Dj11.crash_any h0.ref s.n s.k hok.n hok.k (by omega)
  have HR : Hid (∀ V S' Q' E1, Duo w0 V S' Q' p q D E1 → Calls Tryz.prog 16 #[.pointer (some ⟨p, 0, none⟩), .int .i64 s.n, .int .i64 s.k] V fun e w' => e = .returned (.int .i64 0) ∧ To S' V w' p (stCrash D s.n s.k)) := Lib.hid fun V S' Q' E1 hV =>
    Ca.crash_any hV.full s.n s.k hok.n hok.k.2 (by omega)
  have HC := Lib.hid hc
  have H0 := Lib.hid h0
  have HBX := Lib.hid hbx
  clear h h0 hbx hnS hnQ hok hst hc hlen ho
  go_enter Tryz.func8, Tryz.ntmps8
  go_wp2_with fail
  refine HC.out.mono ?_
  rintro e w3 ⟨rfl, ht⟩
  have HD3 := Lib.hid (H0.out.right ht)
  have hb3 := box_right HBX.out HNQ.out ht
  have d4 : w3.cell? ⟨w.heap.size, 4, none⟩ = some (.int .i64 s.n) := by rw [cell_of hb3]; rfl
  have d5 : w3.cell? ⟨w.heap.size, 5, none⟩ = some (.int .i64 s.k) := by rw [cell_of hb3]; rfl
  clear ht hb3
  go_wp2_with fail
  refine (HR.out _ _ _ _ HD3.out).mono ?_
  rintro e w4 ⟨rfl, ht⟩
  have HD4 := Lib.hid (HD3.out.left ht)
  clear ht
  go_wp2
  go_ret
  rw [HST.out]
  exact ⟨rfl, _, _, HD4.out⟩
set_option maxRecDepth 100000 in
set_option maxHeartbeats 16000000 in
theorem does_app (_hsort : Sorts) {w0 w : World} {S Q : Nat → Prop} {p q : Nat} {D : St} (h : Duo w0 w S Q p q D D) (s : Sx) (hok : s.ok w0) (_h20 : s.m.runs.length ≤ 20) (hlen : D.loose.length ≤ 800000) (ho : s.o = 5) :
    Calls Tryz.prog 8 #[.pointer (some ⟨p, 0, none⟩), .pointer (some ⟨q, 0, none⟩), stepV s] w (Did w0 p q (stepS D s)) := by
  have h0 := h.alloc (stepO s)
  have hbx := heap_new w (stepO s)
  have hnS : ¬ S w.heap.size := fun e => by have := h.hiS _ e; omega
  have hnQ : ¬ Q w.heap.size := fun e => by have := h.hiQ _ e; omega
  have c0 : (w.alloc (stepO s)).cell? ⟨w.heap.size, 0, none⟩ = some (.int .i64 s.o) := by rw [cell_of hbx]; rfl
  have c1 : (w.alloc (stepO s)).cell? ⟨w.heap.size, 1, none⟩ = some (.int .u64 (s.m.wal : Int)) := by rw [cell_of hbx]; rfl
  have c2 : (w.alloc (stepO s)).cell? ⟨w.heap.size, 2, none⟩ = some (.slice s.A s.m.runs.length s.c) := by rw [cell_of hbx]; rfl
  have c3 : (w.alloc (stepO s)).cell? ⟨w.heap.size, 3, none⟩ = some (.int .u64 (s.m.next : Int)) := by rw [cell_of hbx]; rfl
  have c4 : (w.alloc (stepO s)).cell? ⟨w.heap.size, 4, none⟩ = some (.int .i64 s.n) := by rw [cell_of hbx]; rfl
  have c5 : (w.alloc (stepO s)).cell? ⟨w.heap.size, 5, none⟩ = some (.int .i64 s.k) := by rw [cell_of hbx]; rfl
  have HNS := Lib.hid hnS
  have HNQ := Lib.hid hnQ
  have HM := Lib.hid hok.man
  have t0 : (s.o == 0) = false := by rw [ho]; rfl
  have t1 : (s.o == 1) = false := by rw [ho]; rfl
  have t2 : (s.o == 2) = false := by rw [ho]; rfl
  have t3 : (s.o == 3) = false := by rw [ho]; rfl
  have t5 : (s.o == 5) = true := by rw [ho]; rfl
  simp only [stepO] at h0 hbx c0 c1 c2 c3 c4 c5
  unfold stepV
  have hst : stepS D s = (stAppend D kN kX).2 := by unfold stepS; rw [if_neg (by omega), if_neg (by omega), if_neg (by omega), if_pos ho]
  have HST := Lib.hid hst
  have hc := Ap.append_any h0.full kN kX (by decide) (by decide) (by omega)
  have HR : Hid (∀ V S' Q' D1, Duo w0 V S' Q' p q D1 D → Calls Tryz.prog 27 #[.pointer (some ⟨q, 0, none⟩), callV (.app kN kX)] V (Df11.Does V Q' q (stAppend D kN kX))) := Lib.hid fun V S' Q' D1 hV => by
    have hx := do_any hV.ref (c := .app kN kX) (show Nm2 kN from nm2N) (by decide) (by omega)
    rw [do_app (show Nm2 kN from nm2N)] at hx
    exact hx
  obtain ⟨r, hr⟩ : ∃ r, r = stAppend D kN kX := ⟨_, rfl⟩
  rw [← hr] at hc HR HST
  have HC := Lib.hid hc
  have H0 := Lib.hid h0
  have HBX := Lib.hid hbx
  have hkx : kX = ⟨#[120]⟩ := rfl
  simp only [callV, cOp, cNm, cTx, kN_is, hkx] at HC HR
  clear h h0 hbx hnS hnQ hok hst hc hr hlen ho hkx
  go_enter Tryz.func8, Tryz.ntmps8
  go_wp2_with fail
  refine HC.out.mono ?_
  rintro e w3 ⟨rfl, ht⟩
  have HD3 := Lib.hid (H0.out.left ht)
  clear ht
  go_wp2_with fail
  refine (HR.out _ _ _ _ HD3.out).mono ?_
  rintro e w4 ⟨rfl, ht⟩
  have HD4 := Lib.hid (HD3.out.right ht)
  clear ht
  go_wp2
  go_ret
  rw [HST.out]
  exact ⟨rfl, _, _, HD4.out⟩
set_option maxRecDepth 100000 in
set_option maxHeartbeats 16000000 in
theorem does_none (_hsort : Sorts) {w0 w : World} {S Q : Nat → Prop} {p q : Nat} {D : St} (h : Duo w0 w S Q p q D D) (s : Sx) (hok : s.ok w0) (_h20 : s.m.runs.length ≤ 20) (_hlen : D.loose.length ≤ 800000) (n0 : s.o ≠ 0) (n1 : s.o ≠ 1) (n2 : s.o ≠ 2) (n3 : s.o ≠ 3) (n5 : s.o ≠ 5) :
    Calls Tryz.prog 8 #[.pointer (some ⟨p, 0, none⟩), .pointer (some ⟨q, 0, none⟩), stepV s] w (Did w0 p q (stepS D s)) := by
  have h0 := h.alloc (stepO s)
  have hbx := heap_new w (stepO s)
  have hnS : ¬ S w.heap.size := fun e => by have := h.hiS _ e; omega
  have hnQ : ¬ Q w.heap.size := fun e => by have := h.hiQ _ e; omega
  have c0 : (w.alloc (stepO s)).cell? ⟨w.heap.size, 0, none⟩ = some (.int .i64 s.o) := by rw [cell_of hbx]; rfl
  have c1 : (w.alloc (stepO s)).cell? ⟨w.heap.size, 1, none⟩ = some (.int .u64 (s.m.wal : Int)) := by rw [cell_of hbx]; rfl
  have c2 : (w.alloc (stepO s)).cell? ⟨w.heap.size, 2, none⟩ = some (.slice s.A s.m.runs.length s.c) := by rw [cell_of hbx]; rfl
  have c3 : (w.alloc (stepO s)).cell? ⟨w.heap.size, 3, none⟩ = some (.int .u64 (s.m.next : Int)) := by rw [cell_of hbx]; rfl
  have c4 : (w.alloc (stepO s)).cell? ⟨w.heap.size, 4, none⟩ = some (.int .i64 s.n) := by rw [cell_of hbx]; rfl
  have c5 : (w.alloc (stepO s)).cell? ⟨w.heap.size, 5, none⟩ = some (.int .i64 s.k) := by rw [cell_of hbx]; rfl
  have HNS := Lib.hid hnS
  have HNQ := Lib.hid hnQ
  have HM := Lib.hid hok.man
  have t0 : (s.o == 0) = false := by simpa using n0
  have t1 : (s.o == 1) = false := by simpa using n1
  have t2 : (s.o == 2) = false := by simpa using n2
  have t3 : (s.o == 3) = false := by simpa using n3
  have t5 : (s.o == 5) = false := by simpa using n5
  simp only [stepO] at h0 hbx c0 c1 c2 c3 c4 c5
  unfold stepV
  have hst : stepS D s = D := by unfold stepS; rw [if_neg n0, if_neg n2, if_neg n3, if_neg n5]
  have HST := Lib.hid hst
  have H0 := Lib.hid h0
  clear h h0 hbx hnS hnQ hok hst n0 n1 n2 n3 n5
  go_enter Tryz.func8, Tryz.ntmps8
  go_wp2
  go_ret
  rw [HST.out]
  exact ⟨rfl, _, _, H0.out⟩
/-- What both Loads come to. -/
structure Two (w w' : World) (e : Ending) (m : Man) (k : Int) : Prop where
  bel : Below w.heap.size w w'
  few : m.runs.length ≤ 256
  val : ∃ A c, e = .returned (.tuple #[manV m A c, .int .i64 k]) ∧ Nums w' A m.runs
def manR (r : Option Man × Int) : Man := r.1.getD ⟨0, [], 0⟩
theorem two_l {w w' : World} {e : Ending} {D : St} {k : ByteArray} (h : Ld11.Loads w (loadS D k) e w') : Two w w' e (manR (loadS D k)) (loadS D k).2 := by
  obtain ⟨hb, h⟩ := h
  rcases h with ⟨m, h1, A, c, h2, h3⟩ | ⟨j, h1, _, h2⟩
  · have hf := load_few h1
    rw [h1]
    exact ⟨hb, hf, A, c, h2, h3.nums⟩
  · rw [h1]
    exact ⟨hb, Nat.zero_le _, none, 0, h2, Nums.nil _ _⟩
theorem two_r {w w' : World} {e : Ending} {D : St} {k : ByteArray} (h : RLoads w (loadS D k) e w') : Two w w' e (manR (loadS D k)) (loadS D k).2 := by
  obtain ⟨hb, h⟩ := h
  rcases h with ⟨m, h1, A, c, h2, h3⟩ | ⟨j, h1, _, h2⟩
  · have hf := load_few h1
    rw [h1]
    exact ⟨hb, hf, A, c, h2, h3⟩
  · rw [h1]
    exact ⟨hb, Nat.zero_le _, none, 0, h2, Nums.nil _ _⟩
set_option maxRecDepth 100000 in
set_option maxHeartbeats 16000000 in
theorem does_load (hsort : Sorts) {w0 w : World} {S Q : Nat → Prop} {p q : Nat} {D : St} (h : Duo w0 w S Q p q D D) (s : Sx) (hok : s.ok w0) (_h20 : s.m.runs.length ≤ 20) (_hlen : D.loose.length ≤ 800000) (ho : s.o = 1) :
    Calls Tryz.prog 8 #[.pointer (some ⟨p, 0, none⟩), .pointer (some ⟨q, 0, none⟩), stepV s] w (Did w0 p q (stepS D s)) := by
  have h0 := h.alloc (stepO s)
  have hbx := heap_new w (stepO s)
  have hnS : ¬ S w.heap.size := fun e => by have := h.hiS _ e; omega
  have hnQ : ¬ Q w.heap.size := fun e => by have := h.hiQ _ e; omega
  have c0 : (w.alloc (stepO s)).cell? ⟨w.heap.size, 0, none⟩ = some (.int .i64 s.o) := by rw [cell_of hbx]; rfl
  have c1 : (w.alloc (stepO s)).cell? ⟨w.heap.size, 1, none⟩ = some (.int .u64 (s.m.wal : Int)) := by rw [cell_of hbx]; rfl
  have c2 : (w.alloc (stepO s)).cell? ⟨w.heap.size, 2, none⟩ = some (.slice s.A s.m.runs.length s.c) := by rw [cell_of hbx]; rfl
  have c3 : (w.alloc (stepO s)).cell? ⟨w.heap.size, 3, none⟩ = some (.int .u64 (s.m.next : Int)) := by rw [cell_of hbx]; rfl
  have c4 : (w.alloc (stepO s)).cell? ⟨w.heap.size, 4, none⟩ = some (.int .i64 s.n) := by rw [cell_of hbx]; rfl
  have c5 : (w.alloc (stepO s)).cell? ⟨w.heap.size, 5, none⟩ = some (.int .i64 s.k) := by rw [cell_of hbx]; rfl
  have HNS := Lib.hid hnS
  have HNQ := Lib.hid hnQ
  have HM := Lib.hid hok.man
  have t0 : (s.o == 0) = false := by rw [ho]; rfl
  have t1 : (s.o == 1) = true := by rw [ho]; rfl
  simp only [stepO] at h0 hbx c0 c1 c2 c3 c4 c5
  unfold stepV
  have hst : stepS D s = D := by unfold stepS; rw [if_neg (by omega), if_neg (by omega), if_neg (by omega), if_neg (by omega)]
  have HST := Lib.hid hst
  have HL : Hid (∀ V, Duo w0 V S Q p q D D → Calls Tryz.prog 17 #[.pointer (some ⟨p, 0, none⟩), .string kM] V fun e w' => Two V w' e (manR (loadS D kM)) (loadS D kM).2) := Lib.hid fun V hV =>
    (load_any hsort hV.full kM (by decide)).mono fun e w' hx => two_l hx
  have HR : Hid (∀ V, Duo w0 V S Q p q D D → Calls Tryz.prog 23 #[.pointer (some ⟨q, 0, none⟩), .string kM] V fun e w' => Two V w' e (manR (loadS D kM)) (loadS D kM).2) := Lib.hid fun V hV =>
    (rload_any hV.ref nm2M).mono fun e w' hx => two_r hx
  obtain ⟨m, hm⟩ : ∃ m, m = manR (loadS D kM) := ⟨_, rfl⟩
  obtain ⟨r, hr⟩ : ∃ r, r = (loadS D kM).2 := ⟨_, rfl⟩
  rw [← hm, ← hr] at HL HR
  have H0 := Lib.hid h0
  have hkm : kM = ⟨#[109]⟩ := rfl
  rw [hkm] at HL HR
  clear h h0 hbx hnS hnQ hok hst hm hr ho hkm
  go_enter Tryz.func8, Tryz.ntmps8
  go_wp2_with fail
  refine (HL.out _ H0.out).mono ?_
  rintro e w1 ⟨hb1, hf1, A1, c1, rfl, hn1⟩
  have HD1 := Lib.hid ((H0.out.below hb1).alloc (.cells #[.int .u64 (m.wal : Int), .slice A1 m.runs.length c1, .int .u64 (m.next : Int)] 36))
  have HN1 := Lib.hid (hn1.keep (Nat.le_refl _) ((Below.refl _ _).alloc (Nat.le_refl _) (.cells #[.int .u64 (m.wal : Int), .slice A1 m.runs.length c1, .int .u64 (m.next : Int)] 36)))
  have HB1 := Lib.hid (heap_new w1 (.cells #[.int .u64 (m.wal : Int), .slice A1 m.runs.length c1, .int .u64 (m.next : Int)] 36))
  clear hb1 hn1
  unfold manV
  go_wp2_with fail
  refine (HR.out _ HD1.out).mono ?_
  rintro e w2 ⟨hb2, hf2, A2, c2, rfl, hn2⟩
  have hb2x := hb2.alloc hb2.size (.cells #[.int .u64 (m.wal : Int), .slice A2 m.runs.length c2, .int .u64 (m.next : Int)] 36)
  have hn1 := HN1.out.keep (Nat.le_refl _) hb2x
  have hn2' := hn2.keep (Nat.le_refl _) ((Below.refl _ _).alloc (Nat.le_refl _) (.cells #[.int .u64 (m.wal : Int), .slice A2 m.runs.length c2, .int .u64 (m.next : Int)] 36))
  have hx1 := (hb2x.block _ (lt_of_at HB1.out)).trans HB1.out
  have hx2 := heap_new w2 (.cells #[.int .u64 (m.wal : Int), .slice A2 m.runs.length c2, .int .u64 (m.next : Int)] 36)
  have hsm := Sa11.same_any (c := c1) (c' := c2) hn1 hn2' (by omega) (by omega)
  rw [Sa11.same_self] at hsm
  have HD3 := Lib.hid (HD1.out.below hb2x)
  have x0 : (w2.alloc (.cells #[.int .u64 (m.wal : Int), .slice A2 m.runs.length c2, .int .u64 (m.next : Int)] 36)).cell? ⟨w1.heap.size, 0, none⟩ = some (.int .u64 (m.wal : Int)) := by rw [cell_of hx1]; rfl
  have x1 : (w2.alloc (.cells #[.int .u64 (m.wal : Int), .slice A2 m.runs.length c2, .int .u64 (m.next : Int)] 36)).cell? ⟨w1.heap.size, 1, none⟩ = some (.slice A1 m.runs.length c1) := by rw [cell_of hx1]; rfl
  have x2 : (w2.alloc (.cells #[.int .u64 (m.wal : Int), .slice A2 m.runs.length c2, .int .u64 (m.next : Int)] 36)).cell? ⟨w1.heap.size, 2, none⟩ = some (.int .u64 (m.next : Int)) := by rw [cell_of hx1]; rfl
  have y0 : (w2.alloc (.cells #[.int .u64 (m.wal : Int), .slice A2 m.runs.length c2, .int .u64 (m.next : Int)] 36)).cell? ⟨w2.heap.size, 0, none⟩ = some (.int .u64 (m.wal : Int)) := by rw [cell_of hx2]; rfl
  have y1 : (w2.alloc (.cells #[.int .u64 (m.wal : Int), .slice A2 m.runs.length c2, .int .u64 (m.next : Int)] 36)).cell? ⟨w2.heap.size, 1, none⟩ = some (.slice A2 m.runs.length c2) := by rw [cell_of hx2]; rfl
  have y2 : (w2.alloc (.cells #[.int .u64 (m.wal : Int), .slice A2 m.runs.length c2, .int .u64 (m.next : Int)] 36)).cell? ⟨w2.heap.size, 2, none⟩ = some (.int .u64 (m.next : Int)) := by rw [cell_of hx2]; rfl
  have hrr : (r == r) = true := by simp
  unfold manV at hsm ⊢
  have HSM := Lib.hid hsm
  clear hb2 hn2 hb2x hn1 hn2' hx1 hx2 hsm
  go_wp2_with fail
  refine HSM.out.mono ?_
  rintro e w4 ⟨rfl, hb4⟩
  have HB4 := Lib.hid hb4
  clear hb4
  go_wp2
  go_ret
  rw [HST.out]
  exact ⟨rfl, S, Q, HD3.out.below HB4.out⟩
/-- A step of both. -/
theorem does_any (hsort : Sorts) {w0 w : World} {S Q : Nat → Prop} {p q : Nat} {D : St} (h : Duo w0 w S Q p q D D) (s : Sx) (hok : s.ok w0) (h20 : s.m.runs.length ≤ 20) (hlen : D.loose.length ≤ 800000) :
    Calls Tryz.prog 8 #[.pointer (some ⟨p, 0, none⟩), .pointer (some ⟨q, 0, none⟩), stepV s] w (Did w0 p q (stepS D s)) := by
  by_cases e0 : s.o = 0
  · exact does_save hsort h s hok h20 hlen e0
  · by_cases e1 : s.o = 1
    · exact does_load hsort h s hok h20 hlen e1
    · by_cases e2 : s.o = 2
      · exact does_fuse hsort h s hok h20 hlen e2
      · by_cases e3 : s.o = 3
        · exact does_crash hsort h s hok h20 hlen e3
        · by_cases e5 : s.o = 5
          · exact does_app hsort h s hok h20 hlen e5
          · exact does_none hsort h s hok h20 hlen e0 e1 e2 e3 e5
end Go.Proofs.YtaoneiicoaiehaaGreat.Dn11
