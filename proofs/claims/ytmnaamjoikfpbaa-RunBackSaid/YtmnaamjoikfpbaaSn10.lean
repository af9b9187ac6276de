/- The contract of run.Scan. -/
import Derived.Test.YtmnaamjoikfpbaaIt10
import Derived.Test.YtmnaamjoikfpbaaRq9
import Derived.Laws.AppendOwn
namespace Go.Proofs.Ytmnaamjoikfpbaa.Sn10
open Go Go.RowKit Go.Shelf Go.Proofs Go.Proofs.Ytmnaamjoikfpbaa.Dh Go.Proofs.Ytmnaamjoikfpbaa.St Go.Proofs.Ytmnaamjoikfpbaa.Fl7 Go.Proofs.Ytmnaamjoikfpbaa.Pm9 Go.Proofs.Ytmnaamjoikfpbaa.Mt9 Go.Proofs.Ytmnaamjoikfpbaa.Mg9 Go.Proofs.Ytmnaamjoikfpbaa.Fd10 Go.Proofs.Ytmnaamjoikfpbaa.So10 Go.Proofs.Ytmnaamjoikfpbaa.On10 Go.Proofs.Ytmnaamjoikfpbaa.Pc10 Go.Proofs.Ytmnaamjoikfpbaa.Re10 Go.Proofs.Ytmnaamjoikfpbaa.It10
attribute [local go_sem] Oper.semAt_some
/-- Are the frames of m pairs from s on what they were? -/
def allFine (Bt : List UInt8) (L : List Pr) : Nat → Nat → Bool
  | _, 0 => true
  | s, m + 1 => fine Bt L s && allFine Bt L (s + 1) m
/-- What is told of these. -/
def scanned (Bt : List UInt8) (L : List Pr) (s m : Nat) : List Pr × Int := if allFine Bt L s m then ((L.drop s).take m, 0) else ([], 71)
def oks (P : List Pr) : List (Pr × Int) := P.map (·, 0)
theorem oks_snoc (P : List Pr) (x : Pr) : oks (P ++ [x]) = oks P ++ [(x, 0)] := by simp [oks]
theorem seqR_done {Bt : List UInt8} {L : List Pr} : ∀ (m s : Nat) (P : List Pr), s + m ≤ L.length → seqR Bt L s m = oks P → allFine Bt L s m = true ∧ P = (L.drop s).take m
  | 0, s, P, _, h => by
    cases P with
    | nil => exact ⟨rfl, by simp⟩
    | cons x P => simp [seqR, oks] at h
  | m + 1, s, P, hs, h => by
    cases hf : fine Bt L s
    · rw [seqR_bad hf, got_bad hf] at h
      cases P with
      | nil => simp [oks] at h
      | cons x P => simp [oks] at h
    · rw [seqR_ok hf, got_fine (show s < L.length by omega) hf] at h
      cases P with
      | nil => simp [oks] at h
      | cons x P =>
        have h2 : L[s] = x ∧ seqR Bt L (s + 1) m = oks P := by simpa [oks] using h
        obtain ⟨i1, i2⟩ := seqR_done m (s + 1) P (by omega) h2.2
        refine ⟨by rw [allFine, hf, i1]; rfl, ?_⟩
        rw [List.drop_eq_getElem_cons (show s < L.length by omega), List.take_succ_cons, ← i2, h2.1]
theorem seqR_stop {Bt : List UInt8} {L : List Pr} : ∀ (m s : Nat) (P : List Pr) (x : Pr) (e : Int), s + m ≤ L.length → e ≠ 0 → oks P ++ [(x, e)] <+: seqR Bt L s m → e = 71 ∧ allFine Bt L s m = false
  | 0, s, P, x, e, _, _, h => by
    have := h.length_le
    simp [seqR] at this
  | m + 1, s, P, x, e, hs, he, h => by
    cases hf : fine Bt L s
    · rw [seqR_bad hf, got_bad hf] at h
      refine ⟨?_, by rw [allFine, hf]; rfl⟩
      cases P with
      | nil =>
        have h2 : ([(x, e)] : List (Pr × Int)) <+: [(zp, 71)] := h
        have := List.cons_prefix_cons.1 h2
        exact congrArg (·.2) this.1
      | cons y P =>
        have := h.length_le
        simp [oks] at this
    · rw [seqR_ok hf, got_fine (show s < L.length by omega) hf] at h
      cases P with
      | nil =>
        have h2 : ([(x, e)] : List (Pr × Int)) <+: (L[s], 0) :: seqR Bt L (s + 1) m := h
        have := congrArg (·.2) (List.cons_prefix_cons.1 h2).1
        exact absurd this he
      | cons y P =>
        have h2 : (y, 0) :: (oks P ++ [(x, e)]) <+: (L[s], 0) :: seqR Bt L (s + 1) m := h
        obtain ⟨i1, i2⟩ := seqR_stop m (s + 1) P x e (by omega) he (List.cons_prefix_cons.1 h2).2
        exact ⟨i1, by rw [allFine, i2, Bool.and_false]⟩
/-- What Scan answers: a row of its own, or why not. -/
def ScanTo (w : World) (P : List Pr × Int) (e : Ending) (w' : World) : Prop :=
  ∃ A c, e = .returned (.tuple #[.slice A P.1.length c, .int .i64 P.2]) ∧ w'.ownsRow w.heap.size 39 3 (.slice A P.1.length c) P.1.length (cellsP P.1) ∧ Below w.heap.size w w'
def RowP (n0 b0 : Nat) (L : List Pr) (W : World) : Prop := ∃ v, Boxed W b0 22 v ∧ W.ownsRow n0 39 3 v L.length (cellsP L) ∧ True
theorem rowP_own (n0 b0 : Nat) (f : List (Pr × Int) → List Pr) : Own (fun (pre : List (Pr × Int)) W => RowP n0 b0 (f pre) W) := holdsRow_own n0 b0 22 39 3 (fun pre => (f pre).length) (fun pre => cellsP (f pre)) (fun _ _ => True)
def fsts (pre : List (Pr × Int)) : List Pr := pre.map (·.1)
theorem fsts_oks (P : List Pr) : fsts (oks P) = P := by simp [fsts, oks, Function.comp_def]
/-- Behind some rounds: the row has the pairs so far, the results' boxes are as they were. -/
def I10 (w : World) (bL bR q : Nat) (pre : List (Pr × Int)) (W : World) : Prop :=
  (∃ P, pre = oks P) ∧ RowP w.heap.size bL (fsts pre) W ∧ Boxed W w.heap.size 22 (.slice none 0 0) ∧ Boxed W (w.heap.size + 1) 30 (.int .i64 0) ∧ Boxed W bR 35 (.pointer (some ⟨q, 0, none⟩)) ∧ Below w.heap.size w W
/-- Left by an error: it stands in the result's box. -/
def errOf (pre : List (Pr × Int)) : Int := (pre.getLast?.map (·.2)).getD 0
def Ix10 (w : World) (c : Code) (pre : List (Pr × Int)) (W : World) : Prop :=
  (c = .ret ∧ ∃ P x e, pre = oks P ++ [(x, e)] ∧ e ≠ 0) ∧ Boxed W w.heap.size 22 (.slice none 0 0) ∧ Boxed W (w.heap.size + 1) 30 (.int .i64 (errOf pre)) ∧ Below w.heap.size w W
theorem i10_own (w : World) (bL bR q : Nat) (B : Nat) (hB : w.heap.size ≤ B) : OwnFrom B (I10 w bL bR q) :=
  OwnFrom.and (ownFrom_pure B _) (OwnFrom.and (Own.from (rowP_own _ _ fsts) _) (OwnFrom.and (Own.from (boxed_own _ _ (fun _ => .slice none 0 0)) _) (OwnFrom.and (Own.from (boxed_own _ _ (fun _ => .int .i64 0)) _) (OwnFrom.and (Own.from (boxed_own _ _ (fun _ => .pointer (some ⟨q, 0, none⟩))) _) (ownFrom_below (Nat.le_refl _) hB)))))
theorem ix10_own (w : World) (c : Code) (B : Nat) (hB : w.heap.size ≤ B) : OwnFrom B (Ix10 w c) :=
  OwnFrom.and (ownFrom_pure B _) (OwnFrom.and (Own.from (boxed_own _ _ (fun _ => .slice none 0 0)) _) (OwnFrom.and (Own.from (boxed_own _ _ (fun pre => .int .i64 (errOf pre))) _) (ownFrom_below (Nat.le_refl _) hB)))
theorem err_snoc (l : List (Pr × Int)) (x : Pr) (e : Int) : errOf (l ++ [(x, e)]) = e := by simp [errOf]
/-- The variables of a round. -/
def tmps10 (n0 q bL bR v1 : Nat) (a b : ByteArray) (most : Int) (A' : Option Addr) (M K c' : Nat) (bp : Nat) (x : Pr × Int) : Array Value :=
  #[.pointer (some ⟨q, 0, none⟩), .string a, .string b, .int .i64 most, undef, undef, undef, undef, .pointer (some ⟨n0, 0, none⟩), .pointer (some ⟨n0 + 1, 0, none⟩), .slice A' K c', .pointer (some ⟨bL, 0, none⟩), .pointer (some ⟨bp, 0, none⟩), .int .i64 x.2,
    .pointer (some ⟨q, 0, none⟩), .bool false, .pointer (some ⟨q, 0, none⟩), .string a, .string b, .slice A' M c', .slice A' M c', .int .i64 most, .int .i64 (max most 0), .slice A' M c', .int .i64 (M : Int), .int .i64 (K : Int), .slice A' K c', .slice A' K c', .int .i64 (K : Int),
    .slice (some ⟨v1, 0, none⟩) 0 K, .pointer (some ⟨q, 0, none⟩), .slice A' K c', .func (.func 57) #[] #[.pointer (some ⟨bR + 1, 0, none⟩), .pointer (some ⟨bR, 0, none⟩)],
    .agg #[.string x.1.k, .string x.1.v, .bool x.1.g], .int .i64 x.2, undef, undef, undef, undef, undef, undef, undef, undef]
/-- What a round begins with. -/
def Ax10 (n0 q bL bR v1 : Nat) (a b : ByteArray) (most : Int) (A' : Option Addr) (M K c' : Nat) (x : Pr × Int) (a' : Act) (W : World) : Prop :=
  ∃ bp, n0 ≤ bp ∧ W.heap[bp]? = some (pairO x.1) ∧ a' = { tmps := tmps10 n0 q bL bR v1 a b most A' M K c' bp x, defers := [] }
theorem ax10_own (n0 q bL bR v1 : Nat) (a b : ByteArray) (most : Int) (A' : Option Addr) (M K c' : Nat) (x : Pr × Int) (a' : Act) (B : Nat) : OwnFrom B (fun (_ : Unit) W => Ax10 n0 q bL bR v1 a b most A' M K c' x a' W) := by
  rintro _ W W' row ⟨bp, h1, h2, h3⟩ hg hr
  refine ⟨bp, h1, (hg.block bp (lt_of_at h2) fun e => ?_).trans h2, h3⟩
  obtain ⟨_, o, ho, hc⟩ := hr bp e.symm
  rw [h2] at ho; cases ho; cases hc
theorem next_ok {w W w1 : World} {bL bR q B : Nat} {P : List Pr} {x : Pr} {a : Act} {A : Option Addr} {c : Nat} {v' : Value} (hv : Boxed W bL 22 (.slice A P.length c)) (hown : W.ownsRow w.heap.size 39 3 (.slice A P.length c) P.length (cellsP P))
    (h0 : Boxed W w.heap.size 22 (.slice none 0 0)) (h1 : Boxed W (w.heap.size + 1) 30 (.int .i64 0)) (hr : Boxed W bR 35 (.pointer (some ⟨q, 0, none⟩))) (hB : Below w.heap.size w W)
    (hbL : w.heap.size + 2 ≤ bL) (hbR : bR = bL + 1) (own2 : w1.ownsRow w.heap.size 39 3 v' (P.length + 1) (cellsP P ++ cells3 x)) (hgrow : (W.alloc (pairO x)).grownBy w1 (Value.slice A P.length c).ownBlock) :
    ownPostG B (Kp w.heap.size bR q) (I10 w bL bR q) (Ix10 w) (oks P ++ [(x, 0)]) W .normal a (w1.setCell ⟨bL, 0, none⟩ v') := by
  obtain ⟨k1, k2, k3, k4, k5⟩ := hv.appended (by decide) hown hB.size (by omega) own2 hgrow
  have g0 : Boxed w1 w.heap.size 22 (.slice none 0 0) := (h0.alloc _).kept hgrow (h0.not_row (by decide) hown)
  have g1 : Boxed w1 (w.heap.size + 1) 30 (.int .i64 0) := (h1.alloc _).kept hgrow (h1.not_row (by decide) hown)
  have gr : Boxed w1 bR 35 (.pointer (some ⟨q, 0, none⟩)) := (hr.alloc _).kept hgrow (hr.not_row (by decide) hown)
  have e1 : (P ++ [x]).length = P.length + 1 := by simp
  have e2 : cellsP (P ++ [x]) = cellsP P ++ cells3 x := by rw [cellsP_append]; show _ ++ (cells3 x ++ []) = _; rw [List.append_nil]
  refine ⟨k4.from _, ⟨k5, fun _ => gr.other (by omega) _⟩, ⟨P ++ [x], (oks_snoc P x).symm⟩, ⟨v', k2, ?_, trivial⟩, g0.other (by omega) _, g1.other (by omega) _, gr.other (by omega) _, hB.trans k5⟩
  rw [← oks_snoc, fsts_oks, e1, e2]
  exact k3
theorem left_ok {w W : World} {bL bR q B : Nat} {P : List Pr} {x : Pr} {e : Int} {a : Act} (he : e ≠ 0) (h0 : Boxed W w.heap.size 22 (.slice none 0 0)) (h1 : Boxed W (w.heap.size + 1) 30 (.int .i64 0)) (hB : Below w.heap.size w W) :
    ownPostG B (Kp w.heap.size bR q) (I10 w bL bR q) (Ix10 w) (oks P ++ [(x, e)]) W .ret a ((W.setCell ⟨w.heap.size, 0, none⟩ (.slice none 0 0)).setCell ⟨w.heap.size + 1, 0, none⟩ (.int .i64 e)) := by
  have a0 := h0.set (.slice none 0 0)
  have a1 := h1.other (B' := w.heap.size) (by omega) (.slice none 0 0)
  refine ⟨((KeepsOthers.setCell W _ _).trans (KeepsOthers.setCell _ _ _)).from _, ⟨rfl, P, x, e, rfl, he⟩, a0.other (by omega) _, ?_, (hB.setCell (p := ⟨w.heap.size, 0, none⟩) (Nat.le_refl _) _).setCell (p := ⟨w.heap.size + 1, 0, none⟩) (by simp) _⟩
  rw [err_snoc]
  exact a1.set _
theorem scan_end {w W : World} {D : Nat} {P : List Pr} {e : Int} {A : Option Addr} {c : Nat} {T : Array Value} (h0 : Boxed W w.heap.size 22 (.slice A P.length c)) (h1 : Boxed W (w.heap.size + 1) 30 (.int .i64 e)) (hown : W.ownsRow w.heap.size 39 3 (.slice A P.length c) P.length (cellsP P))
    (hB : Below w.heap.size w W) (hK : W.heap[D]? = some (.deferred (some []))) (hD : w.heap.size ≤ D) (t8 : T[8]? = some (.pointer (some ⟨w.heap.size, 0, none⟩))) (t9 : T[9]? = some (.pointer (some ⟨w.heap.size + 1, 0, none⟩))) :
    bodyPostM Fence.wide 6 Try.prog Try.f18 (ScanTo w (P, e)) .ret { tmps := T, defers := [{ target := Target.collected D, args := #[] }] } W := by
  refine ⟨by simp, .inl ⟨_, _, rfl, run_takeDeferred hK, ?_⟩⟩
  have c0 := cell_kept h0.cell (grownBy_putObj' W D (.deferred none)) (fun r h => by cases h; exact ⟨_, hK, rfl⟩)
  have c1 := cell_kept h1.cell (grownBy_putObj' W D (.deferred none)) (fun r h => by cases h; exact ⟨_, hK, rfl⟩)
  refine ⟨.tuple #[.slice A P.length c, .int .i64 e], ?_, A, c, rfl, ownsRow_putObj hown _ hK rfl, hB.trans (belowK_b (w := w) (Nat.le_refl _) W D _ _ hD hK rfl rfl)⟩
  simp [results, Try.f18, go_sem, c0, c1, t8, t9]
theorem kp_put {w0 : World} {n0 bR q : Nat} (hn : n0 ≤ w0.heap.size) (W : World) (l : Nat) (o o' : Obj) (hl : w0.heap.size ≤ l) (h : W.heap[l]? = some o) (hc : o.isCells = false) (hw : o.isWalk = false) : Kp n0 bR q W (W.putObj l o') := by
  refine ⟨belowK_b hn W l o o' hl h hc hw, fun hb => ?_⟩
  have hne : bR ≠ l := fun e => by
    have hx : W.heap[bR]? = _ := hb
    rw [e, h] at hx
    cases hx
    cases hc
  exact (World.putObj_heap_other hne).trans hb
theorem scan_nil (w : World) (a b : ByteArray) (n : Int) : Calls Try.prog 18 #[.pointer none, .string a, .string b, .int .i64 n] w (ScanTo w ([], 1)) := by
  have HB : Hid (Below w.heap.size w ((w.alloc (.cells #[.slice none 0 0] 22)).alloc (.cells #[.int .i64 1] 30))) := Lib.hid (((Below.refl w.heap.size w).alloc (Nat.le_refl _) _).alloc (by simp) _)
  go_enter Try.func18, Try.ntmps18
  go_wp2
  go_returns
  exact ⟨none, 0, rfl, World.ownsRow_nil _ _ _ _, HB.out⟩
set_option maxRecDepth 100000 in
set_option maxHeartbeats 4000000 in
theorem scanIn {w : World} {S : Nat → Prop} {B q p : Nat} {nm : ByteArray} {L : List Pr} {A : Option Addr} {c : Nat} {D : St} {Bt : List UInt8} (h : RunAt w B q p nm L A c) (hd : FileAt w S p D nm Bt) (hL : (rb L).length ≤ 16777216) (hlen : L.length ≤ 1000000) (hs : Sorted L) (hmay : ∀ x ∈ L, may x = true)
    (a b : ByteArray) (most : Int) :
    CallsIn Fence.wide 6 Try.prog 18 #[.pointer (some ⟨q, 0, none⟩), .string a, .string b, .int .i64 most] w (ScanTo w (scanned Bt L (Fd10.start a b L) (many most a b L))) := by
  obtain ⟨i0, hi, hz0, hz1, hz2⟩ := info_parts Sn9.infoP
  obtain ⟨g, rfl⟩ := h.ptr
  refine callsIn_of_wp_marks Try.func18 rfl trivial ?_ rfl
  simp only [Try.ntmps18, List.size_toArray, List.length_cons, List.length_nil, Nat.reduceAdd, Nat.reduceSub, Array.replicate_succ, Array.replicate_zero, List.push_toArray, List.append_toArray, List.nil_append, List.cons_append]
  have b0 := (Boxed.new w 22 (.slice none 0 0)).alloc (.cells #[.int .i64 0] 30)
  have b1 := Boxed.new (w.alloc (.cells #[.slice none 0 0] 22)) 30 (.int .i64 0)
  simp only [World.size_alloc] at b1
  have hB0 : Below w.heap.size w ((w.alloc (.cells #[.slice none 0 0] 22)).alloc (.cells #[.int .i64 0] 30)) := ((Below.refl w.heap.size w).alloc (Nat.le_refl _) _).alloc (by simp) _
  obtain ⟨W0, hW0⟩ : ∃ W0, (w.alloc (.cells #[.slice none 0 0] 22)).alloc (.cells #[.int .i64 0] 30) = W0 := ⟨_, rfl⟩
  have hs0 : W0.heap.size = w.heap.size + 2 := by rw [← hW0]; simp
  rw [hW0] at b0 b1 hB0
  have HWi := Lib.hid (within_any (h.below hB0) hlen hs a b)
  have HW0 := Lib.hid hW0
  have HSRC : Hid (∀ V, Below w.heap.size w V → RunAt V B q p nm L (some ⟨g, 0, none⟩) c ∧ FileAt V S p D nm Bt) := Lib.hid fun V hV => ⟨h.below hV, hd.below hV⟩
  have hst := Fd10.stop_le b L
  have hsm : Fd10.start a b L + (Fd10.stop b L - Fd10.start a b L) ≤ L.length := by have : Fd10.start a b L ≤ Fd10.stop b L := Nat.min_le_right _ _; omega
  have hmany : many most a b L = min most.toNat (Fd10.stop b L - Fd10.start a b L) := rfl
  obtain ⟨st, hst2⟩ : ∃ st, st = Fd10.start a b L := ⟨_, rfl⟩
  obtain ⟨M, hM⟩ : ∃ M, M = Fd10.stop b L - Fd10.start a b L := ⟨_, rfl⟩
  obtain ⟨K, hK⟩ : ∃ K, K = many most a b L := ⟨_, rfl⟩
  unfold Piece at HWi
  rw [← hM, ← hst2] at HWi
  rw [← hM] at hmany hsm
  rw [← hst2] at hsm ⊢
  rw [← hK] at hmany ⊢
  have hKM : K ≤ M := by omega
  have hmx : min (max most 0) (M : Int) = (K : Int) := by omega
  have hM1 : (K : Int) ≤ (M : Int) := by omega
  have hM0 : (0 : Int) ≤ (K : Int) := by omega
  have hMl : M ≤ 1000000 := by omega
  clear h hd hs hW0 hst hst2 hM hK hmany
  gi_wp2_with (refine ⟨trivial, ?_⟩; gi_at_call 37; rw [HW0.out]; refine (callsIn_wide.2 HWi.out).mono ?_; rintro e V1 ⟨⟨A', c', rfl, hA', hc1, hc2⟩, hb1⟩)
  have hbV := hB0.trans (hb1.mono hB0.size)
  have hvs := hbV.size
  have hvs2 : w.heap.size + 2 ≤ V1.heap.size := by have := hb1.size; omega
  obtain ⟨w1, hmk, hown, hgr⟩ := run_make_own (P := Try.prog) V1 w.heap.size 22 39 i0 (.agg #[.string ⟨#[]⟩, .string ⟨#[]⟩, .bool false]) 3 Try.underlying22 hi hz0 hz1 .i64 .i64 K (by rw [hz2]; omega) (by unfold maxLen; omega) hvs
  have hg1 := Bo10.below_grown hgr
  have e0 := box_keep (box_keep b0 hb1) hg1
  have e1 := box_keep (box_keep b1 hb1) hg1
  have hbw := hbV.trans (hg1.mono hvs)
  have hV1 : V1.heap.size < w1.heap.size := by
    rcases hown.2 with ⟨hv, _⟩ | ⟨g', cap', cur', hv, _, hg', _⟩
    · cases hv
    · injection hv with hv1
      injection hv1 with hv2
      injection hv2 with hv3
      rw [← hv3] at hg'
      exact lt_of_at hg'
  obtain ⟨bR, hbR⟩ : ∃ bR, bR = w1.heap.size + 1 := ⟨_, rfl⟩
  clear hb1 hbV hgr hg1 b0 b1 hB0 HWi
  rw [hmk]
  gi_wp2_with (refine ⟨trivial, ?_⟩; gi_at_call 38; refine (pairs_any _ q _ A' K c' rfl _).mono ?_; rintro e w' ⟨rfl, rfl⟩)
  obtain ⟨bL, hbL⟩ : ∃ bL, bL = w1.heap.size := ⟨_, rfl⟩
  have hL2 : w.heap.size + 2 ≤ bL := by omega
  have f0 := ((e0.alloc (.cells #[.slice (some ⟨V1.heap.size, 0, none⟩) 0 K] 22)).alloc (.cells #[.pointer (some ⟨q, 0, none⟩)] 35)).alloc (.cells #[.slice A' K c'] 77)
  have f1 := ((e1.alloc (.cells #[.slice (some ⟨V1.heap.size, 0, none⟩) 0 K] 22)).alloc (.cells #[.pointer (some ⟨q, 0, none⟩)] 35)).alloc (.cells #[.slice A' K c'] 77)
  have f2 := ((Boxed.new w1 22 (.slice (some ⟨V1.heap.size, 0, none⟩) 0 K)).alloc (.cells #[.pointer (some ⟨q, 0, none⟩)] 35)).alloc (.cells #[.slice A' K c'] 77)
  have f3 := (Boxed.new (w1.alloc (.cells #[.slice (some ⟨V1.heap.size, 0, none⟩) 0 K] 22)) 35 (.pointer (some ⟨q, 0, none⟩))).alloc (.cells #[.slice A' K c'] 77)
  have f4 := Boxed.new ((w1.alloc (.cells #[.slice (some ⟨V1.heap.size, 0, none⟩) 0 K] 22)).alloc (.cells #[.pointer (some ⟨q, 0, none⟩)] 35)) 77 (.slice A' K c')
  have fo := (((hown.alloc (.cells #[.slice (some ⟨V1.heap.size, 0, none⟩) 0 K] 22)).alloc (.cells #[.pointer (some ⟨q, 0, none⟩)] 35)).alloc (.cells #[.slice A' K c'] 77))
  simp only [World.size_alloc] at f3 f4
  have fB : Below w.heap.size w (((w1.alloc (.cells #[.slice (some ⟨V1.heap.size, 0, none⟩) 0 K] 22)).alloc (.cells #[.pointer (some ⟨q, 0, none⟩)] 35)).alloc (.cells #[.slice A' K c'] 77)) := ((hbw.alloc (by omega) _).alloc (by simp; omega) _).alloc (by simp; omega) _
  obtain ⟨W1, hW1⟩ : ∃ W1, (((w1.alloc (.cells #[.slice (some ⟨V1.heap.size, 0, none⟩) 0 K] 22)).alloc (.cells #[.pointer (some ⟨q, 0, none⟩)] 35)).alloc (.cells #[.slice A' K c'] 77)) = W1 := ⟨_, rfl⟩
  have hs1 : W1.heap.size = bL + 3 := by rw [← hW1]; simp; omega
  rw [hW1] at f0 f1 f2 f3 f4 fo fB ⊢
  rw [← hbL] at f2 f3 f4 ⊢
  rw [← hbL] at hbR
  rw [← hbR] at f3 f4 ⊢
  have hsrc : ∀ V, Below w.heap.size W1 V → RunAt V B q p nm L (some ⟨g, 0, none⟩) c ∧ FileAt V S p D nm Bt := fun V hV => HSRC.out V (fB.trans hV)
  have hAK : K ≠ 0 → A' = some ⟨g, st * 3, none⟩ := fun h => hA' (by omega)
  have HbR := Lib.hid hbR
  have hR2 : bL + 1 ≤ bR := by omega
  have hs2 : bL + 3 ≤ W1.heap.size := by omega
  have hR3 : bR + 1 < W1.heap.size := by omega
  clear hW1 e0 e1 hown hbw hmk hbL hbR hs1 hs0 HW0 HSRC
  refine wpIn_rangeFunc_ownH rfl (by omega) (gf := 57) (lb := #[.pointer (some ⟨bR + 1, 0, none⟩), .pointer (some ⟨bR, 0, none⟩)]) rfl trivial (enters_of Try.func57 (by kernel_rfl) rfl)
    (pairs_stops _ (by omega) (bR + 1) bR w.heap.size A' c' st K hAK (by omega) hlen hL hmay W1 (by omega) hsrc (by omega) f4.cell f3)
    (fun h k => kp_trans h k) (fun W l o o' hl h hc hw => kp_put (w0 := W1) (by omega) W l o o' hl h hc hw) (Below.refl _ _) (fun _ => rfl)
    (I10 w bL bR q) (Ix10 w) (i10_own w bL bR q _ (by omega)) (fun c => ix10_own w c _ (by omega))
    ⟨⟨[], rfl⟩, ⟨_, f2, fo, trivial⟩, f0, f1, f3, fB⟩
    (Ax10 w.heap.size q bL bR V1.heap.size a b most A' M K c') (fun x a' => ax10_own _ _ _ _ _ _ _ _ _ _ _ _ x a' _) ?assign ?body ?done ?stop
  case assign =>
    rintro l pre x W KK ⟨hpn, hrow, h0, h1, hr, hB⟩ hK
    obtain ⟨v, hv, hown, _⟩ := hrow
    obtain ⟨x, e⟩ := x
    dsimp only [encs]
    have hnew := World.alloc_heap_new W (pairO x)
    gi_wp2
    refine hK _ _ ((KeepsOthers.alloc W _).from _) ⟨(Below.refl _ _).alloc hB.size _, fun h => h.alloc _⟩ ⟨hpn, ⟨v, hv.alloc _, hown.alloc _, trivial⟩, h0.alloc _, h1.alloc _, hr.alloc _, hB.alloc hB.size _⟩ ⟨W.heap.size, hB.size, hnew, ?_⟩
    rfl
  case body =>
    rintro l pre ⟨x, e⟩ a' W hl hrec ⟨⟨P, rfl⟩, hrow, h0, h1, hr, hB⟩ ⟨bp, hbp, hx, rfl⟩ hlt
    have hPn : P.length < 1000001 := by
      have h1 := seqR_len Bt L K st
      have h2 : (oks P).length = P.length := List.length_map ..
      omega
    rw [fsts_oks] at hrow
    obtain ⟨v, hv, hown, _⟩ := id hrow
    obtain ⟨A, c, rfl⟩ := Sn9.row_shape hown
    have hc0 := hv.cell
    have hc1 := h0.cell
    have hc2 := h1.cell
    have hf1 := h0.frozen
    have hf2 := h1.frozen
    have x0 := cell_of hx 0
    have x1 := cell_of hx 1
    have x2 := cell_of hx 2
    have HX := Lib.hid hx
    clear hx hlt
    dsimp only [tmps10] at x0 x1 x2 ⊢
    by_cases he : e = 0
    · subst he
      have h63 : P.length + 1 ≤ maxLen := by unfold maxLen; omega
      have hby : (P.length + 1) * 40 ≤ 140737488355328 := by omega
      have hbas : w.heap.size ≤ (W.alloc (pairO x)).heap.size := by have := hB.size; simp; omega
      have HO := Lib.hid (hown.alloc (pairO x))
      have HN := Lib.hid (Sn9.news3 W x)
      have H63 := Lib.hid h63
      have HBY := Lib.hid hby
      have HBAS := Lib.hid hbas
      clear h63 hby hbas
      gi_wp2_with (gi_at_builtin; refine wpListIn_append_own_at _ rfl _ _ 22 rfl w.heap.size 39 i0 _ 3 40 Try.underlying22 hi hz0 hz1 hz2 rfl (by decide) _ _ _ rfl HO.out ⟨W.heap.size, 0, none⟩ 1 1 (cells3 x) rfl rfl HN.out (Sn9.one3 x) H63.out HBY.out HBAS.out ?_; intro v2 w2 r1 r2 r3 r4; obtain ⟨g2, cap2, rfl⟩ := ownsRow_succ r1; have hv2 : Boxed w2 bL 22 (.slice A P.length c) := (hv.alloc _).kept r2 (hv.not_row (by decide) hown); have hd0 := hv2.cell; have hd1 := hv2.frozen; have HR := Lib.hid (And.intro r1 r2); clear r1 r2 r3 r4)
      exact next_ok hv hown h0 h1 hr hB hL2 HbR.out HR.out.1 HR.out.2
    · have hne : (e != 0) = true := by simpa using he
      gi_wp2
      exact left_ok he h0 h1 hB
  case done =>
    rintro D' xs W hD hxs ⟨⟨P, rfl⟩, hrow, h0, h1, hr, hB⟩ hK
    rw [fsts_oks] at hrow
    obtain ⟨v, hv, hown, _⟩ := hrow
    obtain ⟨A, c, rfl⟩ := Sn9.row_shape hown
    have hc0 := hv.cell
    have hc1 := h0.cell
    have hc2 := h1.cell
    have hf1 := h0.frozen
    have hf2 := h1.frozen
    obtain ⟨d1, d2⟩ := seqR_done K st P (by omega) hxs.symm
    have hsc : scanned Bt L st K = (P, 0) := by unfold scanned; rw [d1, ← d2]; rfl
    have HSC := Lib.hid hsc
    clear hsc hxs d1 d2
    gi_wp2
    rw [HSC.out]
    have a0 := h0.set (.slice A P.length c)
    have a1 := h1.other (B' := w.heap.size) (by omega) (.slice A P.length c)
    have ao : (W.setCell ⟨w.heap.size, 0, none⟩ (.slice A P.length c)).ownsRow w.heap.size 39 3 (.slice A P.length c) P.length (cellsP P) := hown.kept (grownBy_setCell' W w.heap.size (.slice A P.length c)) (.inr fun e => h0.not_row (by decide) hown e.symm)
    have c0 := a0.other (B' := w.heap.size + 1) (by omega) (.int .i64 0)
    have c1 := a1.set (.int .i64 0)
    have co : ((W.setCell ⟨w.heap.size, 0, none⟩ (.slice A P.length c)).setCell ⟨w.heap.size + 1, 0, none⟩ (.int .i64 0)).ownsRow w.heap.size 39 3 (.slice A P.length c) P.length (cellsP P) := ao.kept (grownBy_setCell' _ (w.heap.size + 1) (.int .i64 0)) (.inr fun e => a1.not_row (by decide) ao e.symm)
    have hKs := (((KeepsOthers.setCell W ⟨w.heap.size, 0, none⟩ (.slice A P.length c)).trans (KeepsOthers.setCell _ ⟨w.heap.size + 1, 0, none⟩ (.int .i64 0)))).same D' _ hK rfl
    have hB2 := (hB.setCell (p := ⟨w.heap.size, 0, none⟩) (Nat.le_refl _) (.slice A P.length c)).setCell (p := ⟨w.heap.size + 1, 0, none⟩) (by simp) (.int .i64 0)
    exact scan_end (D := D') c0 c1 co hB2 hKs (by omega) rfl rfl
  case stop =>
    rintro D' c pre W hD hpre ⟨⟨rfl, P, x, e, rfl, he⟩, h0, h1, hB⟩ hK
    rw [err_snoc] at h1
    obtain ⟨d1, d2⟩ := seqR_stop K st P x e (by omega) he hpre
    have hsc : scanned Bt L st K = ([], e) := by unfold scanned; rw [d1, d2]; rfl
    have hc1 := h0.cell
    have hc2 := h1.cell
    have HSC := Lib.hid hsc
    clear hsc d1 d2 hpre
    gi_wp2
    rw [HSC.out]
    exact scan_end (D := D') (P := []) h0 h1 (World.ownsRow_nil _ _ _ _) hB hK (by omega) rfl rfl
theorem scan_any {w : World} {S : Nat → Prop} {B q p : Nat} {nm : ByteArray} {L : List Pr} {A : Option Addr} {c : Nat} {D : St} {Bt : List UInt8} (h : RunAt w B q p nm L A c) (hd : FileAt w S p D nm Bt) (hL : (rb L).length ≤ 16777216) (hlen : L.length ≤ 1000000) (hs : Sorted L) (hmay : ∀ x ∈ L, may x = true)
    (a b : ByteArray) (most : Int) :
    Calls Try.prog 18 #[.pointer (some ⟨q, 0, none⟩), .string a, .string b, .int .i64 most] w (ScanTo w (scanned Bt L (Fd10.start a b L) (many most a b L))) := callsIn_wide.1 (scanIn h hd hL hlen hs hmay a b most)
end Go.Proofs.Ytmnaamjoikfpbaa.Sn10
