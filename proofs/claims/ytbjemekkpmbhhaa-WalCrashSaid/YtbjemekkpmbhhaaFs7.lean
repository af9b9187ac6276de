/- The contract of frame.Scan: what going through any bytes tells. -/
import Derived.Test.YtbjemekkpmbhhaaFt7
import Derived.Test.YtbjemekkpmbhhaaRs7
import Derived.RangeFuncWrites
namespace Go.Proofs.Ytbjemekkpmbhhaa.Fs7
open Go Go.RowKit Go.Shelf Go.Proofs Go.Proofs.Ytbjemekkpmbhhaa.Wm Go.Proofs.Ytbjemekkpmbhhaa.Fl7 Go.Proofs.Ytbjemekkpmbhhaa.Sh7 Go.Proofs.Ytbjemekkpmbhhaa.Rs7 Go.Proofs.Ytbjemekkpmbhhaa.Ft7
attribute [local go_sem] Oper.semAt_some
theorem infoS : (Try.prog.info? 9).map (fun i => (i.zero, i.size, i.bytes)) = some (some (.string ⟨#[]⟩), 1, 16) := by kernel_rfl
/-- Texts as cells. -/
def cellsS (L : List (List UInt8)) : List Value := L.map fun t => .string (bs t)
/-- What the three results hold, in boxes from block b0 on. -/
def Row (n0 b0 : Nat) (L : List (List UInt8)) (W : World) : Prop := ∃ v, Boxed W b0 30 v ∧ W.ownsRow n0 9 1 v L.length (cellsS L) ∧ True
theorem row_shape {W : World} {n0 : Nat} {v : Value} {L : List (List UInt8)} (h : W.ownsRow n0 9 1 v L.length (cellsS L)) : ∃ A c, v = .slice A L.length c := by
  rcases h.2 with ⟨hv, h0⟩ | ⟨g, cap, cur, hv, _⟩
  · exact ⟨none, 0, by rw [hv, h0]⟩
  · exact ⟨_, _, hv⟩
theorem row_own (n0 b0 : Nat) : Own (fun (pre : List El) W => Row n0 b0 (tell (raw pre)).1 W) := holdsRow_own n0 b0 30 9 1 (fun pre => (tell (raw pre)).1.length) (fun pre => cellsS (tell (raw pre)).1) (fun _ _ => True)
theorem own_keep {W W' : World} {n0 : Nat} {v : Value} {k : Nat} {xs : List Value} (h : W.ownsRow n0 9 1 v k xs) (hb : Below W.heap.size W W') : W'.ownsRow n0 9 1 v k xs :=
  h.kept (grown_of_below hb) (by cases v.ownBlock <;> simp)
theorem box_keep {W W' : World} {B : Nat} {t : TypeId} {v : Value} (h : Boxed W B t v) (hb : Below W.heap.size W W') : Boxed W' B t v := h.kept (grown_of_below hb) (by simp)
theorem own_set {W : World} {n0 B : Nat} {t : TypeId} {u v : Value} {k : Nat} {xs : List Value} (hb : Boxed W B t u) (hte : t ≠ 9) (h : W.ownsRow n0 9 1 v k xs) (u' : Value) : (W.setCell ⟨B, 0, none⟩ u').ownsRow n0 9 1 v k xs :=
  h.kept (grownBy_setCell' W B u') (.inr fun e => hb.not_row hte h e.symm)
theorem oks_bound : ∀ (pre : List El) (L : List (List UInt8)), raw pre = oks L → L.length = pre.length ∧ size L ≤ pre.length * 4194316
  | [], L, h => by
    cases L with
    | nil => exact ⟨rfl, by simp [size]⟩
    | cons a L => simp [raw, oks] at h
  | ⟨x, hx⟩ :: pre, L, h => by
    cases L with
    | nil => simp [raw, oks] at h
    | cons a L =>
      have h2 : x = (a, 0) ∧ raw pre = oks L := by simpa [raw, oks] using h
      obtain ⟨h3, h4⟩ := oks_bound pre L h2.2
      rw [h2.1] at hx
      simp only [size, List.length_cons]
      dsimp only at hx
      exact ⟨by omega, by omega⟩
theorem own_shape {w : World} {B e s : Nat} {v : Value} {n : Nat} {xs : List Value} (h : w.ownsRow B e s v n xs) :
    ∃ ao cap, v = .slice ao n cap ∧ (0 < n → ∃ g, ao = some ⟨g, 0, none⟩ ∧ v.ownBlock = some g) := by
  rcases h.2 with ⟨rfl, rfl⟩ | ⟨g, cap, cur, rfl, _, _, _, _, _, _⟩
  · exact ⟨none, 0, rfl, fun h => absurd h (by omega)⟩
  · exact ⟨some ⟨g, 0, none⟩, cap, rfl, fun _ => ⟨g, rfl, rfl⟩⟩
theorem own_cell {w : World} {B e s : Nat} {v : Value} {n : Nat} {xs : List Value} (h : w.ownsRow B e s v n xs) {g : Nat} (hg : v.ownBlock = some g) (j : Nat) (u : Value) (hj : xs[j]? = some u) : w.cell? ⟨g, j, none⟩ = some u := by
  have := h.cells hg j u hj
  rwa [show (⟨g, 0, none⟩ : Addr).add j = ⟨g, j, none⟩ by unfold Addr.add; split <;> simp_all] at this
theorem rds_of_own {W : World} {n0 : Nat} {A : Option Addr} {n c : Nat} {L : List (List UInt8)} (h : W.ownsRow n0 9 1 (.slice A n c) L.length (cellsS L)) : Rds W A (L.map bs) := fun hne => by
  have hl : 0 < L.length := by
    cases L with
    | nil => exact absurd rfl hne
    | cons a L => simp
  rcases h.2 with ⟨hv, h0⟩ | ⟨g, cap, cur, hv, hb, hg, hrest⟩
  · omega
  · have hA : A = some ⟨g, 0, none⟩ := by injection hv
    refine ⟨g, 0, hA, (Array.getElem?_eq_some_iff.1 hg).1, fun k hk => ?_⟩
    rw [List.length_map] at hk
    have h1 : (cellsS L)[k]? = some (.string (L.map bs)[k]) := by
      simp [cellsS, hk]
    rw [Nat.zero_add]
    exact own_cell h (by rw [hv]; rfl) k _ h1
def I1 (w : World) (pre : List El) (W : World) : Prop :=
  (∃ L, raw pre = oks L) ∧ Row w.heap.size w.heap.size (tell (raw pre)).1 W ∧ Boxed W (w.heap.size + 1) 3 (.int .i64 (((tell (raw pre)).2.1 : Nat) : Int)) ∧ Boxed W (w.heap.size + 1 + 1) 26 (.int .i64 0) ∧ Below w.heap.size w W
def Ix1 (w : World) (c : Code) (pre : List El) (W : World) : Prop :=
  (c = .ret ∧ ∃ L t e, raw pre = oks L ++ [(t, e)] ∧ e ≠ 0) ∧ Row w.heap.size w.heap.size (tell (raw pre)).1 W ∧ Boxed W (w.heap.size + 1) 3 (.int .i64 (((tell (raw pre)).2.1 : Nat) : Int)) ∧ Boxed W (w.heap.size + 1 + 1) 26 (.int .i64 (((tell (raw pre)).2.2 : Nat) : Int)) ∧ Below w.heap.size w W
theorem i1_own (w : World) (B : Nat) (hB : w.heap.size ≤ B) : OwnFrom B (I1 w) :=
  OwnFrom.and (ownFrom_pure B _) (OwnFrom.and (Own.from (row_own _ _) _) (OwnFrom.and (Own.from (boxed_own _ _ (fun pre : List El => .int .i64 (((tell (raw pre)).2.1 : Nat) : Int))) _) (OwnFrom.and (Own.from (boxed_own _ _ (fun _ : List El => .int .i64 0)) _) (ownFrom_below (Nat.le_refl _) hB))))
theorem ix1_own (w : World) (c : Code) (B : Nat) (hB : w.heap.size ≤ B) : OwnFrom B (Ix1 w c) :=
  OwnFrom.and (ownFrom_pure B _) (OwnFrom.and (Own.from (row_own _ _) _) (OwnFrom.and (Own.from (boxed_own _ _ (fun pre : List El => .int .i64 (((tell (raw pre)).2.1 : Nat) : Int))) _) (OwnFrom.and (Own.from (boxed_own _ _ (fun pre : List El => .int .i64 (((tell (raw pre)).2.2 : Nat) : Int))) _) (ownFrom_below (Nat.le_refl _) hB))))
theorem appended_all {w W w1 w2 : World} {b0 b1 b2 : Nat} {A : Option Addr} {c : Nat} {L : List (List UInt8)} {t : List UInt8} {x y v2 : Value}
    (hv : Boxed W b0 30 (.slice A L.length c)) (hown : W.ownsRow w.heap.size 9 1 (.slice A L.length c) L.length (cellsS L)) (h1 : Boxed W b1 3 x) (h2 : Boxed W b2 26 y)
    (hn : w.heap.size ≤ W.heap.size) (hb : w.heap.size ≤ b0) (HB1 : Below W.heap.size W w1)
    (own2 : w2.ownsRow w.heap.size 9 1 v2 (L.length + 1) (cellsS L ++ [.string (bs t)])) (hgrow : (w1.alloc (.cells #[.string (bs t)] 9)).grownBy w2 (Value.slice A L.length c).ownBlock) :
    Boxed w2 b0 30 (.slice A L.length c) ∧ Boxed (w2.setCell ⟨b0, 0, none⟩ v2) b0 30 v2 ∧ (w2.setCell ⟨b0, 0, none⟩ v2).ownsRow w.heap.size 9 1 v2 (L.length + 1) (cellsS L ++ [.string (bs t)]) ∧
      Boxed (w2.setCell ⟨b0, 0, none⟩ v2) b1 3 x ∧ Boxed (w2.setCell ⟨b0, 0, none⟩ v2) b2 26 y ∧ KeepsOthers W (w2.setCell ⟨b0, 0, none⟩ v2) ∧ Below w.heap.size W (w2.setCell ⟨b0, 0, none⟩ v2) := by
  have hv1 := box_keep hv HB1
  have own1 := own_keep hown HB1
  have h11 := box_keep h1 HB1
  have h21 := box_keep h2 HB1
  have hs := HB1.size
  obtain ⟨k1, k2, k3, k4, k5⟩ := hv1.appended (by decide) own1 (by omega) hb own2 hgrow
  have n1 : b1 ≠ b0 := fun e => by
    have a : W.heap[b0]? = _ := hv
    have b : W.heap[b1]? = _ := h1
    rw [e, a] at b; cases b
  have n2 : b2 ≠ b0 := fun e => by
    have a : W.heap[b0]? = _ := hv
    have b : W.heap[b2]? = _ := h2
    rw [e, a] at b; cases b
  have h12 : Boxed w2 b1 3 x := (h11.alloc _).kept hgrow (h11.not_row (by decide) own1)
  have h22 : Boxed w2 b2 26 y := (h21.alloc _).kept hgrow (h21.not_row (by decide) own1)
  exact ⟨k1, k2, k3, h12.other n1 _, h22.other n2 _, (KeepsOthers.of_grownBy (grown_of_below HB1) (fun _ _ h _ => by cases h)).trans k4, (HB1.mono hn).trans k5⟩
theorem step_append {F : Fence} {n : Nat} {P : Program} {o : Oper} {a : Act} {w w2 : World} {T : Nat → Option Bool} {K : Act → World → Prop} {Q : Exit → Act → World → Prop} {E : Prop}
    (hg : o.guard = none) (s x : Operand) (t : TypeId) (ho : o.op = .call { callee := .builtin .append, args := #[s, x], argTypes := #[t, t] }) (v v2 y : Value) (hs : a.eval s = v) (hx : a.eval x = y)
    (hrun : (Builtin.append_ #[t, t] o.type #[v, y]).run P w = .ok v2 w2) (hK : K (a.put o.dst v2) w2) : if Region.wanted o T = true then Oper.wpIn F n P o a w K Q else E := by
  rw [if_pos (by simp [Region.wanted, hg])]
  unfold Oper.wpIn
  refine ⟨by simp [Oper.about, ho, resolve, Target.leads, Sem.run_pure], ?_⟩
  rw [Oper.semAt_plain F _ _ (by rw [ho]; intro c hc'; cases hc')]
  simp [execOp, ho, resolve, invoke, builtin, hs, hx, hrun, Result.andThen]
  exact hK
theorem box_ne {W : World} {b b' : Nat} {t t' : TypeId} {x y : Value} (h : Boxed W b t x) (h' : Boxed W b' t' y) (ht : t ≠ t') : b ≠ b' := fun e => by
  have a : W.heap[b]? = _ := h
  have c : W.heap[b']? = _ := h'
  rw [e, c] at a
  have d := Option.some.inj a
  simp only [Obj.cells.injEq] at d
  exact ht d.2.1.symm
/-- A round that goes on. -/
theorem body_ok {w W w3 : World} {pre : List El} {L : List (List UInt8)} {t : List UInt8} {ht : ((t, 0) : List UInt8 × Nat).1.length ≤ 4194304} {v2 : Value} {a : Act} {B : Nat} (hL : raw pre = oks L) (hB : Below w.heap.size w W)
    (k2 : Boxed w3 w.heap.size 30 v2) (k3 : w3.ownsRow w.heap.size 9 1 v2 (L.length + 1) (cellsS L ++ [.string (bs t)]))
    (k4 : Boxed w3 (w.heap.size + 1) 3 (.int .i64 ((size L : Nat) : Int))) (k5 : Boxed w3 (w.heap.size + 1 + 1) 26 (.int .i64 0)) (k6 : KeepsOthers W w3) (k7 : Below w.heap.size W w3) :
    ownPostG B (fun _ _ => True) (I1 w) (Ix1 w) (pre ++ [⟨(t, 0), ht⟩]) W .normal a (w3.setCell ⟨w.heap.size + 1, 0, none⟩ (.int .i64 (((size L : Nat) : Int) + (12 + ((bs t).size : Int))))) := by
  have e : raw (pre ++ [⟨(t, 0), ht⟩]) = oks (L ++ [t]) := by rw [raw_snoc, hL, oks_snoc]
  refine ⟨(k6.trans (KeepsOthers.setCell _ _ _)).from _, trivial, ⟨L ++ [t], e⟩, ?_, ?_, ?_, ?_⟩
  · rw [e, tell_done]
    refine ⟨v2, k2.other (box_ne k2 k4 (by decide)) _, ?_, trivial⟩
    have h := own_set k4 (by decide) k3 (.int .i64 (((size L : Nat) : Int) + (12 + ((bs t).size : Int))))
    have e1 : (L ++ [t]).length = L.length + 1 := by simp
    have e2 : cellsS (L ++ [t]) = cellsS L ++ [.string (bs t)] := by simp [cellsS]
    rw [e1, e2]
    exact h
  · rw [e, tell_done]
    have h := k4.set (.int .i64 (((size L : Nat) : Int) + (12 + ((bs t).size : Int))))
    have e1 : ((size (L ++ [t]) : Nat) : Int) = ((size L : Nat) : Int) + (12 + ((bs t).size : Int)) := by
      rw [size_append, bs_size]; simp only [size]; omega
    dsimp only
    rw [e1]
    exact h
  · exact k5.other (box_ne k5 k4 (by decide)) _
  · exact (hB.trans k7).setCell (p := ⟨w.heap.size + 1, 0, none⟩) (by simp) _
/-- A round that leaves. -/
theorem left_ok {w W : World} {pre : List El} {L : List (List UInt8)} {t : List UInt8} {e : Nat} {ht : ((t, e) : List UInt8 × Nat).1.length ≤ 4194304} {v : Value} {a : Act} {B : Nat} (hL : raw pre = oks L) (he : e ≠ 0) (hB : Below w.heap.size w W)
    (hv : Boxed W w.heap.size 30 v) (hown : W.ownsRow w.heap.size 9 1 v L.length (cellsS L))
    (h1 : Boxed W (w.heap.size + 1) 3 (.int .i64 ((size L : Nat) : Int))) (h2 : Boxed W (w.heap.size + 1 + 1) 26 (.int .i64 0)) :
    ownPostG B (fun _ _ => True) (I1 w) (Ix1 w) (pre ++ [⟨(t, e), ht⟩]) W .ret a (((W.setCell ⟨w.heap.size, 0, none⟩ v).setCell ⟨w.heap.size + 1, 0, none⟩ (.int .i64 ((size L : Nat) : Int))).setCell ⟨w.heap.size + 1 + 1, 0, none⟩ (.int .i64 (e : Int))).drew := by
  have er : raw (pre ++ [⟨(t, e), ht⟩]) = oks L ++ [(t, e)] := by rw [raw_snoc, hL]
  have et := tell_why L t e he []
  have n01 := box_ne hv h1 (by decide)
  have n02 := box_ne hv h2 (by decide)
  have n12 := box_ne h1 h2 (by decide)
  have a0 := hv.set v
  have a1 := h1.other n01.symm v
  have a2 := h2.other n02.symm v
  have ao := own_set hv (by decide) hown v
  have b0 := a0.other n01 (.int .i64 ((size L : Nat) : Int))
  have b1 := a1.set (.int .i64 ((size L : Nat) : Int))
  have b2 := a2.other n12.symm (.int .i64 ((size L : Nat) : Int))
  have bo := own_set a1 (by decide) ao (.int .i64 ((size L : Nat) : Int))
  have c0 := b0.other n02 (.int .i64 (e : Int))
  have c1 := b1.other n12 (.int .i64 (e : Int))
  have c2 := b2.set (.int .i64 (e : Int))
  have co := own_set b2 (by decide) bo (.int .i64 (e : Int))
  refine ⟨((((KeepsOthers.setCell W _ _).trans (KeepsOthers.setCell _ _ _)).trans (KeepsOthers.setCell _ _ _)).trans (KeepsOthers.drew _)).from _, ⟨rfl, L, t, e, er, he⟩, ?_, ?_, ?_, ?_⟩
  · rw [er, et]
    exact ⟨v, c0, co, trivial⟩
  · rw [er, et]
    exact c1
  · rw [er, et]
    exact c2
  · exact (((hB.setCell (p := ⟨w.heap.size, 0, none⟩) (Nat.le_refl _) _).setCell (p := ⟨w.heap.size + 1, 0, none⟩) (by simp) _).setCell (p := ⟨w.heap.size + 1 + 1, 0, none⟩) (by show _ ≤ w.heap.size + 1 + 1; omega) _).drew
/-- Scan's answer: texts, their frames' bytes, and why it ended. -/
def Told (w : World) (T : List (List UInt8) × Nat × Nat) (e : Ending) (w' : World) : Prop :=
  ∃ A c, e = .returned (.tuple #[.slice A T.1.length c, .int .i64 ((T.2.1 : Nat) : Int), .int .i64 ((T.2.2 : Nat) : Int)]) ∧ w'.ownsRow w.heap.size 9 1 (.slice A T.1.length c) T.1.length (cellsS T.1) ∧ Below w.heap.size w w'
theorem told_end {w W : World} {D : Nat} {L : List (List UInt8)} {n e : Nat} {A : Option Addr} {c : Nat} {T : Array Value} (hv : Boxed W w.heap.size 30 (.slice A L.length c)) (hown : W.ownsRow w.heap.size 9 1 (.slice A L.length c) L.length (cellsS L))
    (h1 : Boxed W (w.heap.size + 1) 3 (.int .i64 (n : Int))) (h2 : Boxed W (w.heap.size + 1 + 1) 26 (.int .i64 (e : Int))) (hB : Below w.heap.size w W) (hK : W.heap[D]? = some (.deferred (some []))) (hD : w.heap.size ≤ D)
    (t2 : T[2]? = some (.pointer (some ⟨w.heap.size, 0, none⟩))) (t3 : T[3]? = some (.pointer (some ⟨w.heap.size + 1, 0, none⟩))) (t4 : T[4]? = some (.pointer (some ⟨w.heap.size + 1 + 1, 0, none⟩)) ) :
    bodyPostM Fence.wide 6 Try.prog Try.f21 (Told w (L, n, e)) .ret { tmps := T, defers := [{ target := Target.collected D, args := #[] }] } W := by
  refine ⟨by simp, .inl ⟨_, _, rfl, run_takeDeferred hK, ?_⟩⟩
  have c0 := cell_kept hv.cell (grownBy_putObj' W D (.deferred none)) (fun r h => by cases h; exact ⟨_, hK, rfl⟩)
  have c1 := cell_kept h1.cell (grownBy_putObj' W D (.deferred none)) (fun r h => by cases h; exact ⟨_, hK, rfl⟩)
  have c2 := cell_kept h2.cell (grownBy_putObj' W D (.deferred none)) (fun r h => by cases h; exact ⟨_, hK, rfl⟩)
  refine ⟨.tuple #[.slice A L.length c, .int .i64 (n : Int), .int .i64 (e : Int)], ?_, A, c, rfl, ownsRow_putObj hown _ hK rfl, hB.trans (belowK_b (w := w) (Nat.le_refl _) W D _ _ hD hK rfl rfl)⟩
  simp [results, Try.f21, go_sem, c0, c1, c2, t2, t3, t4]
set_option maxRecDepth 100000 in
set_option maxHeartbeats 4000000 in
theorem scanIn (b : ByteArray) (w : World) (hb : b.size ≤ 4294967296) :
    CallsIn Fence.wide 6 Try.prog 21 #[.string b] w (Told w (scan b.data.toList)) := by
  obtain ⟨i0, hi, hz0, hz1, hz2⟩ := info_parts infoS
  refine callsIn_of_wp_marks Try.func21 rfl trivial ?_ rfl
  simp only [Try.ntmps21, List.size_toArray, List.length_cons, List.length_nil, Nat.reduceAdd, Nat.reduceSub, Array.replicate_succ, Array.replicate_zero, List.push_toArray, List.append_toArray, List.nil_append, List.cons_append]
  gi_wp2_with (refine ⟨trivial, ?_⟩; gi_at_call 39; refine (texts_any _ b _).mono ?_; rintro e w' ⟨rfl, rfl⟩)
  have bB := Boxed.new (((w.alloc (.cells #[.slice none 0 0] 30)).alloc (.cells #[.int .i64 0] 3)).alloc (.cells #[.int .i64 0] 26)) 9 (.string b)
  have b0 := (((Boxed.new w 30 (.slice none 0 0)).alloc (.cells #[.int .i64 0] 3)).alloc (.cells #[.int .i64 0] 26)).alloc (.cells #[.string b] 9)
  have b1 := ((Boxed.new (w.alloc (.cells #[.slice none 0 0] 30)) 3 (.int .i64 0)).alloc (.cells #[.int .i64 0] 26)).alloc (.cells #[.string b] 9)
  have b2 := (Boxed.new ((w.alloc (.cells #[.slice none 0 0] 30)).alloc (.cells #[.int .i64 0] 3)) 26 (.int .i64 0)).alloc (.cells #[.string b] 9)
  simp only [World.size_alloc] at bB b1 b2
  have hB0 : Below w.heap.size w ((((w.alloc (.cells #[.slice none 0 0] 30)).alloc (.cells #[.int .i64 0] 3)).alloc (.cells #[.int .i64 0] 26)).alloc (.cells #[.string b] 9)) :=
    (((((Below.refl w.heap.size w).alloc (Nat.le_refl _) _).alloc (by simp) _).alloc (by simp; omega) _)).alloc (by simp; omega) _
  obtain ⟨W0, hW0⟩ : ∃ W0, ((((w.alloc (.cells #[.slice none 0 0] 30)).alloc (.cells #[.int .i64 0] 3)).alloc (.cells #[.int .i64 0] 26)).alloc (.cells #[.string b] 9)) = W0 := ⟨_, rfl⟩
  have hs0 : W0.heap.size = w.heap.size + 4 := by rw [← hW0]; simp
  rw [hW0] at bB b0 b1 b2 hB0 ⊢
  clear hW0
  refine wpIn_rangeFunc_ownG rfl (by omega) (gf := 58) (lb := #[.pointer (some ⟨w.heap.size + 1 + 1 + 1, 0, none⟩)]) rfl trivial (enters_of Try.func58 (by kernel_rfl) rfl)
    (texts_stops _ (by omega) (w.heap.size + 1 + 1 + 1) b (by unfold maxLen; omega) W0 (by omega) bB.cell) (fun _ _ => trivial) (fun _ _ _ _ _ _ _ _ => trivial) (Below.refl _ _) (fun _ => rfl)
    (I1 w) (Ix1 w) (i1_own w _ (by omega)) (fun c => ix1_own w c _ (by omega))
    ⟨⟨[], rfl⟩, ⟨_, b0, World.ownsRow_nil _ _ _ _, trivial⟩, b1, b2, hB0⟩
    (fun x => { tmps := #[.string b, undef, .pointer (some ⟨w.heap.size, 0, none⟩), .pointer (some ⟨w.heap.size + 1, 0, none⟩), .pointer (some ⟨w.heap.size + 1 + 1, 0, none⟩), .string (bs x.1.1), .int .i64 (x.1.2 : Int), .string b, .func (.func 58) #[] #[.pointer (some ⟨w.heap.size + 1 + 1 + 1, 0, none⟩)], .string (bs x.1.1), .int .i64 (x.1.2 : Int), undef, undef, undef, undef, undef, undef, undef, undef, undef, undef, undef, undef, undef, undef, undef, undef, undef], defers := [] }) ?assign ?body ?done ?stop
  case assign =>
    intro l x W K hK
    dsimp only [encs]
    gi_wp2
    exact hK
  case body =>
    rintro l pre ⟨⟨t, e⟩, ht⟩ W ⟨⟨L, hL⟩, hrow, h1, h2, hB⟩ hlt
    obtain ⟨hL1, hL2⟩ := oks_bound pre L hL
    have hsq := seq_len b.data.toList.length b.data.toList (Nat.le_refl _)
    have hbl : b.data.toList.length = b.size := by simp
    have hLn : L.length < 4294967296 := by omega
    have hLs : size L < 18014467228958720 := by omega
    rw [hL, tell_done] at hrow h1
    dsimp only at hrow h1 ht ⊢
    obtain ⟨v, hv, hown, _⟩ := hrow
    obtain ⟨A, c, rfl⟩ := row_shape hown
    have hc0 := hv.cell
    have hf0 := hv.frozen
    have hc1 := h1.cell
    have hf1 := h1.frozen
    have hc2 := h2.cell
    have hf2 := h2.frozen
    clear hlt hL1 hL2 hsq hbl
    have hcl : (bs t).size ≤ 281474976710656 := by rw [bs_size]; omega
    by_cases he : e = 0
    · subst he
      have hzE : bne (((0 : Nat) : Int)) 0 = false := rfl
      gi_wp2
      refine wpIn_region_any (by kernel_rfl) ?_
      change wpAnyIn _ _ _ _ _ _ _ _ _ (World.drew _)
      refine wpAnyIn_ready (rs := [0, 1]) (by kernel_rfl) (by simp) ?_
      refine AllReadyIn.cons rfl (fun K hK => ?_) ?_
      · skip
        go_simp
        refine hK _ _ ?_
        clear hK K
        refine wpAnyIn_ready (rs := [1]) (by kernel_rfl) (by simp) ?_
        refine AllReadyIn.cons rfl (fun K hK => ?_) ?_
        · skip
          go_simp
          refine hK _ _ ?_
          clear hK K
          refine wpAnyIn_ready (rs := [2]) (by kernel_rfl) (by simp) ?_
          refine AllReadyIn.cons rfl (fun K hK => ?_) ?_
          · skip
            go_simp
            refine ⟨trivial, CallsIn.inRound l ?_⟩
            refine (callsIn_wide.2 (clone_any (bs t) _ hcl)).mono ?_
            rintro ex w1 ⟨rfl, hb1⟩
            have HB1 : Below W.heap.size W w1 := ⟨hb1.os, hb1.tape, hb1.output, hb1.size, hb1.block⟩
            have hv1 := box_keep hv HB1
            have own1 := own_keep hown HB1
            have hc10 := hv1.cell
            clear hb1
            dsimp only
            refine hK _ _ ?_
            clear hK K
            refine wpAnyIn_ready (rs := [3]) (by kernel_rfl) (by simp) ?_
            refine AllReadyIn.cons rfl (fun K hK => ?_) ?_
            · skip
              go_simp
              have hv2 := hv1.alloc (.cells #[.string (bs t)] 9)
              have hc20 := hv2.cell
              refine hK _ _ ?_
              clear hK K
              refine wpAnyIn_ready (rs := [4]) (by kernel_rfl) (by simp) ?_
              refine AllReadyIn.cons rfl (fun K hK => ?_) ?_
              · skip
                obtain ⟨v2, w2, hrun, own2, hgrow, _⟩ := run_append_own (P := Try.prog) (w1.alloc (.cells #[.string (bs t)] 9)) w.heap.size 30 30 9 i0 (.string ⟨#[]⟩) 1 16 Try.underlying30 hi hz0 hz1 hz2 rfl (by decide) _ L.length (cellsS L) (own1.alloc _) ⟨w1.heap.size, 0, none⟩ 1 1 [.string (bs t)] rfl (cell_one_new _ _ _) (by simp [Value.oneCell']) (by unfold maxLen; omega) (by omega) (by have := hB.size; have := HB1.size; simp; omega)
                obtain ⟨g2, cap2, rfl⟩ := ownsRow_succ own2
                obtain ⟨k1, k2, k3, k4, k5, k6, k7⟩ := appended_all hv hown h1 h2 hB.size (Nat.le_refl _) HB1 own2 hgrow
                have hc3 := k1.cell
                have hf3 := k1.frozen
                refine step_append rfl _ _ _ rfl _ _ _ rfl rfl hrun ?_
                simp only [Act.put, List.setIfInBounds_toArray]
                refine hK _ _ ?_
                clear hK K
                refine wpAnyIn_ready (rs := [5]) (by kernel_rfl) (by simp) ?_
                refine AllReadyIn.cons rfl (fun K hK => ?_) ?_
                · skip
                  go_simp
                  generalize w2.setCell ⟨w.heap.size, 0, none⟩ (.slice (some ⟨g2, 0, none⟩) (L.length + 1) cap2) = w3 at k2 k3 k4 k5 k6 k7 ⊢
                  have hc31 := k4.cell
                  have hf31 := k4.frozen
                  refine hK _ _ ?_
                  clear hK K
                  refine wpAnyIn_done (by kernel_rfl) ?_ _
                  gi_wp2
                  exact body_ok hL hB k2 k3 k4 k5 k6 k7
                exact AllReadyIn.nil
              exact AllReadyIn.nil
            exact AllReadyIn.nil
          exact AllReadyIn.nil
        exact AllReadyIn.nil
      refine AllReadyIn.cons rfl (fun K hK => ?_) ?_
      · skip
        go_simp
        refine hK _ _ ?_
        clear hK K
        refine wpAnyIn_ready (rs := [0, 2]) (by kernel_rfl) (by simp) ?_
        refine AllReadyIn.cons rfl (fun K hK => ?_) ?_
        · skip
          go_simp
          refine hK _ _ ?_
          clear hK K
          refine wpAnyIn_ready (rs := [2]) (by kernel_rfl) (by simp) ?_
          refine AllReadyIn.cons rfl (fun K hK => ?_) ?_
          · skip
            go_simp
            refine ⟨trivial, CallsIn.inRound l ?_⟩
            refine (callsIn_wide.2 (clone_any (bs t) _ hcl)).mono ?_
            rintro ex w1 ⟨rfl, hb1⟩
            have HB1 : Below W.heap.size W w1 := ⟨hb1.os, hb1.tape, hb1.output, hb1.size, hb1.block⟩
            have hv1 := box_keep hv HB1
            have own1 := own_keep hown HB1
            have hc10 := hv1.cell
            clear hb1
            dsimp only
            refine hK _ _ ?_
            clear hK K
            refine wpAnyIn_ready (rs := [3]) (by kernel_rfl) (by simp) ?_
            refine AllReadyIn.cons rfl (fun K hK => ?_) ?_
            · skip
              go_simp
              have hv2 := hv1.alloc (.cells #[.string (bs t)] 9)
              have hc20 := hv2.cell
              refine hK _ _ ?_
              clear hK K
              refine wpAnyIn_ready (rs := [4]) (by kernel_rfl) (by simp) ?_
              refine AllReadyIn.cons rfl (fun K hK => ?_) ?_
              · skip
                obtain ⟨v2, w2, hrun, own2, hgrow, _⟩ := run_append_own (P := Try.prog) (w1.alloc (.cells #[.string (bs t)] 9)) w.heap.size 30 30 9 i0 (.string ⟨#[]⟩) 1 16 Try.underlying30 hi hz0 hz1 hz2 rfl (by decide) _ L.length (cellsS L) (own1.alloc _) ⟨w1.heap.size, 0, none⟩ 1 1 [.string (bs t)] rfl (cell_one_new _ _ _) (by simp [Value.oneCell']) (by unfold maxLen; omega) (by omega) (by have := hB.size; have := HB1.size; simp; omega)
                obtain ⟨g2, cap2, rfl⟩ := ownsRow_succ own2
                obtain ⟨k1, k2, k3, k4, k5, k6, k7⟩ := appended_all hv hown h1 h2 hB.size (Nat.le_refl _) HB1 own2 hgrow
                have hc3 := k1.cell
                have hf3 := k1.frozen
                refine step_append rfl _ _ _ rfl _ _ _ rfl rfl hrun ?_
                simp only [Act.put, List.setIfInBounds_toArray]
                refine hK _ _ ?_
                clear hK K
                refine wpAnyIn_ready (rs := [5]) (by kernel_rfl) (by simp) ?_
                refine AllReadyIn.cons rfl (fun K hK => ?_) ?_
                · skip
                  go_simp
                  generalize w2.setCell ⟨w.heap.size, 0, none⟩ (.slice (some ⟨g2, 0, none⟩) (L.length + 1) cap2) = w3 at k2 k3 k4 k5 k6 k7 ⊢
                  have hc31 := k4.cell
                  have hf31 := k4.frozen
                  refine hK _ _ ?_
                  clear hK K
                  refine wpAnyIn_done (by kernel_rfl) ?_ _
                  gi_wp2
                  exact body_ok hL hB k2 k3 k4 k5 k6 k7
                exact AllReadyIn.nil
              exact AllReadyIn.nil
            exact AllReadyIn.nil
          exact AllReadyIn.nil
        refine AllReadyIn.cons rfl (fun K hK => ?_) ?_
        · skip
          go_simp
          refine ⟨trivial, CallsIn.inRound l ?_⟩
          refine (callsIn_wide.2 (clone_any (bs t) _ hcl)).mono ?_
          rintro ex w1 ⟨rfl, hb1⟩
          have HB1 : Below W.heap.size W w1 := ⟨hb1.os, hb1.tape, hb1.output, hb1.size, hb1.block⟩
          have hv1 := box_keep hv HB1
          have own1 := own_keep hown HB1
          have hc10 := hv1.cell
          clear hb1
          dsimp only
          refine hK _ _ ?_
          clear hK K
          refine wpAnyIn_ready (rs := [0, 3]) (by kernel_rfl) (by simp) ?_
          refine AllReadyIn.cons rfl (fun K hK => ?_) ?_
          · skip
            go_simp
            refine hK _ _ ?_
            clear hK K
            refine wpAnyIn_ready (rs := [3]) (by kernel_rfl) (by simp) ?_
            refine AllReadyIn.cons rfl (fun K hK => ?_) ?_
            · skip
              go_simp
              have hv2 := hv1.alloc (.cells #[.string (bs t)] 9)
              have hc20 := hv2.cell
              refine hK _ _ ?_
              clear hK K
              refine wpAnyIn_ready (rs := [4]) (by kernel_rfl) (by simp) ?_
              refine AllReadyIn.cons rfl (fun K hK => ?_) ?_
              · skip
                obtain ⟨v2, w2, hrun, own2, hgrow, _⟩ := run_append_own (P := Try.prog) (w1.alloc (.cells #[.string (bs t)] 9)) w.heap.size 30 30 9 i0 (.string ⟨#[]⟩) 1 16 Try.underlying30 hi hz0 hz1 hz2 rfl (by decide) _ L.length (cellsS L) (own1.alloc _) ⟨w1.heap.size, 0, none⟩ 1 1 [.string (bs t)] rfl (cell_one_new _ _ _) (by simp [Value.oneCell']) (by unfold maxLen; omega) (by omega) (by have := hB.size; have := HB1.size; simp; omega)
                obtain ⟨g2, cap2, rfl⟩ := ownsRow_succ own2
                obtain ⟨k1, k2, k3, k4, k5, k6, k7⟩ := appended_all hv hown h1 h2 hB.size (Nat.le_refl _) HB1 own2 hgrow
                have hc3 := k1.cell
                have hf3 := k1.frozen
                refine step_append rfl _ _ _ rfl _ _ _ rfl rfl hrun ?_
                simp only [Act.put, List.setIfInBounds_toArray]
                refine hK _ _ ?_
                clear hK K
                refine wpAnyIn_ready (rs := [5]) (by kernel_rfl) (by simp) ?_
                refine AllReadyIn.cons rfl (fun K hK => ?_) ?_
                · skip
                  go_simp
                  generalize w2.setCell ⟨w.heap.size, 0, none⟩ (.slice (some ⟨g2, 0, none⟩) (L.length + 1) cap2) = w3 at k2 k3 k4 k5 k6 k7 ⊢
                  have hc31 := k4.cell
                  have hf31 := k4.frozen
                  refine hK _ _ ?_
                  clear hK K
                  refine wpAnyIn_done (by kernel_rfl) ?_ _
                  gi_wp2
                  exact body_ok hL hB k2 k3 k4 k5 k6 k7
                exact AllReadyIn.nil
              exact AllReadyIn.nil
            exact AllReadyIn.nil
          refine AllReadyIn.cons rfl (fun K hK => ?_) ?_
          · skip
            go_simp
            have hv2 := hv1.alloc (.cells #[.string (bs t)] 9)
            have hc20 := hv2.cell
            refine hK _ _ ?_
            clear hK K
            refine wpAnyIn_ready (rs := [0]) (by kernel_rfl) (by simp) ?_
            refine AllReadyIn.cons rfl (fun K hK => ?_) ?_
            · skip
              go_simp
              refine hK _ _ ?_
              clear hK K
              refine wpAnyIn_ready (rs := [4]) (by kernel_rfl) (by simp) ?_
              refine AllReadyIn.cons rfl (fun K hK => ?_) ?_
              · skip
                obtain ⟨v2, w2, hrun, own2, hgrow, _⟩ := run_append_own (P := Try.prog) (w1.alloc (.cells #[.string (bs t)] 9)) w.heap.size 30 30 9 i0 (.string ⟨#[]⟩) 1 16 Try.underlying30 hi hz0 hz1 hz2 rfl (by decide) _ L.length (cellsS L) (own1.alloc _) ⟨w1.heap.size, 0, none⟩ 1 1 [.string (bs t)] rfl (cell_one_new _ _ _) (by simp [Value.oneCell']) (by unfold maxLen; omega) (by omega) (by have := hB.size; have := HB1.size; simp; omega)
                obtain ⟨g2, cap2, rfl⟩ := ownsRow_succ own2
                obtain ⟨k1, k2, k3, k4, k5, k6, k7⟩ := appended_all hv hown h1 h2 hB.size (Nat.le_refl _) HB1 own2 hgrow
                have hc3 := k1.cell
                have hf3 := k1.frozen
                refine step_append rfl _ _ _ rfl _ _ _ rfl rfl hrun ?_
                simp only [Act.put, List.setIfInBounds_toArray]
                refine hK _ _ ?_
                clear hK K
                refine wpAnyIn_ready (rs := [5]) (by kernel_rfl) (by simp) ?_
                refine AllReadyIn.cons rfl (fun K hK => ?_) ?_
                · skip
                  go_simp
                  generalize w2.setCell ⟨w.heap.size, 0, none⟩ (.slice (some ⟨g2, 0, none⟩) (L.length + 1) cap2) = w3 at k2 k3 k4 k5 k6 k7 ⊢
                  have hc31 := k4.cell
                  have hf31 := k4.frozen
                  refine hK _ _ ?_
                  clear hK K
                  refine wpAnyIn_done (by kernel_rfl) ?_ _
                  gi_wp2
                  exact body_ok hL hB k2 k3 k4 k5 k6 k7
                exact AllReadyIn.nil
              exact AllReadyIn.nil
            exact AllReadyIn.nil
          exact AllReadyIn.nil
        exact AllReadyIn.nil
      exact AllReadyIn.nil
    · have hne : (((e : Nat) : Int) != 0) = true := by simpa using he
      gi_wp2
      gi_region
      all_goals gi_wp2
      all_goals exact left_ok hL he hB hv hown h1 h2
  case done =>
    rintro D xs W hD hxs ⟨⟨L, hL⟩, hrow, h1, h2, hB⟩ hK
    rw [hL, tell_done] at hrow h1
    dsimp only at hrow h1
    obtain ⟨v, hv, hown, _⟩ := hrow
    obtain ⟨A, c, rfl⟩ := row_shape hown
    have hc0 := hv.cell
    have hf0 := hv.frozen
    have hc1 := h1.cell
    have hf1 := h1.frozen
    have hc2 := h2.cell
    have hf2 := h2.frozen
    have hsc : scan b.data.toList = (L, size L, 0) := by rw [scan, ← hxs, hL, tell_done]
    gi_wp2
    gi_region
    gi_wp2
    rw [hsc]
    have n01 := box_ne hv h1 (by decide)
    have n02 := box_ne hv h2 (by decide)
    have n12 := box_ne h1 h2 (by decide)
    have a0 := hv.set (.slice A L.length c)
    have a1 := h1.other n01.symm (.slice A L.length c)
    have a2 := h2.other n02.symm (.slice A L.length c)
    have ao := own_set hv (by decide) hown (.slice A L.length c)
    have b0 := a0.other n01 (.int .i64 ((size L : Nat) : Int))
    have b1 := a1.set (.int .i64 ((size L : Nat) : Int))
    have b2 := a2.other n12.symm (.int .i64 ((size L : Nat) : Int))
    have bo := own_set a1 (by decide) ao (.int .i64 ((size L : Nat) : Int))
    have c0 := b0.other n02 (.int .i64 0)
    have c1 := b1.other n12 (.int .i64 0)
    have c2 := b2.set (.int .i64 0)
    have co := own_set b2 (by decide) bo (.int .i64 0)
    have hKs := (((KeepsOthers.setCell W ⟨w.heap.size, 0, none⟩ (.slice A L.length c)).trans (KeepsOthers.setCell _ ⟨w.heap.size + 1, 0, none⟩ (.int .i64 ((size L : Nat) : Int)))).trans (KeepsOthers.setCell _ ⟨w.heap.size + 1 + 1, 0, none⟩ (.int .i64 0))).same D _ hK rfl
    have hB2 := ((hB.setCell (p := ⟨w.heap.size, 0, none⟩) (Nat.le_refl _) (.slice A L.length c)).setCell (p := ⟨w.heap.size + 1, 0, none⟩) (by simp) (.int .i64 ((size L : Nat) : Int))).setCell (p := ⟨w.heap.size + 1 + 1, 0, none⟩) (by show _ ≤ w.heap.size + 1 + 1; omega) (.int .i64 0)
    exact told_end (D := D) c0 co c1 c2 hB2.drew hKs (by omega) rfl rfl rfl
  case stop =>
    rintro D c pre W hD hpre ⟨⟨rfl, L, t, e, hL, he⟩, hrow, h1, h2, hB⟩ hK
    rw [hL, tell_why L t e he []] at hrow h1 h2
    dsimp only at hrow h1 h2
    obtain ⟨v, hv, hown, _⟩ := hrow
    obtain ⟨A, c, rfl⟩ := row_shape hown
    have hsc : scan b.data.toList = (L, size L, e) := by
      obtain ⟨r, hr⟩ := hpre
      rw [scan, ← hr, hL, List.append_assoc]
      exact tell_why L t e he r
    have hc0 := hv.cell
    have hc1 := h1.cell
    have hc2 := h2.cell
    gi_wp2
    rw [hsc]
    exact told_end (D := D) hv hown h1 h2 hB hK (by omega) rfl rfl rfl
theorem scan_any (b : ByteArray) (w : World) (hb : b.size ≤ 4294967296) :
    Calls Try.prog 21 #[.string b] w (Told w (scan b.data.toList)) := callsIn_wide.1 (scanIn b w hb)
end Go.Proofs.Ytbjemekkpmbhhaa.Fs7
