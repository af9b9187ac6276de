/- The contract of the document's with. -/
import Derived.Test.YtaoneiicoaiehaaGreatFw11
import Derived.WalkLawsBesides
namespace Go.Proofs.YtaoneiicoaiehaaGreat.Fy11
open Go Go.RowKit Go.Lib Go.Proofs.YtaoneiicoaiehaaGreat Go.Proofs.YtaoneiicoaiehaaGreat.Dh Go.Proofs.YtaoneiicoaiehaaGreat.Ol11 Go.Proofs.YtaoneiicoaiehaaGreat.Fr11 Go.Proofs.YtaoneiicoaiehaaGreat.Fq11 Go.Proofs.YtaoneiicoaiehaaGreat.Ck11 Go.Proofs.YtaoneiicoaiehaaGreat.Fz11 Go.Proofs.YtaoneiicoaiehaaGreat.Fw11
theorem wi_cons (f q : Fl) (d : Bool) (l : List Fl) : wi f d (q :: l) = (if d = false ∧ lt q.1 f.1 = false then [f] else []) ++ ((if q.1 = f.1 then [] else [q]) ++ wi f (d || !lt q.1 f.1) l) := rfl
/-- What is told so far, and what is left. -/
def Mid (R : List Fl) (f : Fl) (i : Nat) (d : Bool) (L : List Fl) : Prop := wi f false R = L ++ wi f d (R.drop i)
theorem Mid.start (R : List Fl) (f : Fl) : Mid R f 0 false [] := rfl
theorem Mid.next {R : List Fl} {f : Fl} {i : Nat} {d : Bool} {L : List Fl} (h : Mid R f i d L) (hi : i < R.length) :
    Mid R f (i + 1) (d || !lt R[i].1 f.1) (L ++ ((if d = false ∧ lt R[i].1 f.1 = false then [f] else []) ++ (if R[i].1 = f.1 then [] else [R[i]]))) := by
  unfold Mid at h ⊢
  rw [h, List.drop_eq_getElem_cons hi, wi_cons]
  simp only [List.append_assoc]
theorem Mid.stop {R : List Fl} {f : Fl} {d : Bool} {L : List Fl} (h : Mid R f R.length d L) : wi f false R = L ++ (if d then [] else [f]) := by
  unfold Mid at h
  rw [h, List.drop_length]; rfl

theorem rowF_base {n n' : Nat} {m : List Fl} {v : Value} {W : World} (h : RowF n' m v W) (hn : n ≤ n') : RowF n m v W := by
  refine ⟨h.1, ?_⟩
  rcases h.2 with h | ⟨g, cap, cur, rfl, h1, h3⟩
  · exact .inl h
  · exact .inr ⟨g, cap, cur, rfl, by omega, h3⟩
/-- What stands in a round. -/
structure Rnd (w : World) (A : Option Addr) (R : List Fl) (f : Fl) (L : List Fl) (v : Value) (W : World) : Prop where
  row : RowF (w.heap.size + 1) L v W
  bel : Below (w.heap.size + 1) (w.alloc (fileO f)) W
  rd : RdF W A R
  b0 : W.cell? ⟨w.heap.size, 0, none⟩ = some (.string f.1)
  b1 : W.cell? ⟨w.heap.size, 1, none⟩ = some (.string f.2)
theorem Rnd.size {w : World} {A : Option Addr} {R : List Fl} {f : Fl} {L : List Fl} {v : Value} {W : World} (h : Rnd w A R f L v W) : w.heap.size + 1 ≤ W.heap.size := by
  have := h.bel.size; rw [size_alloc] at this; exact this
theorem Rnd.mk' {w : World} {A : Option Addr} {R : List Fl} {f : Fl} {L : List Fl} {v : Value} {W : World} (hR : RdF w A R) (h1 : RowF (w.heap.size + 1) L v W) (h2 : Below (w.heap.size + 1) (w.alloc (fileO f)) W) : Rnd w A R f L v W := by
  have hk : ∀ j, W.cell? ⟨w.heap.size, j, none⟩ = (w.alloc (fileO f)).cell? ⟨w.heap.size, j, none⟩ := fun j => h2.cell (p := ⟨w.heap.size, j, none⟩) (Nat.lt_succ_self _)
  have hn := heap_new w (fileO f)
  have hb : Below w.heap.size w W := ((Below.refl _ _).alloc (Nat.le_refl _) (fileO f)).trans (h2.mono (Nat.le_succ _))
  exact ⟨h1, h2, hR.keep (Nat.le_refl _) hb, by rw [hk, cell_of hn]; rfl, by rw [hk, cell_of hn]; rfl⟩
theorem Rnd.drew {w : World} {A : Option Addr} {R : List Fl} {f : Fl} {L : List Fl} {v : Value} {W : World} (hR : RdF w A R) (h : Rnd w A R f L v W) (n : Nat) : Rnd w A R f L v (W.drewN n) :=
  Rnd.mk' hR (h.row.keep fun _ _ => rfl) (h.bel.trans ⟨rfl, rfl, rfl, Nat.le_refl _, fun _ _ => rfl⟩)
theorem rowF_alloc {n : Nat} {m : List Fl} {v : Value} {W : World} (h : RowF n m v W) (o : Obj) : RowF n m v (W.alloc o) := h.below ((Below.refl _ _).alloc (Nat.le_refl _) o)
theorem Rnd.app {w W w2 : World} {A : Option Addr} {R : List Fl} {f y : Fl} {L L2 : List Fl} {v v2 : Value} (hR : RdF w A R) (h : Rnd w A R f L v W) (hL : L2 = L ++ [y])
    (r1 : w2.ownsRow (w.heap.size + 1) 71 2 v2 (L.length + 1) (cellsF L ++ cells2 y)) (r2 : (W.alloc (fileO y)).grownBy w2 v.ownBlock) :
    ∃ A2 c2, v2 = .slice A2 L2.length c2 ∧ Rnd w A R f L2 (.slice A2 L2.length c2) w2 := by
  obtain ⟨A2, c2, e, o1, o2⟩ := app_ok h.row h.bel h.size r1 r2
  subst hL
  have e' : v2 = .slice A2 (L ++ [y]).length c2 := by rw [e, List.length_append]; rfl
  exact ⟨A2, c2, e', Rnd.mk' hR (e' ▸ o1) o2⟩
theorem at2 {w : World} {b o : Nat} {R : List Fl} (h : RdF w (some ⟨b, o, none⟩) R) {k : Nat} (hk : k < R.length) {q : Fl} (hq : q = R[k]) : w.cell? ⟨b, o + k * 2, none⟩ = some (.string q.1) ∧ w.cell? ⟨b, o + k * 2 + 1, none⟩ = some (.string q.2) := by
  obtain ⟨b', o', e, _, hc⟩ := h (fun h0 => by rw [h0] at hk; simp at hk)
  injection e with e
  injection e with e1 e2
  subst e1 e2 hq
  exact hc k hk
set_option maxHeartbeats 16000000 in
set_option maxRecDepth 100000 in
theorem with_any {w : World} {A : Option Addr} {c : Nat} {R : List Fl} (h : RdF w A R) (hl : R.length ≤ 1000000) (f : Fl) :
    Calls Tryz.prog 77 #[.slice A R.length c, .agg #[.string f.1, .string f.2]] w (Makes w (wi f false R)) := by
  obtain ⟨i0, hi, iz0, iz1, iz2⟩ := info_parts infoF
  obtain ⟨N, hN⟩ : ∃ N, N = R.length := ⟨_, rfl⟩
  rw [← hN] at hl ⊢
  have H := Lib.hid h
  have HN := Lib.hid hN
  clear h hN
  go_enter Tryz.func77, Tryz.ntmps77
  go_wp2_with fail
  go_loopg [5, 6, 7] (N + 1) (fun g1 v vd vi wr => ∃ (i : Nat) (d : Bool) (L : List Fl) (A1 : Option Addr) (c1 : Nat), v = .slice A1 L.length c1 ∧ vd = .bool d ∧ vi = .int .i64 (i : Int) ∧ i ≤ N ∧ N + 1 - i ≤ g1 ∧ L.length ≤ 2 * i ∧ Hid (Mid R f i d L) ∧ Hid (Rnd w A R f L (.slice A1 L.length c1) wr))
  case atStart => exact ⟨0, false, [], none, 0, rfl, rfl, rfl, by omega, by omega, Nat.zero_le _, Lib.hid (Mid.start R f), Lib.hid (Rnd.mk' H.out (row_nil _ _) (Below.refl _ _))⟩
  case round =>
    obtain ⟨i, d, L, A1, c1, rfl, rfl, rfl, hi1, hg1, hLi, HM, HS⟩ := hrel
    by_cases hil : i < N
    · have hilR : i < R.length := by rw [← HN.out]; exact hil
      obtain ⟨b, o, rfl, -, -, -⟩ := HS.out.rd.at_ hilR
      have hzi : (i : Int) < (N : Int) := by omega
      have HX0 := Lib.hid (HM.out.next hilR)
      obtain ⟨q, hq⟩ : ∃ q, q = R[i] := ⟨_, rfl⟩
      rw [← hq] at HX0
      have HQ := Lib.hid hq
      clear hq
      have hilR := Lib.hid hilR
      have HH := H
      obtain ⟨c0, c1'⟩ := at2 HS.out.rd hilR.out HQ.out
      have b0 := HS.out.b0
      have b1 := HS.out.b1
      cases d with
      | false =>
        cases hlt : lt q.1 f.1 with
        | true =>
          have he : q.1 ≠ f.1 := lt_ne hlt
          have hbl : Op.bytesLess q.1.toList f.1.toList = true := hlt
          have hbe : (q.1.toList == f.1.toList) = false := by exact beq_eq_false_iff_ne.2 fun h => he (bytes_ext h)
          obtain ⟨L3, hL3⟩ : ∃ L3, L3 = L ++ [q] := ⟨_, rfl⟩
          have HX : Hid (Mid R f (i + 1) false L3) := Lib.hid (by have h := HX0.out; rw [hlt] at h; rw [if_neg he] at h; simpa [hL3, List.append_assoc] using h)
          have HLB : Hid (L.length ≤ 2000000) := Lib.hid (by omega)
          have HLB2 : Hid (L3.length ≤ 2 * (i + 1)) := Lib.hid (by rw [hL3, List.length_append]; show L.length + 1 ≤ _; omega)
          have HL3 := Lib.hid hL3
          clear hL3 hlt he
          go_wp2
          go_quiet (fail)
          have HS1 := Lib.hid (HS.out.drew HH.out nq)
          clear c0 c1' b0 b1 HS
          generalize wr.drewN nq = W1 at HS1 ⊢
          obtain ⟨c0, c1'⟩ := at2 HS1.out.rd hilR.out HQ.out
          have b0 := HS1.out.b0
          have b1 := HS1.out.b1
          go_wp2
          go_quiet (fail)
          have HS3 := Lib.hid (HS1.out.drew HH.out nq)
          clear c0 c1' b0 b1 HS1
          generalize W1.drewN nq = W3 at HS3 ⊢
          obtain ⟨c0, c1'⟩ := at2 HS3.out.rd hilR.out HQ.out
          have b0 := HS3.out.b0
          have b1 := HS3.out.b1
          have HO := Lib.hid (rowF_alloc HS3.out.row (fileO q))
          have HN2 := Lib.hid (news2 W3 q)
          have H63 : Hid (L.length + 1 ≤ maxLen) := Lib.hid (by unfold maxLen; have := HLB.out; omega)
          have HBY : Hid ((L.length + 1) * 32 ≤ 140737488355328) := Lib.hid (by have := HLB.out; omega)
          have HBS : Hid (w.heap.size + 1 ≤ (W3.alloc (fileO q)).heap.size) := Lib.hid (by rw [size_alloc]; have := HS3.out.size; omega)
          go_wp2_with (at_builtin; refine wpList_append_own_at _ rfl _ _ 40 rfl (w.heap.size + 1) 71 i0 _ 2 32 Tryz.underlying40 hi iz0 iz1 iz2 rfl (by decide) _ _ _ rfl HO.out ⟨W3.heap.size, 0, none⟩ 1 1 (cells2 q) rfl rfl HN2.out (one2 q) H63.out HBY.out HBS.out ?_; intro v3 W4 r1 r2 _ _; obtain ⟨A2, c2, rfl, o1⟩ := Rnd.app HH.out HS3.out HL3.out r1 r2; have HS4 := Lib.hid o1; clear r1 r2 o1 HO HN2 H63 HBY HBS c0 c1' b0 b1; skip)
          go_roundg (N - i)
          case measure => omega
          case rel => exact ⟨i + 1, false, L3, _, _, rfl, rfl, by go_num, by omega, by omega, by have := HLB2.out; omega, HX, HS4⟩
        | false =>
          by_cases he : q.1 = f.1
          · skip
            have hbl : Op.bytesLess q.1.toList f.1.toList = false := hlt
            have hbe : (q.1.toList == f.1.toList) = true := by rw [he]; simp
            obtain ⟨L2, hL2⟩ : ∃ L2, L2 = L ++ [f] := ⟨_, rfl⟩
            have HX : Hid (Mid R f (i + 1) true L2) := Lib.hid (by have h := HX0.out; rw [hlt] at h; rw [if_pos he] at h; simpa [hL2, List.append_assoc] using h)
            have HLB : Hid (L.length ≤ 2000000 ∧ L2.length = L.length + 1) := Lib.hid (by rw [hL2, List.length_append]; exact ⟨by omega, rfl⟩)
            have HLB2 : Hid (L2.length ≤ 2 * (i + 1)) := Lib.hid (by rw [hL2, List.length_append]; show L.length + 1 ≤ _; omega)
            have HL2 := Lib.hid hL2
            clear hL2 hlt he
            go_wp2
            go_quiet (fail)
            have HS1 := Lib.hid (HS.out.drew HH.out nq)
            clear c0 c1' b0 b1 HS
            generalize wr.drewN nq = W1 at HS1 ⊢
            obtain ⟨c0, c1'⟩ := at2 HS1.out.rd hilR.out HQ.out
            have b0 := HS1.out.b0
            have b1 := HS1.out.b1
            have HO := Lib.hid (rowF_alloc HS1.out.row (fileO f))
            have HN2 := Lib.hid (news2 W1 f)
            have H63 : Hid (L.length + 1 ≤ maxLen) := Lib.hid (by unfold maxLen; have := HLB.out; omega)
            have HBY : Hid ((L.length + 1) * 32 ≤ 140737488355328) := Lib.hid (by have := HLB.out; omega)
            have HBS : Hid (w.heap.size + 1 ≤ (W1.alloc (fileO f)).heap.size) := Lib.hid (by rw [size_alloc]; have := HS1.out.size; omega)
            go_wp2_with (at_builtin; refine wpList_append_own_at _ rfl _ _ 40 rfl (w.heap.size + 1) 71 i0 _ 2 32 Tryz.underlying40 hi iz0 iz1 iz2 rfl (by decide) _ _ _ rfl HO.out ⟨W1.heap.size, 0, none⟩ 1 1 (cells2 f) rfl rfl HN2.out (one2 f) H63.out HBY.out HBS.out ?_; intro v3 W2 r1 r2 _ _; obtain ⟨A2, c2, rfl, o1⟩ := Rnd.app HH.out HS1.out HL2.out r1 r2; have HS2 := Lib.hid o1; clear r1 r2 o1 HO HN2 H63 HBY HBS c0 c1' b0 b1; obtain ⟨c0, c1'⟩ := at2 HS2.out.rd hilR.out HQ.out; have b0 := HS2.out.b0; have b1 := HS2.out.b1)
            go_wp2
            go_quiet (fail)
            have HS3 := Lib.hid (HS2.out.drew HH.out nq)
            clear c0 c1' b0 b1 HS2
            generalize W2.drewN nq = W3 at HS3 ⊢
            obtain ⟨c0, c1'⟩ := at2 HS3.out.rd hilR.out HQ.out
            have b0 := HS3.out.b0
            have b1 := HS3.out.b1
            go_wp2
            go_roundg (N - i)
            case measure => omega
            case rel => exact ⟨i + 1, true, L2, A2, c2, rfl, rfl, by go_num, by omega, by omega, by have := HLB2.out; omega, HX, HS3⟩
          · skip
            have hbl : Op.bytesLess q.1.toList f.1.toList = false := hlt
            have hbe : (q.1.toList == f.1.toList) = false := by exact beq_eq_false_iff_ne.2 fun h => he (bytes_ext h)
            obtain ⟨L2, hL2⟩ : ∃ L2, L2 = L ++ [f] := ⟨_, rfl⟩
            obtain ⟨L3, hL3⟩ : ∃ L3, L3 = L2 ++ [q] := ⟨_, rfl⟩
            have HX : Hid (Mid R f (i + 1) true L3) := Lib.hid (by have h := HX0.out; rw [hlt] at h; rw [if_neg he] at h; simpa [hL3, hL2, List.append_assoc] using h)
            have HLB : Hid (L.length ≤ 2000000 ∧ L2.length = L.length + 1) := Lib.hid (by rw [hL2, List.length_append]; exact ⟨by omega, rfl⟩)
            have HLB2 : Hid (L3.length ≤ 2 * (i + 1)) := Lib.hid (by rw [hL3, List.length_append]; rw [hL2, List.length_append]; show L.length + 1 + 1 ≤ _; omega)
            have HL2 := Lib.hid hL2
            have HL3 := Lib.hid hL3
            clear hL2 hL3 hlt he
            go_wp2
            go_quiet (fail)
            have HS1 := Lib.hid (HS.out.drew HH.out nq)
            clear c0 c1' b0 b1 HS
            generalize wr.drewN nq = W1 at HS1 ⊢
            obtain ⟨c0, c1'⟩ := at2 HS1.out.rd hilR.out HQ.out
            have b0 := HS1.out.b0
            have b1 := HS1.out.b1
            have HO := Lib.hid (rowF_alloc HS1.out.row (fileO f))
            have HN2 := Lib.hid (news2 W1 f)
            have H63 : Hid (L.length + 1 ≤ maxLen) := Lib.hid (by unfold maxLen; have := HLB.out; omega)
            have HBY : Hid ((L.length + 1) * 32 ≤ 140737488355328) := Lib.hid (by have := HLB.out; omega)
            have HBS : Hid (w.heap.size + 1 ≤ (W1.alloc (fileO f)).heap.size) := Lib.hid (by rw [size_alloc]; have := HS1.out.size; omega)
            go_wp2_with (at_builtin; refine wpList_append_own_at _ rfl _ _ 40 rfl (w.heap.size + 1) 71 i0 _ 2 32 Tryz.underlying40 hi iz0 iz1 iz2 rfl (by decide) _ _ _ rfl HO.out ⟨W1.heap.size, 0, none⟩ 1 1 (cells2 f) rfl rfl HN2.out (one2 f) H63.out HBY.out HBS.out ?_; intro v3 W2 r1 r2 _ _; obtain ⟨A2, c2, rfl, o1⟩ := Rnd.app HH.out HS1.out HL2.out r1 r2; have HS2 := Lib.hid o1; clear r1 r2 o1 HO HN2 H63 HBY HBS c0 c1' b0 b1; obtain ⟨c0, c1'⟩ := at2 HS2.out.rd hilR.out HQ.out; have b0 := HS2.out.b0; have b1 := HS2.out.b1)
            go_wp2
            go_quiet (fail)
            have HS3 := Lib.hid (HS2.out.drew HH.out nq)
            clear c0 c1' b0 b1 HS2
            generalize W2.drewN nq = W3 at HS3 ⊢
            obtain ⟨c0, c1'⟩ := at2 HS3.out.rd hilR.out HQ.out
            have b0 := HS3.out.b0
            have b1 := HS3.out.b1
            have HO := Lib.hid (rowF_alloc HS3.out.row (fileO q))
            have HN2 := Lib.hid (news2 W3 q)
            have H63 : Hid (L2.length + 1 ≤ maxLen) := Lib.hid (by unfold maxLen; have := HLB.out; omega)
            have HBY : Hid ((L2.length + 1) * 32 ≤ 140737488355328) := Lib.hid (by have := HLB.out; omega)
            have HBS : Hid (w.heap.size + 1 ≤ (W3.alloc (fileO q)).heap.size) := Lib.hid (by rw [size_alloc]; have := HS3.out.size; omega)
            go_wp2_with (at_builtin; refine wpList_append_own_at _ rfl _ _ 40 rfl (w.heap.size + 1) 71 i0 _ 2 32 Tryz.underlying40 hi iz0 iz1 iz2 rfl (by decide) _ _ _ rfl HO.out ⟨W3.heap.size, 0, none⟩ 1 1 (cells2 q) rfl rfl HN2.out (one2 q) H63.out HBY.out HBS.out ?_; intro v3 W4 r1 r2 _ _; obtain ⟨A2, c2, rfl, o1⟩ := Rnd.app HH.out HS3.out HL3.out r1 r2; have HS4 := Lib.hid o1; clear r1 r2 o1 HO HN2 H63 HBY HBS c0 c1' b0 b1; skip)
            go_roundg (N - i)
            case measure => omega
            case rel => exact ⟨i + 1, true, L3, _, _, rfl, rfl, by go_num, by omega, by omega, by have := HLB2.out; omega, HX, HS4⟩
      | true =>
        by_cases he : q.1 = f.1
        · skip
          have hbe : (q.1.toList == f.1.toList) = true := by rw [he]; simp
          have HX : Hid (Mid R f (i + 1) true L) := Lib.hid (by have h := HX0.out; rw [if_pos he] at h; simpa [List.append_assoc] using h)
          have HLB : Hid (L.length ≤ 2000000) := Lib.hid (by omega)
          have HLB2 : Hid (L.length ≤ 2 * (i + 1)) := Lib.hid (by omega)
          clear he
          go_wp2
          go_quiet (fail)
          have HS1 := Lib.hid (HS.out.drew HH.out nq)
          clear c0 c1' b0 b1 HS
          generalize wr.drewN nq = W1 at HS1 ⊢
          obtain ⟨c0, c1'⟩ := at2 HS1.out.rd hilR.out HQ.out
          have b0 := HS1.out.b0
          have b1 := HS1.out.b1
          go_wp2
          go_quiet (fail)
          have HS3 := Lib.hid (HS1.out.drew HH.out nq)
          clear c0 c1' b0 b1 HS1
          generalize W1.drewN nq = W3 at HS3 ⊢
          obtain ⟨c0, c1'⟩ := at2 HS3.out.rd hilR.out HQ.out
          have b0 := HS3.out.b0
          have b1 := HS3.out.b1
          go_wp2
          go_roundg (N - i)
          case measure => omega
          case rel => exact ⟨i + 1, true, L, A1, c1, rfl, rfl, by go_num, by omega, by omega, by have := HLB2.out; omega, HX, HS3⟩
        · skip
          have hbe : (q.1.toList == f.1.toList) = false := by exact beq_eq_false_iff_ne.2 fun h => he (bytes_ext h)
          obtain ⟨L3, hL3⟩ : ∃ L3, L3 = L ++ [q] := ⟨_, rfl⟩
          have HX : Hid (Mid R f (i + 1) true L3) := Lib.hid (by have h := HX0.out; rw [if_neg he] at h; simpa [hL3, List.append_assoc] using h)
          have HLB : Hid (L.length ≤ 2000000) := Lib.hid (by omega)
          have HLB2 : Hid (L3.length ≤ 2 * (i + 1)) := Lib.hid (by rw [hL3, List.length_append]; show L.length + 1 ≤ _; omega)
          have HL3 := Lib.hid hL3
          clear hL3 he
          go_wp2
          go_quiet (fail)
          have HS1 := Lib.hid (HS.out.drew HH.out nq)
          clear c0 c1' b0 b1 HS
          generalize wr.drewN nq = W1 at HS1 ⊢
          obtain ⟨c0, c1'⟩ := at2 HS1.out.rd hilR.out HQ.out
          have b0 := HS1.out.b0
          have b1 := HS1.out.b1
          go_wp2
          go_quiet (fail)
          have HS3 := Lib.hid (HS1.out.drew HH.out nq)
          clear c0 c1' b0 b1 HS1
          generalize W1.drewN nq = W3 at HS3 ⊢
          obtain ⟨c0, c1'⟩ := at2 HS3.out.rd hilR.out HQ.out
          have b0 := HS3.out.b0
          have b1 := HS3.out.b1
          have HO := Lib.hid (rowF_alloc HS3.out.row (fileO q))
          have HN2 := Lib.hid (news2 W3 q)
          have H63 : Hid (L.length + 1 ≤ maxLen) := Lib.hid (by unfold maxLen; have := HLB.out; omega)
          have HBY : Hid ((L.length + 1) * 32 ≤ 140737488355328) := Lib.hid (by have := HLB.out; omega)
          have HBS : Hid (w.heap.size + 1 ≤ (W3.alloc (fileO q)).heap.size) := Lib.hid (by rw [size_alloc]; have := HS3.out.size; omega)
          go_wp2_with (at_builtin; refine wpList_append_own_at _ rfl _ _ 40 rfl (w.heap.size + 1) 71 i0 _ 2 32 Tryz.underlying40 hi iz0 iz1 iz2 rfl (by decide) _ _ _ rfl HO.out ⟨W3.heap.size, 0, none⟩ 1 1 (cells2 q) rfl rfl HN2.out (one2 q) H63.out HBY.out HBS.out ?_; intro v3 W4 r1 r2 _ _; obtain ⟨A2, c2, rfl, o1⟩ := Rnd.app HH.out HS3.out HL3.out r1 r2; have HS4 := Lib.hid o1; clear r1 r2 o1 HO HN2 H63 HBY HBS c0 c1' b0 b1; skip)
          go_roundg (N - i)
          case measure => omega
          case rel => exact ⟨i + 1, true, L3, _, _, rfl, rfl, by go_num, by omega, by omega, by have := HLB2.out; omega, HX, HS4⟩
    · obtain rfl : i = N := by omega
      have hstop : wi f false R = L ++ (if d then [] else [f]) := Mid.stop (by have h := HM.out; rw [HN.out] at h; exact h)
      have hsz : w.heap.size ≤ w.heap.size + 1 := Nat.le_succ _
      have HB : Hid (∀ W, Below (w.heap.size + 1) (w.alloc (fileO f)) W → Below w.heap.size w W) := Lib.hid fun W h => ((Below.refl _ _).alloc (Nat.le_refl _) (fileO f)).trans (h.mono (Nat.le_succ _))
      cases d with
      | true =>
        have HW : Hid (wi f false R = L) := Lib.hid (by rw [hstop]; simp)
        clear hstop hsz
        go_wp2
        go_ret
        rw [HW.out]
        exact ⟨A1, c1, rfl, rowF_base HS.out.row (Nat.le_succ _), HB.out _ HS.out.bel⟩
      | false =>
        obtain ⟨L2, hL2⟩ : ∃ L2, L2 = L ++ [f] := ⟨_, rfl⟩
        have HW : Hid (wi f false R = L2) := Lib.hid (by rw [hstop, hL2]; simp)
        have HL2 := Lib.hid hL2
        have HH := H
        have b0 := HS.out.b0
        have b1 := HS.out.b1
        have HO := Lib.hid (rowF_alloc HS.out.row (fileO f))
        have HN2 := Lib.hid (news2 wr f)
        have H63 : Hid (L.length + 1 ≤ maxLen) := Lib.hid (by unfold maxLen; omega)
        have HBY : Hid ((L.length + 1) * 32 ≤ 140737488355328) := Lib.hid (by omega)
        have HBS : Hid (w.heap.size + 1 ≤ (wr.alloc (fileO f)).heap.size) := Lib.hid (by rw [size_alloc]; have := HS.out.size; omega)
        clear hstop hsz hL2
        go_wp2_with (at_builtin; refine wpList_append_own_at _ rfl _ _ 40 rfl (w.heap.size + 1) 71 i0 _ 2 32 Tryz.underlying40 hi iz0 iz1 iz2 rfl (by decide) _ _ _ rfl HO.out ⟨wr.heap.size, 0, none⟩ 1 1 (cells2 f) rfl rfl HN2.out (one2 f) H63.out HBY.out HBS.out ?_; intro v3 W2 r1 r2 _ _; obtain ⟨A2, c2, rfl, o1⟩ := Rnd.app HH.out HS.out HL2.out r1 r2; have HS2 := Lib.hid o1; clear r1 r2 o1 HO HN2 H63 HBY HBS b0 b1)
        go_ret
        rw [HW.out]
        exact ⟨A2, c2, rfl, rowF_base HS2.out.row (Nat.le_succ _), HB.out _ HS2.out.bel⟩
end Go.Proofs.YtaoneiicoaiehaaGreat.Fy11
