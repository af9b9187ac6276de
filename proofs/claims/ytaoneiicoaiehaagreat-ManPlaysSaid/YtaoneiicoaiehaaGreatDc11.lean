/- The contract of the document's may. -/
import Derived.Test.YtaoneiicoaiehaaGreatDb11
import Derived.Deep.QuietTactic
import Derived.BigQuiet
import Derived.IntWalk
import Derived.StillTailTactics
namespace Go.Proofs.YtaoneiicoaiehaaGreat.Dc11
open Go Go.RowKit Go.Lib Go.Proofs.YtaoneiicoaiehaaGreat Go.Proofs.YtaoneiicoaiehaaGreat.Dh Go.Proofs.YtaoneiicoaiehaaGreat.Dk Go.Proofs.YtaoneiicoaiehaaGreat.Fm Go.Proofs.YtaoneiicoaiehaaGreat.Nm Go.Proofs.YtaoneiicoaiehaaGreat.St Go.Proofs.YtaoneiicoaiehaaGreat.Sy Go.Proofs.YtaoneiicoaiehaaGreat.Ol11 Go.Proofs.YtaoneiicoaiehaaGreat.Fr11 Go.Proofs.YtaoneiicoaiehaaGreat.Fq11 Go.Proofs.YtaoneiicoaiehaaGreat.Ck11 Go.Proofs.YtaoneiicoaiehaaGreat.Fz11 Go.Proofs.YtaoneiicoaiehaaGreat.Fw11 Go.Proofs.YtaoneiicoaiehaaGreat.Ap11 Go.Proofs.YtaoneiicoaiehaaGreat.Kp11 Go.Proofs.YtaoneiicoaiehaaGreat.Sv11 Go.Proofs.YtaoneiicoaiehaaGreat.Da11 Go.Proofs.YtaoneiicoaiehaaGreat.Db11
/-- What the document's disk reads as in a world. -/
structure Now (V : World) (q : Nat) (D : St) (A : Option Addr) (R : List Fl) (c : Nat) : Prop where
  c0 : V.cell? ⟨q, 0, none⟩ = some (.slice A R.length c)
  c3 : V.cell? ⟨q, 3, none⟩ = some (.int .i64 D.room)
  c4 : V.cell? ⟨q, 4, none⟩ = some (.int .i64 D.fuse)
  c5 : V.cell? ⟨q, 5, none⟩ = some (.bool D.still)
  rd : RdF V A R
  ref : ∃ Q, RefAt V Q q D
theorem now_of {w : World} {Q : Nat → Prop} {q : Nat} {D : St} (h : RefAt w Q q D) : ∃ A R c, RF D.now R ∧ R.length ≤ 2 ∧ ∀ V, Below w.heap.size w V → Now V q D A R c := by
  have h0 := h
  obtain ⟨R, R', A, A', c, c', v, h⟩ := h
  refine ⟨A, R, c, h.rnow, Da11.RF.len h.rnow h.fit.now, fun V hb => ?_⟩
  have hblk := (hb.block _ (lt_of_at h.blk.2)).trans h.blk.2
  exact ⟨by rw [cell_of hblk]; rfl, by rw [cell_of hblk]; rfl, by rw [cell_of hblk]; rfl, by rw [cell_of hblk]; rfl, h.now.rd.keep (Nat.le_refl _) hb, Q, h0.below hb⟩
theorem RdF.drew {w : World} {A : Option Addr} {R : List Fl} (h : RdF w A R) : RdF w.drew A R := h
theorem found_is (R : List Fl) (k : ByteArray) : ∃ J : Nat, foundV R k = .tuple #[.int .i64 (J : Int), .bool (Fr11.look k R).isSome] := ⟨_, rfl⟩
theorem quiet_add_same {P : Program} {f : FuncId} {args : Array Value} {w : World} {a n : Nat} {v : Value}
    (h : Calls P f args (w.drewN (a + n)) fun e w' => e = .returned v ∧ w' = w.drewN (a + n)) :
    Calls P f args (w.drewN (a + n)) fun e w'' => e = .returned v ∧ ∃ m, w'' = w.drewN (a + m) :=
  h.mono fun _ _ ⟨he, hm⟩ => ⟨he, n, hm⟩
/-- What may answers. -/
def May (w : World) (k : Int) (e : Ending) (w' : World) : Prop := e = .returned (.int .i64 k) ∧ Below w.heap.size w w'
set_option maxRecDepth 100000 in
set_option maxHeartbeats 4000000 in
theorem may_still {w : World} {Q : Nat → Prop} {q : Nat} {D : St} (h : RefAt w Q q D) (c : Cmd) (hst : D.still = true) :
    Calls Tryz.prog 53 #[.pointer (some ⟨q, 0, none⟩), callV c] w (May w 20) := by
  obtain ⟨A, R, cp, hrf, hl, hn⟩ := now_of h
  have hb0 : Below w.heap.size w (w.alloc (callO c)) := (Below.refl _ _).alloc (Nat.le_refl _) _
  have c5 := (hn _ hb0).c5
  rw [hst] at c5
  have HB := Lib.hid hb0
  unfold callO at c5 HB
  unfold callV
  clear h hn hb0 hst
  go_enter Tryz.func53, Tryz.ntmps53
  go_wp2
  go_ret
  exact ⟨rfl, HB.out⟩
set_option maxRecDepth 100000 in
set_option maxHeartbeats 8000000 in
theorem may_app {w : World} {Q : Nat → Prop} {q : Nat} {D : St} (h : RefAt w Q q D) (k s : ByteArray) (hk : Nm2 k) (hs : s.size ≤ 1099511627776) (hst : D.still = false) :
    Calls Tryz.prog 53 #[.pointer (some ⟨q, 0, none⟩), callV (.app k s)] w (May w (mayS D (.app k s))) := by
  obtain ⟨A, R, cp, hrf, hl, hn⟩ := now_of h
  have hgood : St.Good D := by obtain ⟨_, _, _, _, _, _, _, h⟩ := h; exact h.good
  have hb0 : Below w.heap.size w (w.alloc (callO (.app k s))) := (Below.refl _ _).alloc (Nat.le_refl _) _
  have HN := Lib.hid (hn _ hb0)
  have hbx := heap_new w (callO (.app k s))
  have HNM : Hid (∀ x V, Nm2 x → Calls Tryz.prog 72 #[.string x] V fun e w' => e = .returned (.bool true) ∧ w' = V) := Lib.hid fun x V hx => name_any hx.ok V
  have c5 := HN.out.c5
  rw [hst] at c5
  have c0 := HN.out.c0
  have c3 := HN.out.c3
  have b0 : (w.alloc (callO (.app k s))).cell? ⟨w.heap.size, 0, none⟩ = some (.int .i64 (cOp (.app k s))) := by rw [cell_of hbx]; rfl
  have b1 : (w.alloc (callO (.app k s))).cell? ⟨w.heap.size, 1, none⟩ = some (.string (cNm (.app k s))) := by rw [cell_of hbx]; rfl
  have b2 : (w.alloc (callO (.app k s))).cell? ⟨w.heap.size, 2, none⟩ = some (.string (cTx (.app k s))) := by rw [cell_of hbx]; rfl
  have b3 : (w.alloc (callO (.app k s))).cell? ⟨w.heap.size, 3, none⟩ = some (.int .i64 0) := by rw [cell_of hbx]; rfl
  have HB := Lib.hid hb0
  have HU : Hid (∀ n, Calls Tryz.prog 10 #[.pointer (some ⟨q, 0, none⟩)] ((w.alloc (callO (.app k s))).drewN n) fun e w' => e = .returned (.int .i64 (used D.now)) ∧ w' = ((w.alloc (callO (.app k s))).drewN n)) :=
    Lib.hid fun n => Db11.used_any (Q := Q) ((h.below hb0).move (Nat.le_refl _) (fun _ _ _ => rfl) (fun _ x => x))
  obtain ⟨J, hJ⟩ := found_is R (cNm (.app k s))
  have HF : Hid (∀ n, Calls Tryz.prog 73 #[.slice A R.length cp, .string (cNm (.app k s))] ((w.alloc (callO (.app k s))).drewN n) fun e w' => e = .returned (.tuple #[.int .i64 (J : Int), .bool (Fr11.look (cNm (.app k s)) R).isSome]) ∧ w' = ((w.alloc (callO (.app k s))).drewN n)) :=
    Lib.hid fun n => by
      rw [← hJ]
      exact find_val (show RdF ((w.alloc (callO (.app k s))).drewN n) A R from HN.out.rd) (by omega) (cNm (.app k s))
  have hlook : (Fr11.look (cNm (.app k s)) R).isSome = (Fm.get D.now (cNm (.app k s))).isSome := by rw [hrf.look]; cases Fm.get D.now (cNm (.app k s)) <;> rfl
  rw [hlook] at HF
  have hBel : Hid (∀ n, Below w.heap.size w ((w.alloc (callO (.app k s))).drewN n)) := Lib.hid fun n => hb0.trans ⟨rfl, rfl, rfl, Nat.le_refl _, fun _ _ => rfl⟩
  unfold mayS
  rw [hst, if_neg (by decide)]
  simp only [callO, cOp, cNm, cTx] at c5 c0 c3 b0 b1 b2 b3 HB HN HF HU hBel ⊢
  unfold callV
  simp only [cOp, cNm, cTx]
  clear h hn hb0 hbx hJ hlook
  have hu := hgood.now
  obtain ⟨U, hU⟩ : ∃ U, U = used D.now := ⟨_, rfl⟩
  rw [← hU] at hu HU ⊢
  clear hU
  generalize D.room = room at c3 ⊢
  generalize (Fm.get D.now k).isSome = B at HF
  by_cases h0 : s.size = 0
  · have hse : s = ⟨#[]⟩ := by
      have h1 : s.data = #[] := Array.eq_empty_of_size_eq_zero h0
      cases s; rw [← h1]
    have HR : Hid (May w (if s.size ≠ 0 ∧ room < (U : Int) + (s.size : Int) then 4 else 0) = May w 0) := Lib.hid (by rw [if_neg (fun h => h.1 h0)])
    rw [HR.out]
    subst hse
    clear h0 HR
    cases B
    all_goals
      go_enter Tryz.func53, Tryz.ntmps53
      go_wp2_with (go_at_call 72; refine (HNM.out _ _ hk).mono ?_; rintro e w1 ⟨rfl, rfl⟩)
      go_quiet ((go_at_call 73; exact Calls.quiet_of_same (HF.out _)))
      go_wp2
      go_quiet (fail)
      go_wp2
      go_quiet (fail)
      go_wp2
      go_ret
      exact ⟨rfl, (hBel.out 0).trans ⟨rfl, rfl, rfl, Nat.le_refl _, fun _ _ => rfl⟩⟩
  · have hse : s.toList.isEmpty = false := by
      cases hl : s.toList.isEmpty with
      | false => rfl
      | true =>
        have h1 := List.isEmpty_iff.1 hl
        rw [ByteArray.toList_eq] at h1
        exact absurd (by have := congrArg List.length h1; simpa using this : s.size = 0) h0
    have hsum : IntKind.i64.wrap ((U : Int) + (s.size : Int)) = (U : Int) + (s.size : Int) := IntWalk.i64_in _ (by omega)
    by_cases hf : room < (U : Int) + (s.size : Int)
    · have HR : Hid (May w (if s.size ≠ 0 ∧ room < (U : Int) + (s.size : Int) then 4 else 0) = May w 4) := Lib.hid (by rw [if_pos ⟨h0, hf⟩])
      rw [HR.out]
      have hd : decide (room < (U : Int) + (s.size : Int)) = true := decide_eq_true hf
      clear h0 HR hf
      cases B
      all_goals
        go_enter Tryz.func53, Tryz.ntmps53
        go_wp2_with (go_at_call 72; refine (HNM.out _ _ hk).mono ?_; rintro e w1 ⟨rfl, rfl⟩)
        go_quiet ((go_at_call 73; exact Calls.quiet_of_same (HF.out _)))
        go_wp2
        go_quiet (fail)
        go_wp2
        go_quiet ((go_at_call 10; exact quiet_add_same (HU.out _)))
        go_wp2
        go_ret
        exact ⟨rfl, (hBel.out 0).trans ⟨rfl, rfl, rfl, Nat.le_refl _, fun _ _ => rfl⟩⟩
    · have HR : Hid (May w (if s.size ≠ 0 ∧ room < (U : Int) + (s.size : Int) then 4 else 0) = May w 0) := Lib.hid (by rw [if_neg (fun h => hf h.2)])
      rw [HR.out]
      have hd : decide (room < (U : Int) + (s.size : Int)) = false := decide_eq_false hf
      clear h0 HR hf
      cases B
      all_goals
        go_enter Tryz.func53, Tryz.ntmps53
        go_wp2_with (go_at_call 72; refine (HNM.out _ _ hk).mono ?_; rintro e w1 ⟨rfl, rfl⟩)
        go_quiet ((go_at_call 73; exact Calls.quiet_of_same (HF.out _)))
        go_wp2
        go_quiet (fail)
        go_wp2
        go_quiet ((go_at_call 10; exact quiet_add_same (HU.out _)))
        go_wp2
        go_ret
        exact ⟨rfl, (hBel.out 0).trans ⟨rfl, rfl, rfl, Nat.le_refl _, fun _ _ => rfl⟩⟩
set_option maxRecDepth 100000 in
set_option maxHeartbeats 8000000 in
theorem may_rem {w : World} {Q : Nat → Prop} {q : Nat} {D : St} (h : RefAt w Q q D) (k : ByteArray) (hk : Nm2 k) (hst : D.still = false) :
    Calls Tryz.prog 53 #[.pointer (some ⟨q, 0, none⟩), callV (.rem k)] w (May w (mayS D (.rem k))) := by
  obtain ⟨A, R, cp, hrf, hl, hn⟩ := now_of h
  have hgood : St.Good D := by obtain ⟨_, _, _, _, _, _, _, h⟩ := h; exact h.good
  have hb0 : Below w.heap.size w (w.alloc (callO (.rem k))) := (Below.refl _ _).alloc (Nat.le_refl _) _
  have HN := Lib.hid (hn _ hb0)
  have hbx := heap_new w (callO (.rem k))
  have HNM : Hid (∀ x V, Nm2 x → Calls Tryz.prog 72 #[.string x] V fun e w' => e = .returned (.bool true) ∧ w' = V) := Lib.hid fun x V hx => name_any hx.ok V
  have c5 := HN.out.c5
  rw [hst] at c5
  have c0 := HN.out.c0
  have c3 := HN.out.c3
  have b0 : (w.alloc (callO (.rem k))).cell? ⟨w.heap.size, 0, none⟩ = some (.int .i64 (cOp (.rem k))) := by rw [cell_of hbx]; rfl
  have b1 : (w.alloc (callO (.rem k))).cell? ⟨w.heap.size, 1, none⟩ = some (.string (cNm (.rem k))) := by rw [cell_of hbx]; rfl
  have b2 : (w.alloc (callO (.rem k))).cell? ⟨w.heap.size, 2, none⟩ = some (.string (cTx (.rem k))) := by rw [cell_of hbx]; rfl
  have b3 : (w.alloc (callO (.rem k))).cell? ⟨w.heap.size, 3, none⟩ = some (.int .i64 0) := by rw [cell_of hbx]; rfl
  have HB := Lib.hid hb0
  have HU : Hid (∀ n, Calls Tryz.prog 10 #[.pointer (some ⟨q, 0, none⟩)] ((w.alloc (callO (.rem k))).drewN n) fun e w' => e = .returned (.int .i64 (used D.now)) ∧ w' = ((w.alloc (callO (.rem k))).drewN n)) :=
    Lib.hid fun n => Db11.used_any (Q := Q) ((h.below hb0).move (Nat.le_refl _) (fun _ _ _ => rfl) (fun _ x => x))
  obtain ⟨J, hJ⟩ := found_is R (cNm (.rem k))
  have HF : Hid (∀ n, Calls Tryz.prog 73 #[.slice A R.length cp, .string (cNm (.rem k))] ((w.alloc (callO (.rem k))).drewN n) fun e w' => e = .returned (.tuple #[.int .i64 (J : Int), .bool (Fr11.look (cNm (.rem k)) R).isSome]) ∧ w' = ((w.alloc (callO (.rem k))).drewN n)) :=
    Lib.hid fun n => by
      rw [← hJ]
      exact find_val (show RdF ((w.alloc (callO (.rem k))).drewN n) A R from HN.out.rd) (by omega) (cNm (.rem k))
  have hlook : (Fr11.look (cNm (.rem k)) R).isSome = (Fm.get D.now (cNm (.rem k))).isSome := by rw [hrf.look]; cases Fm.get D.now (cNm (.rem k)) <;> rfl
  rw [hlook] at HF
  have hBel : Hid (∀ n, Below w.heap.size w ((w.alloc (callO (.rem k))).drewN n)) := Lib.hid fun n => hb0.trans ⟨rfl, rfl, rfl, Nat.le_refl _, fun _ _ => rfl⟩
  unfold mayS
  rw [hst, if_neg (by decide)]
  simp only [callO, cOp, cNm, cTx] at c5 c0 c3 b0 b1 b2 b3 HB HN HF HU hBel ⊢
  unfold callV
  simp only [cOp, cNm, cTx]
  clear h hn hb0 hbx hJ hlook
  generalize (Fm.get D.now k).isSome = B at HF ⊢
  cases B with
  | false =>
    have HR : Hid (May w (if false = true then 0 else 3) = May w 3) := Lib.hid rfl
    rw [HR.out]
    clear HR
    go_enter Tryz.func53, Tryz.ntmps53
    go_wp2_with (go_at_call 72; refine (HNM.out _ _ hk).mono ?_; rintro e w1 ⟨rfl, rfl⟩)
    go_quiet ((go_at_call 73; exact Calls.quiet_of_same (HF.out _)))
    go_wp2
    go_ret
    exact ⟨rfl, (hBel.out 0).trans ⟨rfl, rfl, rfl, Nat.le_refl _, fun _ _ => rfl⟩⟩
  | true =>
    have HR : Hid (May w (if true = true then 0 else 3) = May w 0) := Lib.hid rfl
    rw [HR.out]
    clear HR
    go_enter Tryz.func53, Tryz.ntmps53
    go_wp2_with (go_at_call 72; refine (HNM.out _ _ hk).mono ?_; rintro e w1 ⟨rfl, rfl⟩)
    go_quiet ((go_at_call 73; exact Calls.quiet_of_same (HF.out _)))
    go_wp2
    go_quiet (fail)
    go_wp2
    go_quiet (fail)
    go_wp2
    go_ret
    exact ⟨rfl, (hBel.out 0).trans ⟨rfl, rfl, rfl, Nat.le_refl _, fun _ _ => rfl⟩⟩
set_option maxRecDepth 100000 in
set_option maxHeartbeats 8000000 in
theorem may_mov {w : World} {Q : Nat → Prop} {q : Nat} {D : St} (h : RefAt w Q q D) (j k : ByteArray) (hj : Nm2 j) (hk : Nm2 k) (hne : j ≠ k) (hst : D.still = false) :
    Calls Tryz.prog 53 #[.pointer (some ⟨q, 0, none⟩), callV (.mov j k)] w (May w (mayS D (.mov j k))) := by
  obtain ⟨A, R, cp, hrf, hl, hn⟩ := now_of h
  have hgood : St.Good D := by obtain ⟨_, _, _, _, _, _, _, h⟩ := h; exact h.good
  have hb0 : Below w.heap.size w (w.alloc (callO (.mov j k))) := (Below.refl _ _).alloc (Nat.le_refl _) _
  have HN := Lib.hid (hn _ hb0)
  have hbx := heap_new w (callO (.mov j k))
  have HNM : Hid (∀ x V, Nm2 x → Calls Tryz.prog 72 #[.string x] V fun e w' => e = .returned (.bool true) ∧ w' = V) := Lib.hid fun x V hx => name_any hx.ok V
  have c5 := HN.out.c5
  rw [hst] at c5
  have c0 := HN.out.c0
  have c3 := HN.out.c3
  have b0 : (w.alloc (callO (.mov j k))).cell? ⟨w.heap.size, 0, none⟩ = some (.int .i64 (cOp (.mov j k))) := by rw [cell_of hbx]; rfl
  have b1 : (w.alloc (callO (.mov j k))).cell? ⟨w.heap.size, 1, none⟩ = some (.string (cNm (.mov j k))) := by rw [cell_of hbx]; rfl
  have b2 : (w.alloc (callO (.mov j k))).cell? ⟨w.heap.size, 2, none⟩ = some (.string (cTx (.mov j k))) := by rw [cell_of hbx]; rfl
  have b3 : (w.alloc (callO (.mov j k))).cell? ⟨w.heap.size, 3, none⟩ = some (.int .i64 0) := by rw [cell_of hbx]; rfl
  have HB := Lib.hid hb0
  have HU : Hid (∀ n, Calls Tryz.prog 10 #[.pointer (some ⟨q, 0, none⟩)] ((w.alloc (callO (.mov j k))).drewN n) fun e w' => e = .returned (.int .i64 (used D.now)) ∧ w' = ((w.alloc (callO (.mov j k))).drewN n)) :=
    Lib.hid fun n => Db11.used_any (Q := Q) ((h.below hb0).move (Nat.le_refl _) (fun _ _ _ => rfl) (fun _ x => x))
  obtain ⟨J, hJ⟩ := found_is R (cNm (.mov j k))
  have HF : Hid (∀ n, Calls Tryz.prog 73 #[.slice A R.length cp, .string (cNm (.mov j k))] ((w.alloc (callO (.mov j k))).drewN n) fun e w' => e = .returned (.tuple #[.int .i64 (J : Int), .bool (Fr11.look (cNm (.mov j k)) R).isSome]) ∧ w' = ((w.alloc (callO (.mov j k))).drewN n)) :=
    Lib.hid fun n => by
      rw [← hJ]
      exact find_val (show RdF ((w.alloc (callO (.mov j k))).drewN n) A R from HN.out.rd) (by omega) (cNm (.mov j k))
  have hlook : (Fr11.look (cNm (.mov j k)) R).isSome = (Fm.get D.now (cNm (.mov j k))).isSome := by rw [hrf.look]; cases Fm.get D.now (cNm (.mov j k)) <;> rfl
  rw [hlook] at HF
  have hBel : Hid (∀ n, Below w.heap.size w ((w.alloc (callO (.mov j k))).drewN n)) := Lib.hid fun n => hb0.trans ⟨rfl, rfl, rfl, Nat.le_refl _, fun _ _ => rfl⟩
  unfold mayS
  rw [hst, if_neg (by decide)]
  simp only [callO, cOp, cNm, cTx] at c5 c0 c3 b0 b1 b2 b3 HB HN HF HU hBel ⊢
  unfold callV
  simp only [cOp, cNm, cTx]
  clear h hn hb0 hbx hJ hlook
  generalize (Fm.get D.now j).isSome = B at HF ⊢
  have hkj : (k.toList == j.toList) = false := beq_eq_false_iff_ne.2 fun h => hne (bytes_ext h).symm
  have HNE := Lib.hid hne
  clear hne
  cases B with
  | false =>
    have HR : Hid (May w (if false = true then 0 else 3) = May w 3) := Lib.hid rfl
    rw [HR.out]
    clear HR
    go_enter Tryz.func53, Tryz.ntmps53
    go_wp2_with (first | (go_at_call 72; (with_reducible refine (HNM.out j _ hj).mono ?_); rintro e w1 ⟨rfl, rfl⟩) | (go_at_call 72; (with_reducible refine (HNM.out k _ hk).mono ?_); rintro e w1 ⟨rfl, rfl⟩))
    go_quiet ((go_at_call 73; exact Calls.quiet_of_same (HF.out _)))
    go_wp2
    go_ret
    exact ⟨rfl, (hBel.out 0).trans ⟨rfl, rfl, rfl, Nat.le_refl _, fun _ _ => rfl⟩⟩
  | true =>
    have HR : Hid (May w (if true = true then 0 else 3) = May w 0) := Lib.hid rfl
    rw [HR.out]
    clear HR
    go_enter Tryz.func53, Tryz.ntmps53
    go_wp2_with (first | (go_at_call 72; (with_reducible refine (HNM.out j _ hj).mono ?_); rintro e w1 ⟨rfl, rfl⟩) | (go_at_call 72; (with_reducible refine (HNM.out k _ hk).mono ?_); rintro e w1 ⟨rfl, rfl⟩))
    go_quiet ((go_at_call 73; exact Calls.quiet_of_same (HF.out _)))
    go_wp2
    go_quiet (fail)
    go_wp2
    go_quiet (fail)
    go_wp2
    go_ret
    exact ⟨rfl, (hBel.out 0).trans ⟨rfl, rfl, rfl, Nat.le_refl _, fun _ _ => rfl⟩⟩
/-- What may answers, of any call. -/
theorem may_any {w : World} {Q : Nat → Prop} {q : Nat} {D : St} (h : RefAt w Q q D) {c : Cmd} (hc : FitC c) (hs : (cTx c).size ≤ 1099511627776) :
    Calls Tryz.prog 53 #[.pointer (some ⟨q, 0, none⟩), callV c] w (May w (mayS D c)) := by
  cases hst : D.still with
  | true =>
    have e : mayS D c = 20 := by unfold mayS; rw [hst, if_pos rfl]
    rw [e]; exact may_still h c hst
  | false =>
    cases c with
    | app k s => exact may_app h k s hc hs hst
    | cut k n => exact hc.elim
    | mov j k => exact may_mov h j k hc.1 hc.2.1 hc.2.2 hst
    | rem k => exact may_rem h k hc hst
end Go.Proofs.YtaoneiicoaiehaaGreat.Dc11
