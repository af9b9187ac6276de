/- The contract of disk's change, where the call is done. -/
import Derived.Test.YtbjemekkpmbhhaaLa
import Derived.RegionTactic
import Derived.Deep.RegionLaw
namespace Go.Proofs.Ytbjemekkpmbhhaa.Co
open Go Go.RowKit Go.Lib Go.Proofs.Ytbjemekkpmbhhaa.Mp Go.Proofs.Ytbjemekkpmbhhaa.Dh Go.Proofs.Ytbjemekkpmbhhaa.Fm Go.Proofs.Ytbjemekkpmbhhaa.Dk Go.Proofs.Ytbjemekkpmbhhaa.Cl Go.Proofs.Ytbjemekkpmbhhaa.Bu Go.Proofs.Ytbjemekkpmbhhaa.Ch Go.Proofs.Ytbjemekkpmbhhaa.La
theorem wpList_append_loose (w : World) {ops : Array Oper} {rest : List Oper} {o : Oper} {a : Act} {Q : Exit → Act → World → Prop} (hg : o.guard = none) (s x : Operand)
    (hop : o.op = Op.call { callee := Callee.builtin Builtin.append, args := #[s, x], argTypes := #[47, 47] })
    (S : Nat → Prop) (lv : Value) (l : List Cmd) (c : Cmd) (dv tv : Value) (nb : Nat) (hs : a.eval s = lv) (hx : a.eval x = .slice (some ⟨nb, 0, none⟩) 1 1) (hl : LooseAt w S lv l) (hn : w.heap[nb]? = some (.cells #[dv, tv] 64 (0, 0)))
    (hc : CmdAt w S dv tv c) (hlen : l.length ≤ 1099511627776)
    (hK : ∀ v' w', LAppended S w w' v' (l ++ [c]) → wpList Try.prog ops Q rest (a.put o.dst v') w') : wpList Try.prog ops Q (o :: rest) a w := by
  refine wpList_plain hg fun K' hK' => ?_
  obtain ⟨v', w', hrun, happ⟩ := run_append_loose S w o.type lv l c dv tv nb hl hn hc hlen
  unfold Oper.wp
  simp [execOp, hop, resolve, invoke, builtin, hs, hx, hrun, Result.andThen]
  exact hK' _ _ (hK _ _ happ)
theorem step_append_loose {ops : Array Oper} {o : Oper} {a : Act} {w : World} {K : Act → World → Prop} {Q : Exit → Act → World → Prop} {E : Prop}
    (hg : o.guard = none) (s x : Operand) (hop : o.op = Op.call { callee := Callee.builtin Builtin.append, args := #[s, x], argTypes := #[47, 47] })
    (S : Nat → Prop) (lv : Value) (l : List Cmd) (c : Cmd) (dv tv : Value) (nb : Nat) (hs : a.eval s = lv) (hx : a.eval x = .slice (some ⟨nb, 0, none⟩) 1 1) (hl : LooseAt w S lv l) (hn : w.heap[nb]? = some (.cells #[dv, tv] 64 (0, 0)))
    (hc : CmdAt w S dv tv c) (hlen : l.length ≤ 1099511627776)
    (hK : ∀ v' w', LAppended S w w' v' (l ++ [c]) → K (a.put o.dst v') w') :
    if Region.wanted o (yielded ops a.tmps) = true then Oper.wp Try.prog o a w K Q else E := by
  have hw : Region.wanted o (yielded ops a.tmps) = true := by simp [Region.wanted, hg]
  rw [if_pos hw]
  obtain ⟨v', w', hrun, happ⟩ := run_append_loose S w o.type lv l c dv tv nb hl hn hc hlen
  unfold Oper.wp
  simp [execOp, hop, resolve, invoke, builtin, hs, hx, hrun, Result.andThen]
  exact hK _ _ happ
theorem LooseAt.shape {w : World} {S : Nat → Prop} {lv : Value} {l : List Cmd} (h : LooseAt w S lv l) : ∃ a c, lv = .slice a l.length c := by
  rcases h with ⟨rfl, rfl⟩ | ⟨b, cap, cs, rfl, _⟩
  · exact ⟨_, _, rfl⟩
  · exact ⟨_, _, rfl⟩
theorem LooseAt.shape1 {w : World} {S : Nat → Prop} {lv : Value} {l : List Cmd} {x : Cmd} (h : LooseAt w S lv (l ++ [x])) : ∃ a c, lv = .slice a (l.length + 1) c := by
  obtain ⟨a, c, e⟩ := LooseAt.shape h
  exact ⟨a, c, by rw [e]; simp⟩
/-- What a call of the disk leaves: the disk, and the loose calls. -/
structure Leaves (S : Nat → Prop) (w w' : World) (p : Nat) (d : Dsk) (l : List Cmd) : Prop where
  tread : Tread S w w'
  at_ : DskAt w' (grow S w w') p d
  loose : LooseAt w' (grow S w w') d.lv l
theorem DskAt.keepNot {S S' : Nat → Prop} {w w' : World} {p : Nat} {d : Dsk} (h : DskAt w S p d) (hk : ∀ b o, ¬ isLoose o → At w S b o → At w' S' b o) : DskAt w' S' p d :=
  ⟨hk _ _ (fun ⟨_, _, e⟩ => by cases e) h.blk, hk _ _ (fun ⟨_, _, e⟩ => by cases e) h.now, hk _ _ (fun ⟨_, _, e⟩ => by cases e) h.sure, h.ne, h.wf1, h.wf2,
    h.texts.keep fun b o ⟨cs, fr, e⟩ ha => hk b o (fun ⟨_, _, e'⟩ => by rw [e] at e'; cases e') ha⟩
theorem leaves_of {S : Nat → Prop} {w W3 w4 : World} {p : Nat} {d2 : Dsk} {v' : Value} {l' : List Cmd} (R3 : Ran S w W3 p d2) (happ : LAppended (grow S w W3) W3 w4 v' l') :
    Leaves S w (w4.setCell ⟨p, 5, none⟩ v') p { d2 with lv := v' } l' ∧ w4.cell? ⟨p, 5, none⟩ = some d2.lv ∧ w4.frozen? ⟨p, 5, none⟩ = false := by
  have k4 : DskAt w4 (grow (grow S w W3) W3 w4) p d2 := DskAt.keepNot R3.at_ fun b o ho ha => ⟨.inl ha.1, happ.plain b o ho ha.2⟩
  have R5 := mkSet k4 5 v' { d2 with lv := v' } rfl ⟨rfl, rfl, rfl, rfl, rfl, rfl⟩
  have hg : ∀ b, grow (grow (grow S w W3) W3 w4) w4 (w4.setCell ⟨p, 5, none⟩ v') b → grow S w (w4.setCell ⟨p, 5, none⟩ v') b := fun b hb =>
    grow_grow (Nat.le_trans R3.tread.size happ.tread.size) R5.tread.size b (by
      rcases hb with hb | hb
      · exact .inl (grow_grow R3.tread.size happ.tread.size b hb)
      · exact .inr hb)
  refine ⟨⟨?_, DskAt.up R5.at_ hg, ?_⟩, ?_, ?_⟩
  · exact R3.tread.trans (happ.tread.trans R5.tread)
  · have := happ.loose.keep (Ch.Ran.keepPlain R5)
    exact LooseAt.keep this fun b o _ ha => ha.up hg
  · exact DskAt.c k4 5
  · exact DskAt.f k4 5
set_option maxHeartbeats 1000000 in
theorem change_ok {S : Nat → Prop} {w : World} {p : Nat} {d : Dsk} (h : DskAt w S p d) (hf : -1 ≤ d.fuse ∧ d.fuse ≤ 9223372036854775807) (dv tv : Value) (hb : (burn d).1 = 0)
    (c : Cmd) (hc : CmdAt w S dv tv c) (hok : Cmd.ok (view d.es1) c) (hu : used (view d.es1) ≤ 16777216) (l : List Cmd) (hl : LooseAt w S d.lv l) (hlen : l.length ≤ 1099511627776) :
    Calls Try.prog 41 #[.pointer (some ⟨p, 0, none⟩), .agg #[dv, tv]] w fun e w' => e = .returned (.int .i64 0) ∧
      ∃ es' c' v', view es' = Cmd.run (view d.es1) c ∧ Leaves S w w' p { (burn d).2 with es1 := es', c1 := c', lv := v' } (l ++ [c]) := by
  obtain ⟨d1, hd1⟩ : ∃ d1, d1 = (burn d).2 := ⟨_, rfl⟩
  have hbs : d1.es1 = d.es1 ∧ d1.lv = d.lv := by
    rw [hd1]; unfold burn; split
    · exact ⟨rfl, rfl⟩
    · split <;> exact ⟨rfl, rfl⟩
  have ra := DskAt.alloc h (.cells #[dv, tv] 64)
  have HB := burn_any ra.at_ hf
  rw [hb, ← hd1] at HB
  have HC := Lib.hid HB
  have HR := Lib.hid ra
  rw [← hd1]
  have HN := Lib.hid (heap_new w (.cells #[dv, tv] 64))
  have hcd := hc
  have HD : Hid (∀ (W : World) (S' : Nat → Prop), DskAt W S' p d1 → CmdAt W S' dv tv c → ∃ f caps, dv = .func (.func f) #[] caps ∧ Enters f ∧ Calls Try.prog f (#[.pointer (some ⟨p, off true, none⟩)] ++ caps) W fun e w' => e = .returned (.tuple #[]) ∧ Did S' W w' p d1 true c) :=
    Lib.hid fun W S' h1 h2 => do_cmd true h1 c (by show Cmd.ok (view d1.es1) c; rw [hbs.1]; exact hok) (by show used (view d1.es1) ≤ _; rw [hbs.1]; exact hu) h2
  clear HB
  obtain ⟨f, caps, hdv, _⟩ := do_cmd true h c hok hu hc
  have HE := Lib.hid (show f = f ∧ dv = .func (.func f) #[] caps from ⟨rfl, hdv⟩)
  subst hdv
  have HH := Lib.hid h
  have HK := Lib.hid hc
  have HL := Lib.hid hl
  have HX := Lib.hid hd1
  clear h hb ra hcd hc hl hd1 hbs
  go_enter Try.func41, Try.ntmps41
  go_wp2_with fail
  refine HC.out.mono ?_
  rintro e w1 ⟨rfl, hr⟩
  have HQ := Lib.hid (Ran.trans HR.out hr)
  have HP := Lib.hid hr
  have hcell := (hr.plain _ _ ⟨_, _, _, rfl, by decide, by decide⟩ HN.out)
  have k0 : w1.drew.cell? ⟨w.heap.size, 0, none⟩ = some (.func (.func f) #[] caps) := (cell_of hcell 0)
  obtain ⟨W1, hW1⟩ : ∃ W1, W1 = w1.drew := ⟨_, rfl⟩
  have HW1 := Lib.hid hW1
  rw [← hW1] at k0
  clear hW1
  have HCL := Lib.hid hcell
  clear hr hcell
  go_wp2
  refine wp_region_still_tail 5 (by kernel_rfl) (by kernel_rfl) ?_
  simp only [List.take_succ_cons, List.take_zero, List.drop_succ_cons, List.drop_zero]
  change wpStill _ _ w1.drew _ _ _
  rw [← HW1.out]
  repeat (with_reducible refine wpStill_step (fun K hK => ?_); go_simp; with_reducible refine hK _ ?_; clear hK K)
  with_reducible refine wpStill_nil ?_
  change wpList _ _ _ _ _ w1.drew
  rw [← HW1.out]
  go_wp2_with fail
  obtain ⟨f', caps', hfe, hent, hcall⟩ := HD.out W1 (grow S w w1) (by rw [HW1.out]; exact (Bu.DskAt.drew HQ.out.at_)) (by
    rw [HW1.out]
    exact HK.out.keep fun b v => ⟨fun ha => (Ch.Ran.keepPlain HP.out b _ (plain1 v) (ha.alloc _)).up (grow_grow (by rw [size_alloc]; omega) HP.out.tread.size), fun ha => (Ch.Ran.keepPlain HP.out b _ (plainn v) (ha.alloc _)).up (grow_grow (by rw [size_alloc]; omega) HP.out.tread.size)⟩)
  obtain ⟨rfl, rfl⟩ : f = f' ∧ caps = caps' := by cases hfe; exact ⟨rfl, rfl⟩
  rw [hent, Oper.upon_enter]
  refine hcall.mono ?_
  rintro e w2 ⟨rfl, hdid⟩
  obtain ⟨es', c', hview, hran⟩ := hdid
  have R2 : Ran S w w2 p { d1 with es1 := es', c1 := c' } := by
    rw [HW1.out] at hran
    exact Ran.trans HQ.out (Bu.Ran.of_drew hran)
  have hxx : d1.es1 = d.es1 ∧ d1.lv = d.lv := by
    rw [HX.out]; unfold burn; split
    · exact ⟨rfl, rfl⟩
    · split <;> exact ⟨rfl, rfl⟩
  have hview' : view es' = Cmd.run (view d.es1) c := by rw [hview]; show Cmd.run (view d1.es1) c = _; rw [hxx.1]
  obtain ⟨W3, hW3⟩ : ∃ W3, W3 = w2.drew.alloc (.cells #[.func (.func f) #[] caps, tv] 64) := ⟨_, rfl⟩
  have R3 : Ran S w W3 p { d1 with es1 := es', c1 := c' } := by
    rw [hW3]; exact Ran.trans (Ran.drew R2) (DskAt.alloc (Ran.drew R2).at_ _)
  have hl3 : LooseAt W3 (grow S w W3) d.lv l := HL.out.keep (Ch.Ran.keepPlain R3)
  have hc3 : CmdAt W3 (grow S w W3) (.func (.func f) #[] caps) tv c := HK.out.keep fun b v => ⟨Ch.Ran.keepPlain R3 b _ (plain1 v), Ch.Ran.keepPlain R3 b _ (plainn v)⟩
  have hn3 : W3.heap[w2.heap.size]? = some (.cells #[.func (.func f) #[] caps, tv] 64 (0, 0)) := by rw [hW3]; exact heap_new w2.drew _
  have hbk : w2.heap[w.heap.size]? = some (.cells #[.func (.func f) #[] caps, tv] 64 (0, 0)) := by
    rw [HW1.out] at hran
    exact hran.plain _ _ ⟨_, _, _, rfl, by decide, by decide⟩ HCL.out
  have k0 : w2.cell? ⟨w.heap.size, 0, none⟩ = some (.func (.func f) #[] caps) := (cell_of hbk 0)
  have k1 : w2.cell? ⟨w.heap.size, 1, none⟩ = some tv := (cell_of hbk 1)
  have k5 : w2.cell? ⟨p, 5, none⟩ = some d.lv := by rw [← hxx.2]; exact DskAt.c R2.at_ 5
  have k5a : (w2.alloc (.cells #[.func (.func f) #[] caps, tv] 64)).cell? ⟨p, 5, none⟩ = some d.lv := by
    rw [← hxx.2]; exact DskAt.c (DskAt.alloc R2.at_ _).at_ 5
  have HLV : Hid (∀ v' w4, LAppended (grow S w W3) W3 w4 v' (l ++ [c]) → Leaves S w (w4.setCell ⟨p, 5, none⟩ v') p { d1 with es1 := es', c1 := c', lv := v' } (l ++ [c]) ∧ w4.cell? ⟨p, 5, none⟩ = some d1.lv ∧ w4.frozen? ⟨p, 5, none⟩ = false) :=
    Lib.hid fun v' w4 happ => leaves_of R3 happ
  have HL3 := Lib.hid hl3
  have HC3 := Lib.hid hc3
  have HN3 := Lib.hid hn3
  have HV := Lib.hid hview'
  have HW3 := Lib.hid hW3
  clear hcall hent hfe hview hran R2 hxx hview' hW3 R3 hl3 hc3 hn3 hbk
  rw [HW3.out] at HL3 HC3 HN3 HLV
  go_wp2
  go_region_law (refine step_append_loose rfl _ _ rfl _ d.lv l c _ tv _ rfl rfl HL3.out HN3.out HC3.out hlen ?_; intro v' w4 happ; obtain ⟨a1, c1, rfl⟩ := LooseAt.shape1 happ.loose; have hq := HLV.out _ w4 happ; have q5 := hq.2.1; have q6 := hq.2.2; have HZ := Lib.hid hq.1; clear hq happ)
  all_goals
    go_wp2
    go_ret
    exact ⟨rfl, es', c', _, HV.out, (by assumption : Hid (Leaves _ _ _ _ _ _)).out⟩
end Go.Proofs.Ytbjemekkpmbhhaa.Co
