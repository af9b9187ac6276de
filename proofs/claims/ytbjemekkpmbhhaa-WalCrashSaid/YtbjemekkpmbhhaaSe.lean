/- The contract of disk's settle. -/
import Derived.Test.YtbjemekkpmbhhaaCo
import Derived.Laws.EntriesVeiled
import Derived.Laws.NewBlocks
namespace Go.Proofs.Ytbjemekkpmbhhaa.Se
open Go Go.RowKit Go.Lib Go.Proofs.Ytbjemekkpmbhhaa.Mp Go.Proofs.Ytbjemekkpmbhhaa.Dh Go.Proofs.Ytbjemekkpmbhhaa.Fm Go.Proofs.Ytbjemekkpmbhhaa.Dk Go.Proofs.Ytbjemekkpmbhhaa.Cl Go.Proofs.Ytbjemekkpmbhhaa.Bu Go.Proofs.Ytbjemekkpmbhhaa.Ch Go.Proofs.Ytbjemekkpmbhhaa.La Go.Proofs.Ytbjemekkpmbhhaa.Co
theorem settle_nil {S : Nat → Prop} {w : World} {p : Nat} {d : Dsk} (h : DskAt w S p d) (hl : d.lv = .slice none 0 0) :
    Calls Try.prog 36 #[.pointer (some ⟨p, 0, none⟩), .int .i64 0] w fun e w' => e = .returned (.tuple #[]) ∧ Ran S w w' p { d with lv := .slice none 0 0 } := by
  have c5 : w.cell? ⟨p, 5, none⟩ = some (.slice none 0 0) := by rw [← hl]; exact DskAt.c h 5
  have f5 := DskAt.f h 5
  have HR := Lib.hid (mkSet h 5 (.slice none 0 0) { d with lv := .slice none 0 0 } rfl ⟨rfl, rfl, rfl, rfl, rfl, rfl⟩)
  clear h
  go_enter Try.func36, Try.ntmps36
  go_wp2
  go_loop [5, 13, 14, 15, 16, 17, 18, 19, 20, 21, 22, 23] (fun _ i _ _ _ _ _ _ _ _ _ _ => i = .int .i64 0) (fun _ _ _ _ _ _ _ _ _ _ _ _ => 0)
  case atStart => rfl
  case round =>
    subst hrel
    go_wp2
    go_end0
    exact ⟨rfl, HR.out⟩
theorem tv_shape {w : World} {S : Nat → Prop} {dv tv : Value} {c : Cmd} (h : CmdAt w S dv tv c) : tv = .nilFunc ∨ ∃ g caps, tv = .func (.func g) #[] caps := by
  cases c with
  | app k s => obtain ⟨b1, b2, _, e, _⟩ := h; exact .inr ⟨_, _, e⟩
  | cut k n => obtain ⟨b1, b2, _, e, _⟩ := h; exact .inl e
  | mov j k => exact h.elim
  | rem k => obtain ⟨b1, _, e, _⟩ := h; exact .inl e
/-- The disk in the midst of a settle: k loose calls are sure. -/
def Mid (S : Nat → Prop) (w wr : World) (p : Nat) (d : Dsk) (l : List Cmd) (k : Nat) : Prop :=
  ∃ es' c', view es' = runs (view d.es2) (l.take k) ∧ Ran S w wr p { d with es2 := es', c2 := c' }
set_option maxHeartbeats 1600000 in
theorem settle_some {S : Nat → Prop} {w : World} {p : Nat} {d : Dsk} (h : DskAt w S p d) (l : List Cmd) (n b cap : Nat) (cs : Array Value) (hlv : d.lv = .slice (some ⟨b, 0, none⟩) l.length cap) (hn : n ≤ l.length) (hlc : l.length ≤ cap) (hcm : cap ≤ maxLen)
    (hb : At w S b (.cells cs 64 (0, 0))) (hcs : cs.size = cap * 2) (h5 : ∀ i (h : i < l.length), ∃ dv tv, cs[i * 2]? = some dv ∧ cs[i * 2 + 1]? = some tv ∧ CmdAt w S dv tv l[i])
    (hok : oks (view d.es2) l) (hu : used (view d.es2) ≤ 16777216) :
    Calls Try.prog 36 #[.pointer (some ⟨p, 0, none⟩), .int .i64 n] w fun e w' => e = .returned (.tuple #[]) ∧
      ∃ es' c', view es' = runs (view d.es2) (l.take n) ∧ Ran S w w' p { d with es2 := es', c2 := c', lv := .slice none 0 0 } := by
  have c5 : w.cell? ⟨p, 5, none⟩ = some (.slice (some ⟨b, 0, none⟩) l.length cap) := by rw [← hlv]; exact DskAt.c h 5
  have f5 := DskAt.f h 5
  unfold maxLen at hcm
  have HB := Lib.hid hb
  have H5 := Lib.hid h5
  have HO := Lib.hid hok
  have HU := Lib.hid hu
  have HH := Lib.hid h
  clear hb h5 hok hu h hlv
  go_enter Try.func36, Try.ntmps36
  go_wp2
  go_loopw [5, 13, 14, 15, 16, 17, 18, 19, 20, 21, 22, 23] (fun _ i _ _ _ _ _ _ _ _ _ _ wr => ∃ k : Nat, k ≤ n ∧ i = .int .i64 k ∧ Mid S w wr p d l k) (fun _ i _ _ _ _ _ _ _ _ _ _ _ => n - (intOf i).toNat)
  case atStart => exact ⟨0, by omega, rfl, d.es2, d.c2, rfl, Bu.Ran.refl HH.out⟩
  case round =>
    obtain ⟨k, hk, rfl, es', c', hview, hran⟩ := hrel
    have HV := Lib.hid hview
    have HR := Lib.hid hran
    have g5 : wr.cell? ⟨p, 5, none⟩ = some d.lv := DskAt.c hran.at_ 5
    have q5 := DskAt.f hran.at_ 5
    have hbr := hran.plain _ _ ⟨_, _, _, rfl, by decide, by decide⟩ HB.out.2
    by_cases hlt : k < n
    · obtain ⟨dv, tv, x1, x2, x3⟩ := H5.out k (by omega)
      have y1 : wr.cell? ⟨b, k * 2, none⟩ = some dv := (cell_of hbr _).trans x1
      have y2 : wr.cell? ⟨b, k * 2 + 1, none⟩ = some tv := (cell_of hbr _).trans x2
      have hok1 : Cmd.ok (view es') l[k] := by rw [hview]; exact oks_at l _ k _ HO.out (List.getElem?_eq_getElem (by omega))
      have hu1 : used (view es') ≤ 16777216 := by rw [hview]; exact runs_used _ _ (oks_take k l _ HO.out) HU.out
      obtain ⟨f, caps, hdv, _, _⟩ := do_cmd false hran.at_ l[k] hok1 hu1 (x3.keep fun b v => ⟨Ch.Ran.keepPlain hran b _ (plain1 v), Ch.Ran.keepPlain hran b _ (plainn v)⟩)
      subst hdv
      rcases tv_shape x3 with rfl | ⟨g, caps2, rfl⟩
      · clear hbr hran hview x1 x2
        obtain ⟨Wd, hWd⟩ : ∃ Wd, Wd = (wr.alloc (.cells #[.func (.func f) #[] caps, .nilFunc] 64)).drew := ⟨_, rfl⟩
        have hnb : Wd.heap[wr.heap.size]? = some (.cells #[.func (.func f) #[] caps, .nilFunc] 64 (0, 0)) := by rw [hWd]; exact heap_new wr _
        have k0 : Wd.cell? ⟨wr.heap.size, 0, none⟩ = some (.func (.func f) #[] caps) := cell_of hnb 0
        have R1 : Ran S w Wd p { d with es2 := es', c2 := c' } := by rw [hWd]; exact Ran.drew (Ran.trans HR.out (DskAt.alloc HR.out.at_ _))
        obtain ⟨f', caps', hfe, hent, hcall⟩ := do_cmd false R1.at_ l[k] hok1 hu1 (x3.keep fun b v => ⟨Ch.Ran.keepPlain R1 b _ (plain1 v), Ch.Ran.keepPlain R1 b _ (plainn v)⟩)
        obtain ⟨rfl, rfl⟩ : f = f' ∧ caps = caps' := by cases hfe; exact ⟨rfl, rfl⟩
        have HE := Lib.hid hent
        have HCa := Lib.hid hcall
        have HWd := Lib.hid hWd
        have HR1 := Lib.hid R1
        clear hent hcall hWd R1 hnb hfe x3 hok1 hu1
        go_wp2_with fail
        refine wp_region_still_tail 5 (by kernel_rfl) (by kernel_rfl) ?_
        simp only [List.take_succ_cons, List.take_zero, List.drop_succ_cons, List.drop_zero]
        change wpStill _ _ (World.drew _) _ _ _
        rw [← HWd.out]
        repeat (with_reducible refine wpStill_step (fun K hK => ?_); go_simp; with_reducible refine hK _ ?_; clear hK K)
        with_reducible refine wpStill_nil ?_
        change wpList _ _ _ _ _ (World.drew _)
        rw [← HWd.out]
        go_wp2_with fail
        rw [HE.out, Oper.upon_enter]
        refine HCa.out.mono ?_
        rintro e w2 ⟨rfl, es2, c2, hv2, hr2⟩
        have HV2 := Lib.hid hv2
        have HR2 := Lib.hid (Ran.trans HR1.out hr2)
        clear hv2 hr2 k0 y1 y2 g5 q5
        go_wp2
        go_roundw
        case rel =>
          refine ⟨k + 1, by omega, by go_num, es2, c2, ?_, HR2.out⟩
          rw [HV2.out, List.take_succ_eq_append_getElem (by omega), runs_snoc, ← HV.out]
          rfl
        case measure => simp [intOf]; omega
      · clear hbr hran hview x1 x2
        obtain ⟨Wd, hWd⟩ : ∃ Wd, Wd = (wr.alloc (.cells #[.func (.func f) #[] caps, (.func (.func g) #[] caps2)] 64)).drew := ⟨_, rfl⟩
        have hnb : Wd.heap[wr.heap.size]? = some (.cells #[.func (.func f) #[] caps, (.func (.func g) #[] caps2)] 64 (0, 0)) := by rw [hWd]; exact heap_new wr _
        have k0 : Wd.cell? ⟨wr.heap.size, 0, none⟩ = some (.func (.func f) #[] caps) := cell_of hnb 0
        have R1 : Ran S w Wd p { d with es2 := es', c2 := c' } := by rw [hWd]; exact Ran.drew (Ran.trans HR.out (DskAt.alloc HR.out.at_ _))
        obtain ⟨f', caps', hfe, hent, hcall⟩ := do_cmd false R1.at_ l[k] hok1 hu1 (x3.keep fun b v => ⟨Ch.Ran.keepPlain R1 b _ (plain1 v), Ch.Ran.keepPlain R1 b _ (plainn v)⟩)
        obtain ⟨rfl, rfl⟩ : f = f' ∧ caps = caps' := by cases hfe; exact ⟨rfl, rfl⟩
        have HE := Lib.hid hent
        have HCa := Lib.hid hcall
        have HWd := Lib.hid hWd
        have HR1 := Lib.hid R1
        clear hent hcall hWd R1 hnb hfe x3 hok1 hu1
        go_wp2_with fail
        refine wp_region_still_tail 5 (by kernel_rfl) (by kernel_rfl) ?_
        simp only [List.take_succ_cons, List.take_zero, List.drop_succ_cons, List.drop_zero]
        change wpStill _ _ (World.drew _) _ _ _
        rw [← HWd.out]
        repeat (with_reducible refine wpStill_step (fun K hK => ?_); go_simp; with_reducible refine hK _ ?_; clear hK K)
        with_reducible refine wpStill_nil ?_
        change wpList _ _ _ _ _ (World.drew _)
        rw [← HWd.out]
        go_wp2_with fail
        rw [HE.out, Oper.upon_enter]
        refine HCa.out.mono ?_
        rintro e w2 ⟨rfl, es2, c2, hv2, hr2⟩
        have HV2 := Lib.hid hv2
        have HR2 := Lib.hid (Ran.trans HR1.out hr2)
        clear hv2 hr2 k0 y1 y2 g5 q5
        go_wp2
        go_roundw
        case rel =>
          refine ⟨k + 1, by omega, by go_num, es2, c2, ?_, HR2.out⟩
          rw [HV2.out, List.take_succ_eq_append_getElem (by omega), runs_snoc, ← HV.out]
          rfl
        case measure => simp [intOf]; omega
    · have : k = n := by omega
      subst this
      have HS := Lib.hid (Ran.trans hran (mkSet hran.at_ 5 (.slice none 0 0) { d with es2 := es', c2 := c', lv := .slice none 0 0 } rfl ⟨rfl, rfl, rfl, rfl, rfl, rfl⟩))
      clear hran hview hbr
      go_wp2
      go_end0
      exact ⟨rfl, es', c', HV.out, HS.out⟩
end Go.Proofs.Ytbjemekkpmbhhaa.Se
