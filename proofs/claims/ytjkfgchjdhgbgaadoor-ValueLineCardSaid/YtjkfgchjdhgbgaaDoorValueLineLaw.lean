/- ValueLine: of two values that may be just one is ahead of the other one, or they are the same, and the order goes on; so it is of rows (P4.4): for any three values and any three rows. Conditions: unicode/utf8 holds its two tables as its own text lays them (tied to the text by the card); no other. -/
import Derived.Test.YtjkfgchjdhgbgaaDoorRows
import Derived.Test.YtjkfgchjdhgbgaaDoorCards
import Derived.Test.YtjkfgchjdhgbgaaDoorTie
import Derived.ProofKit
import Derived.OpenShut
import Derived.Carry
import Derived.SizedLaws
import Derived.LaidMore
import Derived.Lay
import Derived.LaidOnce
import Derived.SevenTiedAt
import Derived.PinnedBridge
import Derived.Test.YtjkfgchjdhgbgaaDoorVw
namespace Go.Proofs.YtjkfgchjdhgbgaaDoor.valueLine
open Go Go.ChangeShapes Go.WideShapes Go.ChangeAt Go.RowKit Go.Proofs.YtjkfgchjdhgbgaaDoor
open Go.ChangeMaps (open_string shut_string)
theorem walk (a b c : Vm.V) (A1 : Option Addr) (c1 : Nat) (l : List Vm.V) (A2 : Option Addr) (c2 : Nat) (m : List Vm.V) (A3 : Option Addr) (c3 : Nat) (n : List Vm.V) (W : World) (ha : a.ok) (hb : b.ok) (hc : c.ok) (hl : Vz.RowAt W A1 c1 l) (hm : Vz.RowAt W A2 c2 m) (hn : Vz.RowAt W A3 c3 n) (hT : Vs.Tabs W) :
    Calls Tryd.prog 5 #[Vm.vv a, Vm.vv b, Vm.vv c, .slice A1 l.length c1, .slice A2 m.length c2, .slice A3 n.length c3] W fun e w' => e = .returned (.bool true) ∧ Below W.heap.size W w' :=
  Vw.walk hT a b c ha hb hc hl hm hn
/- The row: from the walk to the given statement. -/
theorem own : ownKnob Tryd.prog.godebug = none := by kernel_rfl
theorem accepts : (Rows.laid_unicode_utf8_acceptRanges : DataW Unit) = Lib.acceptData := by kernel_rfl
theorem tabs {W : World} (hL : laidMetH Tryd.prog Rows.valueLineRow.laid W) : Vs.Tabs W := by
  rw [MakeChecks.laidMetH_plain _ _ _ (by kernel_rfl)] at hL
  have h4 : Lib.VarReads Tryd.prog W "unicode/utf8.acceptRanges" Lib.acceptData := accepts ▸ Lib.laidMet.reads hL (.head _)
  have h3 : Lib.VarReads Tryd.prog W "unicode/utf8.first" Lib.firstData := Pinned.utf8First_eq ▸ Lib.laidMet.reads hL (.tail _ (.head _))
  exact Vs.tabs_of h3 h4
set_option maxRecDepth 100000 in
theorem lifted (os : Os) (started : os.Started) (H : Type) (enc : TypeId × Value → H) :
    ReturnsInHanded {} Tryd.checked os 5 .any (fun w args => (Rows.valueLineSpec.pre enc Tryd.prog Tryd.f5 [] false w args ∧ laidMetH Tryd.prog Rows.valueLineRow.laid w) ∧ sizedMet enc Tryd.prog Tryd.f5 (OpenSpec.ofChange Rows.valueLineSpec) false w args)
      (Rows.valueLineSpec.post enc Tryd.prog Tryd.f5 false true false false) := by
  refine returnsInHanded_of_change_and (C := Tryd.checked) (X := fun w _ => laidMetH Tryd.prog Rows.valueLineRow.laid w) (fun _ _ _ hh h => h.of_heap hh) own started (by kernel_rfl) Tryd.func5
    (ChangeSpec.witness_shaped (enc := enc) (C := Tryd.checked) (os := os) (X := fun w _ => laidMetH Tryd.prog Rows.valueLineRow.laid w) false (World.laidAll Tryd.prog os Rows.valueLineRow.laid) #[.agg #[.int .u8 0, .int .i64 0, .int .u64 0, .string ⟨#[]⟩], .agg #[.int .u8 0, .int .i64 0, .int .u64 0, .string ⟨#[]⟩], .agg #[.int .u8 0, .int .i64 0, .int .u64 0, .string ⟨#[]⟩], .slice none 0 0, .slice none 0 0, .slice none 0 0] 8 (World.laidAll_os _ _ _)
      (World.shaped_of_ZipB (by kernel_rfl) (by kernel_rfl)) (by kernel_rfl) (by kernel_rfl) (by kernel_rfl)
      (by rw [MakeChecks.laidMetH_plain _ _ _ (by kernel_rfl)]; exact laidMet_laidAll _ (by kernel_rfl) (by kernel_rfl))) ?_
  intro W base args ds gs before hval0 hW hcnd hsz0 hL _
  have hval : ∀ (j : Nat) t v, Tryd.f5.params[j]? = some t → args[j]? = some v → Value.okWide Tryd.prog W .any base t v := hval0
  have hsz : (DataW.weightsEach Tryd.prog (Tryd.f5.params.toList ++ Rows.valueLineSpec.plain.varTypes Tryd.prog) (ds ++ gs)).all (· ≤ reachBytes) = true := hsz0
  have hW' := hW
  obtain ⟨p, q, hA0, hV, rfl, hfz, hnd⟩ := hW
  have hA : DataW.TrodAll enc Tryd.prog W 0 (fun _ => true) true Tryd.f5.params.toList args.toList ds p := hA0
  rw [Tryd.params5] at hA hval hsz
  obtain ⟨v0, vs0, d0, ds0, p0, q0, hargs, rfl, rfl, h0, r0⟩ := trodAll_cons hA
  obtain ⟨v1, vs1, d1, ds1, p1, q1, rfl, rfl, rfl, h1, r1⟩ := trodAll_cons r0
  obtain ⟨v2, vs2, d2, ds2, p2, q2, rfl, rfl, rfl, h2, r2⟩ := trodAll_cons r1
  obtain ⟨v3, vs3, d3, ds3, p3, q3, rfl, rfl, rfl, h3, r3⟩ := trodAll_cons r2
  obtain ⟨v4, vs4, d4, ds4, p4, q4, rfl, rfl, rfl, h4, r4⟩ := trodAll_cons r3
  obtain ⟨v5, vs5, d5, ds5, p5, q5, rfl, rfl, rfl, h5, r5⟩ := trodAll_cons r4
  obtain ⟨rfl, rfl, rfl⟩ := trodAll_nil r5
  obtain rfl : args = #[v0, v1, v2, v3, v4, v5] := by cases args; simp_all
  obtain ⟨rfl, rfl⟩ := trodVars_none hV
  have hs0 : (d0.weights Tryd.prog 24).all (· ≤ reachBytes) = true := by
    rw [List.all_eq_true]
    intro x hx
    exact List.all_eq_true.1 hsz x (DataW.weights_mem_each (j := 0) (t := 24) (d := d0) rfl rfl x hx)
  obtain ⟨a0, rfl, k0, e0⟩ := Vz.open_val (hval 0 24 v0 rfl rfl) h0 hs0
  have hs1 : (d1.weights Tryd.prog 24).all (· ≤ reachBytes) = true := by
    rw [List.all_eq_true]
    intro x hx
    exact List.all_eq_true.1 hsz x (DataW.weights_mem_each (j := 1) (t := 24) (d := d1) rfl rfl x hx)
  obtain ⟨a1, rfl, k1, e1⟩ := Vz.open_val (hval 1 24 v1 rfl rfl) h1 hs1
  have hs2 : (d2.weights Tryd.prog 24).all (· ≤ reachBytes) = true := by
    rw [List.all_eq_true]
    intro x hx
    exact List.all_eq_true.1 hsz x (DataW.weights_mem_each (j := 2) (t := 24) (d := d2) rfl rfl x hx)
  obtain ⟨a2, rfl, k2, e2⟩ := Vz.open_val (hval 2 24 v2 rfl rfl) h2 hs2
  have hs3 : (d3.weights Tryd.prog 25).all (· ≤ reachBytes) = true := by
    rw [List.all_eq_true]
    intro x hx
    exact List.all_eq_true.1 hsz x (DataW.weights_mem_each (j := 3) (t := 25) (d := d3) rfl rfl x hx)
  obtain ⟨A3, c3, l3, rfl, k3, e3⟩ := Vz.open_vals (hval 3 25 v3 rfl rfl) h3 hs3
  have hs4 : (d4.weights Tryd.prog 25).all (· ≤ reachBytes) = true := by
    rw [List.all_eq_true]
    intro x hx
    exact List.all_eq_true.1 hsz x (DataW.weights_mem_each (j := 4) (t := 25) (d := d4) rfl rfl x hx)
  obtain ⟨A4, c4, l4, rfl, k4, e4⟩ := Vz.open_vals (hval 4 25 v4 rfl rfl) h4 hs4
  have hs5 : (d5.weights Tryd.prog 25).all (· ≤ reachBytes) = true := by
    rw [List.all_eq_true]
    intro x hx
    exact List.all_eq_true.1 hsz x (DataW.weights_mem_each (j := 5) (t := 25) (d := d5) rfl rfl x hx)
  obtain ⟨A5, c5, l5, rfl, k5, e5⟩ := Vz.open_vals (hval 5 25 v5 rfl rfl) h5 hs5
  clear hA0 hval0
  simp only [List.append_nil] at hW'
  refine (walk a0 a1 a2 A3 c3 l3 A4 c4 l4 A5 c5 l5 W k0 k1 k2 k3 k4 k5 (tabs hL)).mono fun e W' ⟨he, hg⟩ => ?_
  subst he
  have hlaid : laidOutB Tryd.prog = true := by kernel_rfl
  exact ⟨_, rfl, _, _, _, [], _, [], hW', trodAll_mk1 (shut_bool Tryd.underlying4 _), (trodAll_cons_mk (Below.trod hlaid (by kernel_rfl : Tryd.prog.readableRec 24 = true) (of_decide_eq_true (by kernel_rfl)) h0 hg (fun x hx => by rw [e0] at hx; cases hx)) (trodAll_cons_mk (Below.trod hlaid (by kernel_rfl : Tryd.prog.readableRec 24 = true) (of_decide_eq_true (by kernel_rfl)) h1 hg (fun x hx => by rw [e1] at hx; cases hx)) (trodAll_cons_mk (Below.trod hlaid (by kernel_rfl : Tryd.prog.readableRec 24 = true) (of_decide_eq_true (by kernel_rfl)) h2 hg (fun x hx => by rw [e2] at hx; cases hx)) (trodAll_cons_mk (Below.trod hlaid (by kernel_rfl : Tryd.prog.readableRec 25 = true) (of_decide_eq_true (by kernel_rfl)) h3 hg e3) (trodAll_cons_mk (Below.trod hlaid (by kernel_rfl : Tryd.prog.readableRec 25 = true) (of_decide_eq_true (by kernel_rfl)) h4 hg e4) (trodAll_cons_mk (Below.trod hlaid (by kernel_rfl : Tryd.prog.readableRec 25 = true) (of_decide_eq_true (by kernel_rfl)) h5 hg e5) trodAll_mk0)))))), rfl, hg.frame _, fun h => by cases h⟩
theorem over : Rows.valueLineRow.holds Tryd.pinned (OpenSpec.ofChange Rows.valueLineSpec) :=
  OpenClaim.holds_of_wide 5 Tryd.f5 rfl rfl rfl rfl rfl rfl rfl ⟨rfl, rfl, rfl, rfl, rfl⟩ rfl rfl rfl rfl rfl (by kernel_rfl) Tryd.func5 (by kernel_rfl)
    (of_decide_eq_true (by kernel_rfl)) (by unfold Func.isWrapper; first | (rw [if_pos (by decide +kernel)]; kernel_rfl) | (rw [if_neg (by decide +kernel)]; exact ⟨rfl, rfl⟩))
    (fun os started H enc _ => lifted os started H enc)
/-- The given statement: the tied card. -/
theorem proved : Rows.ValueLineCardSaid :=
  Claim7.holds_tied_plain_at .later [] [.data, .pinned] true _ false over (fun _ h => by cases h) (by kernel_rfl) (fun _ h => by cases h) valueLine_row_tie rfl ⟨rfl, rfl⟩ (by kernel_rfl) rfl
    (fun f fn hf hfn => by
      obtain rfl : f = 5 := Option.some.inj ((show Tryd.prog.funcNamed "fascicle/fasciclelaw04.ValueLine" = some 5 by kernel_rfl).symm.trans hf) |>.symm
      obtain rfl : fn = Tryd.f5 := (Option.some.inj (Tryd.func5.symm.trans hfn)).symm
      exact ⟨by kernel_rfl, fun j t ht => by
        rw [Tryd.params5] at ht
        have hm : t ∈ [24, 24, 24, 25, 25, 25] := by
          simpa using Array.mem_of_getElem? ht
        have hall : ([24, 24, 24, 25, 25, 25].all fun u => !Tryd.prog.wantsStandIn u) = true := by kernel_rfl
        exact (show Tryd.prog.wantsStandIn t = false by simpa using List.all_eq_true.1 hall t hm)⟩)
    (by kernel_rfl)
end Go.Proofs.YtjkfgchjdhgbgaaDoor.valueLine
