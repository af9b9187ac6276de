/- KeyAfter: what After tells is above all texts that begin so, and no lesser one is (P6.2): for any three texts. Conditions: unicode/utf8 holds its two tables as its own text lays them (tied to the text by the card); no other. -/
import Derived.Test.YtbkaphcipbhmhaaDoorRows
import Derived.Test.YtbkaphcipbhmhaaDoorCards
import Derived.Test.YtbkaphcipbhmhaaDoorTie
import Derived.ProofKit
import Derived.OpenShut
import Derived.Carry
import Derived.SizedLaws
import Derived.LaidMore
import Derived.Lay
import Derived.LaidOnce
import Derived.SevenTiedAt
import Derived.PinnedBridge
import Derived.Test.YtbkaphcipbhmhaaDoorWa6
namespace Go.Proofs.YtbkaphcipbhmhaaDoor.keyAfter
open Go Go.ChangeShapes Go.WideShapes Go.ChangeAt Go.RowKit Go.Proofs.YtbkaphcipbhmhaaDoor
open Go.ChangeMaps (open_string shut_string)
theorem walk (S T M : ByteArray) (W : World) (hS : S.size ≤ 140737488351232) (hT1 : T.size ≤ 140737488351232) (hM : M.size ≤ 140737488351232) (hT : Vs.Tabs W) :
    Calls Tryd.prog 6 #[.string S, .string T, .string M] W fun e w' => e = .returned (.bool true) ∧ Below W.heap.size W w' :=
  Wa6.walk S T M W hT hS hT1 hM
/- The row: from the walk to the given statement. -/
theorem own : ownKnob Tryd.prog.godebug = none := by kernel_rfl
theorem accepts : (Rows.laid_unicode_utf8_acceptRanges : DataW Unit) = Lib.acceptData := by kernel_rfl
theorem tabs {W : World} (hL : laidMetH Tryd.prog Rows.keyAfterRow.laid W) : Vs.Tabs W := by
  rw [MakeChecks.laidMetH_plain _ _ _ (by kernel_rfl)] at hL
  have h4 : Lib.VarReads Tryd.prog W "unicode/utf8.acceptRanges" Lib.acceptData := accepts ▸ Lib.laidMet.reads hL (.head _)
  have h3 : Lib.VarReads Tryd.prog W "unicode/utf8.first" Lib.firstData := Pinned.utf8First_eq ▸ Lib.laidMet.reads hL (.tail _ (.head _))
  exact Vs.tabs_of h3 h4
set_option maxRecDepth 100000 in
theorem lifted (os : Os) (started : os.Started) (H : Type) (enc : TypeId × Value → H) :
    ReturnsInHanded {} Tryd.checked os 6 .any (fun w args => (Rows.keyAfterSpec.pre enc Tryd.prog Tryd.f6 [] false w args ∧ laidMetH Tryd.prog Rows.keyAfterRow.laid w) ∧ sizedMet enc Tryd.prog Tryd.f6 (OpenSpec.ofChange Rows.keyAfterSpec) false w args)
      (Rows.keyAfterSpec.post enc Tryd.prog Tryd.f6 false true false false) := by
  refine returnsInHanded_of_change_and (C := Tryd.checked) (X := fun w _ => laidMetH Tryd.prog Rows.keyAfterRow.laid w) (fun _ _ _ hh h => h.of_heap hh) own started (by kernel_rfl) Tryd.func6
    (ChangeSpec.witness_shaped (enc := enc) (C := Tryd.checked) (os := os) (X := fun w _ => laidMetH Tryd.prog Rows.keyAfterRow.laid w) false (World.laidAll Tryd.prog os Rows.keyAfterRow.laid) #[.string ⟨#[]⟩, .string ⟨#[]⟩, .string ⟨#[]⟩] 8 (World.laidAll_os _ _ _)
      (World.shaped_of_ZipB (by kernel_rfl) (by kernel_rfl)) (by kernel_rfl) (by kernel_rfl) (by kernel_rfl)
      (by rw [MakeChecks.laidMetH_plain _ _ _ (by kernel_rfl)]; exact laidMet_laidAll _ (by kernel_rfl) (by kernel_rfl))) ?_
  intro W base args ds gs before hval0 hW hcnd hsz0 hL _
  have hval : ∀ (j : Nat) t v, Tryd.f6.params[j]? = some t → args[j]? = some v → Value.okWide Tryd.prog W .any base t v := hval0
  have hsz : (DataW.weightsEach Tryd.prog (Tryd.f6.params.toList ++ Rows.keyAfterSpec.plain.varTypes Tryd.prog) (ds ++ gs)).all (· ≤ reachBytes) = true := hsz0
  have hW' := hW
  obtain ⟨p, q, hA0, hV, rfl, hfz, hnd⟩ := hW
  have hA : DataW.TrodAll enc Tryd.prog W 0 (fun _ => true) true Tryd.f6.params.toList args.toList ds p := hA0
  rw [Tryd.params6] at hA hval hsz
  obtain ⟨v0, vs0, d0, ds0, p0, q0, hargs, rfl, rfl, h0, r0⟩ := trodAll_cons hA
  obtain ⟨v1, vs1, d1, ds1, p1, q1, rfl, rfl, rfl, h1, r1⟩ := trodAll_cons r0
  obtain ⟨v2, vs2, d2, ds2, p2, q2, rfl, rfl, rfl, h2, r2⟩ := trodAll_cons r1
  obtain ⟨rfl, rfl, rfl⟩ := trodAll_nil r2
  obtain rfl : args = #[v0, v1, v2] := by cases args; simp_all
  obtain ⟨rfl, rfl⟩ := trodVars_none hV
  have hs0 : (d0.weights Tryd.prog 9).all (· ≤ reachBytes) = true := by
    rw [List.all_eq_true]
    intro x hx
    exact List.all_eq_true.1 hsz x (DataW.weights_mem_each (j := 0) (t := 9) (d := d0) rfl rfl x hx)
  obtain ⟨a0, rfl, rfl, rfl, w0⟩ := open_string Tryd.underlying9 (hval 0 9 v0 rfl rfl) h0
  have k0 : a0.size ≤ 140737488351232 := by
    have h := List.all_eq_true.1 hs0 a0.data.toList.length (by simp [DataW.weights])
    have hr : reachBytes = 140737488351232 := rfl
    simpa [hr] using h
  have hs1 : (d1.weights Tryd.prog 9).all (· ≤ reachBytes) = true := by
    rw [List.all_eq_true]
    intro x hx
    exact List.all_eq_true.1 hsz x (DataW.weights_mem_each (j := 1) (t := 9) (d := d1) rfl rfl x hx)
  obtain ⟨a1, rfl, rfl, rfl, w1⟩ := open_string Tryd.underlying9 (hval 1 9 v1 rfl rfl) h1
  have k1 : a1.size ≤ 140737488351232 := by
    have h := List.all_eq_true.1 hs1 a1.data.toList.length (by simp [DataW.weights])
    have hr : reachBytes = 140737488351232 := rfl
    simpa [hr] using h
  have hs2 : (d2.weights Tryd.prog 9).all (· ≤ reachBytes) = true := by
    rw [List.all_eq_true]
    intro x hx
    exact List.all_eq_true.1 hsz x (DataW.weights_mem_each (j := 2) (t := 9) (d := d2) rfl rfl x hx)
  obtain ⟨a2, rfl, rfl, rfl, w2⟩ := open_string Tryd.underlying9 (hval 2 9 v2 rfl rfl) h2
  have k2 : a2.size ≤ 140737488351232 := by
    have h := List.all_eq_true.1 hs2 a2.data.toList.length (by simp [DataW.weights])
    have hr : reachBytes = 140737488351232 := rfl
    simpa [hr] using h
  clear hA0 hval0
  simp only [List.append_nil] at hW'
  refine (walk a0 a1 a2 W k0 k1 k2 (tabs hL)).mono fun e W' ⟨he, hg⟩ => ?_
  subst he
  exact ⟨_, rfl, _, _, _, [], _, [], hW', trodAll_mk1 (shut_bool Tryd.underlying4 _), (trodAll_cons_mk (shut_string Tryd.underlying9 w0) (trodAll_cons_mk (shut_string Tryd.underlying9 w1) (trodAll_cons_mk (shut_string Tryd.underlying9 w2) trodAll_mk0))), rfl, hg.frame _, fun h => by cases h⟩
theorem over : Rows.keyAfterRow.holds Tryd.pinned (OpenSpec.ofChange Rows.keyAfterSpec) :=
  OpenClaim.holds_of_wide 6 Tryd.f6 rfl rfl rfl rfl rfl rfl rfl ⟨rfl, rfl, rfl, rfl, rfl⟩ rfl rfl rfl rfl rfl (by kernel_rfl) Tryd.func6 (by kernel_rfl)
    (of_decide_eq_true (by kernel_rfl)) (by unfold Func.isWrapper; first | (rw [if_pos (by decide +kernel)]; kernel_rfl) | (rw [if_neg (by decide +kernel)]; exact ⟨rfl, rfl⟩))
    (fun os started H enc _ => lifted os started H enc)
/-- The given statement: the tied card. -/
theorem proved : Rows.KeyAfterCardSaid :=
  Claim7.holds_tied_plain_at .later [] [.data, .pinned] true _ false over (fun _ h => by cases h) (by kernel_rfl) (fun _ h => by cases h) keyAfter_row_tie rfl ⟨rfl, rfl⟩ (by kernel_rfl) rfl
    (fun f fn hf hfn => by
      obtain rfl : f = 6 := Option.some.inj ((show Tryd.prog.funcNamed "fascicle/fasciclelaw06.KeyAfter" = some 6 by kernel_rfl).symm.trans hf) |>.symm
      obtain rfl : fn = Tryd.f6 := (Option.some.inj (Tryd.func6.symm.trans hfn)).symm
      exact ⟨by kernel_rfl, fun j t ht => by
        rw [Tryd.params6] at ht
        have hm : t ∈ [9, 9, 9] := by
          simpa using Array.mem_of_getElem? ht
        have hall : ([9, 9, 9].all fun u => !Tryd.prog.wantsStandIn u) = true := by kernel_rfl
        exact (show Tryd.prog.wantsStandIn t = false by simpa using List.all_eq_true.1 hall t hm)⟩)
    (by kernel_rfl)
end Go.Proofs.YtbkaphcipbhmhaaDoor.keyAfter
