/- The contracts of disk.Rename and disk.Remove. -/
import Derived.Test.YtbjemekkpmbhhaaTr
namespace Go.Proofs.Ytbjemekkpmbhhaa.Rn
open Go Go.RowKit Go.Lib Go.Proofs.Ytbjemekkpmbhhaa.Mp Go.Proofs.Ytbjemekkpmbhhaa.Dh Go.Proofs.Ytbjemekkpmbhhaa.Ext Go.Proofs.Ytbjemekkpmbhhaa.Fm Go.Proofs.Ytbjemekkpmbhhaa.Dk Go.Proofs.Ytbjemekkpmbhhaa.Cl Go.Proofs.Ytbjemekkpmbhhaa.Bu Go.Proofs.Ytbjemekkpmbhhaa.Ch Go.Proofs.Ytbjemekkpmbhhaa.Nm Go.Proofs.Ytbjemekkpmbhhaa.St Go.Proofs.Ytbjemekkpmbhhaa.Ap Go.Proofs.Ytbjemekkpmbhhaa.Tr
theorem two {S : Nat → Prop} {w : World} {p : Nat} {D : St} (h : Full w S p D) (a b : Obj) :
    To S w ((w.alloc a).alloc b) p D ∧ ((w.alloc a).alloc b).heap[w.heap.size]? = some a ∧ ((w.alloc a).alloc b).heap[w.heap.size + 1]? = some b ∧ ((w.alloc a).alloc b).heap.size = w.heap.size + 2 := by
  have h1 := To.alloc h a
  have h2 := h1.trans (To.alloc h1.2 b)
  have e1 := heap_new (w.alloc a) b
  rw [size_alloc] at e1
  refine ⟨h2, ?_, e1, by rw [size_alloc, size_alloc]⟩
  rw [heap_alloc _ _ _ (by rw [size_alloc]; omega)]; exact heap_new w a
theorem pair (j k : ByteArray) : namesErr [j, k] = if nameOk j = false ∨ nameOk k = false then 2 else 0 := by
  rcases hj : nameOk j with _ | _ <;> rcases hk : nameOk k with _ | _ <;> simp [namesErr, hj, hk]
set_option maxHeartbeats 2000000 in
theorem remove_any {S : Nat → Prop} {w : World} {p : Nat} {D : St} (h : Full w S p D) (k : ByteArray) (hk : k.size ≤ maxLen) (hlen : D.loose.length ≤ 1099511627776) :
    Calls Try.prog 54 #[.pointer (some ⟨p, 0, none⟩), .string k] w fun e w' => e = .returned (.int .i64 (stRemove D k).1) ∧ To S w w' p (stRemove D k).2 := by
  obtain ⟨ht, hb1, hb3, _⟩ := two h (cap1 (.string k)) (cap1 (.string k))
  obtain ⟨W, hW⟩ : ∃ W, W = (w.alloc (cap1 (.string k))).alloc (cap1 (.string k)) := ⟨_, rfl⟩
  rw [← hW] at ht hb1 hb3
  obtain ⟨d, g1, g2, g3, g4, g5, g6, g7, g8⟩ := ht.2
  have HTo := Lib.hid ht
  unfold stRemove
  by_cases hst : D.still = true
  · rw [if_pos hst]
    have HR := Lib.hid (ready_still g1 (g7.trans hst) (.slice (some ⟨w.heap.size + 1, 0, none⟩) 1 1))
    rw [hW] at HR HTo
    clear hst g1 g2 g3 g4 g5 g6 g7 g8 ht hb1 hb3 hW h
    go_enter Try.func54, Try.ntmps54
    go_wp2_with (go_at_call 38; refine HR.out.mono ?_; rintro e w1 ⟨rfl, rfl⟩)
    go_ret
    exact ⟨rfl, HTo.out⟩
  have hst' : d.still = false := by rw [g7]; simpa using hst
  rw [if_neg hst]
  have HR0 := ready_names g1 hst' [k] (w.heap.size + 1) 1 (fun i hi => by
    have : i = 0 := by simpa using hi
    subst this; rw [cell_of hb3]; rfl) (by simpa using hk) (by simp)
  rw [single] at HR0
  by_cases hnm : nameOk k = false
  · rw [if_pos hnm]
    rw [hnm] at HR0
    have HR := Lib.hid HR0
    rw [hW] at HR HTo
    clear hst hst' HR0 g1 g2 g3 g4 g5 g6 g7 g8 ht hb1 hb3 hW h hnm
    go_enter Try.func54, Try.ntmps54
    go_wp2_with (go_at_call 38; refine HR.out.mono ?_; rintro e w1 ⟨rfl, rfl⟩)
    go_ret
    exact ⟨rfl, HTo.out⟩
  rw [if_neg hnm]
  have hn' : nameOk k = true := by simpa using hnm
  rw [hn'] at HR0
  have HR := Lib.hid HR0
  have q1 : W.cell? ⟨w.heap.size, 0, none⟩ = some (.string k) := by rw [cell_of hb1]; rfl
  have c1 : W.cell? ⟨p, 1, none⟩ = some (.map (some d.m1)) := DskAt.c g1 1
  have HF := Lib.hid ht.2
  have HDk := Lib.hid g1
  have HNow := Lib.hid g4
  have B1 := Lib.hid hb1
  have HW := Lib.hid hW
  rw [hW] at HR c1 q1 HTo
  clear hst hst' HR0 g1 g2 g3 g4 g5 g6 g7 g8 ht hb1 hb3 hW h hnm hn'
  rcases hg : get D.now k with _ | t
  · have hlook := look_none HDk.out k (by rw [HNow.out]; exact hg)
    rw [HW.out] at hlook
    clear hg
    go_enter Try.func54, Try.ntmps54
    go_wp2_with (go_at_call 38; refine HR.out.mono ?_; rintro e w1 ⟨rfl, rfl⟩)
    go_quiet (fail)
    go_wp2
    go_ret
    exact ⟨rfl, drewN HTo.out _⟩
  · obtain ⟨v, htx, hlook⟩ := look_some HDk.out k t (by rw [HNow.out]; exact hg)
    rw [HW.out] at hlook
    clear hg htx
    have HC := Lib.hid (fun nq => change_full (fullN HF.out nq) (.rem k) (.func (.func 66) #[] #[pt w.heap.size]) .nilFunc
      ⟨w.heap.size, rfl, rfl, ⟨.inr (by rw [HW.out, size_alloc, size_alloc]; omega), B1.out⟩⟩ trivial hlen)
    rw [HW.out] at HC
    go_enter Try.func54, Try.ntmps54
    go_wp2_with (go_at_call 38; refine HR.out.mono ?_; rintro e w1 ⟨rfl, rfl⟩)
    go_quiet (fail)
    go_wp2_with (go_at_call 41; refine (HC.out _).mono ?_; rintro e w1 ⟨rfl, hto⟩; have HTo2 := Lib.hid hto; clear hto)
    go_ret
    exact ⟨rfl, To.trans (drewN HTo.out _) HTo2.out⟩
end Go.Proofs.Ytbjemekkpmbhhaa.Rn
