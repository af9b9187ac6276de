/- The contract of disk.Append. -/
import Derived.Test.YtbjemekkpmbhhaaSt
import Derived.Deep.QuietTactic
import Derived.BigQuiet
namespace Go.Proofs.Ytbjemekkpmbhhaa.Ap
open Go Go.RowKit Go.Lib Go.Proofs.Ytbjemekkpmbhhaa.Mp Go.Proofs.Ytbjemekkpmbhhaa.Dh Go.Proofs.Ytbjemekkpmbhhaa.Fm Go.Proofs.Ytbjemekkpmbhhaa.Dk Go.Proofs.Ytbjemekkpmbhhaa.Cl Go.Proofs.Ytbjemekkpmbhhaa.Bu Go.Proofs.Ytbjemekkpmbhhaa.Ch Go.Proofs.Ytbjemekkpmbhhaa.Nm Go.Proofs.Ytbjemekkpmbhhaa.St
/-- Three blocks of a call's own: two variables that a closure takes, and the row of names. -/
theorem three {S : Nat → Prop} {w : World} {p : Nat} {D : St} (h : Full w S p D) (a b c : Obj) :
    To S w (((w.alloc a).alloc b).alloc c) p D ∧ (((w.alloc a).alloc b).alloc c).heap[w.heap.size]? = some a ∧ (((w.alloc a).alloc b).alloc c).heap[w.heap.size + 1]? = some b ∧
      (((w.alloc a).alloc b).alloc c).heap[w.heap.size + 2]? = some c ∧ (((w.alloc a).alloc b).alloc c).heap.size = w.heap.size + 3 := by
  have h1 := To.alloc h a
  have h2 := h1.trans (To.alloc h1.2 b)
  have h3 := h2.trans (To.alloc h2.2 c)
  have e1 := heap_new (w.alloc a) b
  have e2 := heap_new ((w.alloc a).alloc b) c
  rw [size_alloc] at e1
  rw [size_alloc, size_alloc] at e2
  refine ⟨h3, ?_, ?_, e2, by rw [size_alloc, size_alloc, size_alloc]⟩
  · rw [heap_alloc _ _ _ (by rw [size_alloc, size_alloc]; omega), heap_alloc _ _ _ (by rw [size_alloc]; omega)]; exact heap_new w a
  · rw [heap_alloc _ _ _ (by rw [size_alloc, size_alloc]; omega)]; exact e1
theorem drewN {S : Nat → Prop} {w w1 : World} {p : Nat} {D : St} (h : To S w w1 p D) (n : Nat) : To S w (w1.drewN n) p D := ⟨⟨h.1.os, h.1.tape, h.1.output, h.1.size, h.1.block⟩, Full.frame h.2 fun _ _ _ => rfl⟩
theorem fullN {S : Nat → Prop} {w : World} {p : Nat} {D : St} (h : Full w S p D) (n : Nat) : Full (w.drewN n) S p D := Full.frame h fun _ _ _ => rfl
theorem single (k : ByteArray) : namesErr [k] = if nameOk k then 0 else 2 := by simp [namesErr]
set_option maxHeartbeats 2000000 in
theorem append_any {S : Nat → Prop} {w : World} {p : Nat} {D : St} (h : Full w S p D) (k s : ByteArray) (hk : k.size ≤ maxLen) (hs : s.size ≤ 1099511627776) (hlen : D.loose.length ≤ 1099511627776) :
    Calls Try.prog 31 #[.pointer (some ⟨p, 0, none⟩), .string k, .string s] w fun e w' => e = .returned (.int .i64 (stAppend D k s).1) ∧ To S w w' p (stAppend D k s).2 := by
  obtain ⟨ht, hb1, hb2, hb3, _⟩ := three h (cap1 (.string k)) (cap1 (.string s)) (cap1 (.string k))
  obtain ⟨W, hW⟩ : ∃ W, W = ((w.alloc (cap1 (.string k))).alloc (cap1 (.string s))).alloc (cap1 (.string k)) := ⟨_, rfl⟩
  rw [← hW] at ht hb1 hb2 hb3
  obtain ⟨d, g1, g2, g3, g4, g5, g6, g7, g8⟩ := ht.2
  have HTo := Lib.hid ht
  unfold stAppend
  by_cases hst : D.still = true
  · rw [if_pos hst]
    have HR := Lib.hid (ready_still g1 (g7.trans hst) (.slice (some ⟨w.heap.size + 2, 0, none⟩) 1 1))
    rw [hW] at HR HTo
    clear hst g1 g2 g3 g4 g5 g6 g7 g8 ht hb1 hb2 hb3 hW h
    go_enter Try.func31, Try.ntmps31
    go_wp2_with (go_at_call 38; refine HR.out.mono ?_; rintro e w1 ⟨rfl, rfl⟩)
    go_ret
    exact ⟨rfl, HTo.out⟩
  · have hst' : d.still = false := by rw [g7]; simpa using hst
    rw [if_neg hst]
    have HR0 := ready_names g1 hst' [k] (w.heap.size + 2) 1 (fun i hi => by
      have : i = 0 := by simpa using hi
      subst this; rw [cell_of hb3]; rfl) (by simpa using hk) (by simp)
    rw [single] at HR0
    by_cases hn : nameOk k = false
    · rw [if_pos hn]
      rw [hn] at HR0
      have HR := Lib.hid HR0
      rw [hW] at HR HTo
      clear hst hst' HR0 g1 g2 g3 g4 g5 g6 g7 g8 ht hb1 hb2 hb3 hW h hn
      go_enter Try.func31, Try.ntmps31
      go_wp2_with (go_at_call 38; refine HR.out.mono ?_; rintro e w1 ⟨rfl, rfl⟩)
      go_ret
      exact ⟨rfl, HTo.out⟩
    · rw [if_neg hn]
      have hn' : nameOk k = true := by simpa using hn
      rw [hn'] at HR0
      have HR := Lib.hid HR0
      have c0 : W.cell? ⟨p, 0, none⟩ = some (.int .i64 D.room) := by rw [← g3]; exact DskAt.c g1 0
      have c2 : W.cell? ⟨p, 2, none⟩ = some (.int .i64 (used D.now)) := by rw [← g4]; exact DskAt.c g1 2
      have q2 : W.cell? ⟨w.heap.size + 1, 0, none⟩ = some (.string s) := by rw [cell_of hb2]; rfl
      have hu := g8.now
      have hr1 := g8.room.1
      have hr2 := g8.room.2
      have HF := Lib.hid ht.2
      have HG := Lib.hid g8
      have B1 := Lib.hid hb1
      have B2 := Lib.hid hb2
      have HW := Lib.hid hW
      rw [hW] at HR c0 c2 q2
      clear hst hst' HR0 g1 g2 g3 g4 g5 g6 g7 g8 ht hb1 hb2 hb3 hW h hn hn'
      have hdl : s.data.toList.length = s.size := by simp
      by_cases hz : s.size = 0
      · have hz' : s.toList.isEmpty = true := by
          rw [ByteArray.toList_eq]
          have : s.data.toList = [] := List.eq_nil_of_length_eq_zero (by rw [hdl]; exact hz)
          rw [this]; rfl
        rw [if_neg (fun hx => hx.1 hz)]
        have hok : Cmd.ok D.now (.app k s) := by show used D.now + s.size ≤ 16777216; omega
        have HC := Lib.hid (fun nq => change_full (fullN HF.out nq) (.app k s) (.func (.func 50) #[] #[pt w.heap.size, pt (w.heap.size + 1)]) (.func (.func 52) #[] #[pt w.heap.size, pt (w.heap.size + 1)])
          ⟨w.heap.size, w.heap.size + 1, rfl, rfl, ⟨.inr (by rw [HW.out, size_alloc, size_alloc, size_alloc]; omega), B1.out⟩, ⟨.inr (by rw [HW.out, size_alloc, size_alloc, size_alloc]; omega), B2.out⟩⟩ hok hlen)
        rw [HW.out] at HC
        rw [HW.out] at HTo
        clear hok hz
        go_enter Try.func31, Try.ntmps31
        go_wp2_with (go_at_call 38; refine HR.out.mono ?_; rintro e w1 ⟨rfl, rfl⟩)
        go_quiet (fail)
        go_wp2_with (go_at_call 41; refine (HC.out _).mono ?_; rintro e w1 ⟨rfl, hto⟩; have HTo2 := Lib.hid hto; clear hto)
        go_ret
        exact ⟨rfl, To.trans (drewN HTo.out _) HTo2.out⟩
      · have hz' : s.toList.isEmpty = false := by
          rw [ByteArray.toList_eq]
          rcases he : s.data.toList with _ | _
          · rw [he] at hdl; simp at hdl; omega
          · rfl
        by_cases hfull : D.room < used D.now + s.size
        · rw [if_pos ⟨hz, hfull⟩]
          go_enter Try.func31, Try.ntmps31
          go_wp2_with (go_at_call 38; refine HR.out.mono ?_; rintro e w1 ⟨rfl, rfl⟩)
          go_quiet (fail)
          go_wp2
          go_ret
          exact ⟨rfl, drewN (HW.out ▸ HTo.out) _⟩
        · rw [if_neg (fun hx => hfull hx.2)]
          have hok : Cmd.ok D.now (.app k s) := by show used D.now + s.size ≤ 16777216; omega
          have HC := Lib.hid (fun nq => change_full (fullN HF.out nq) (.app k s) (.func (.func 50) #[] #[pt w.heap.size, pt (w.heap.size + 1)]) (.func (.func 52) #[] #[pt w.heap.size, pt (w.heap.size + 1)])
            ⟨w.heap.size, w.heap.size + 1, rfl, rfl, ⟨.inr (by rw [HW.out, size_alloc, size_alloc, size_alloc]; omega), B1.out⟩, ⟨.inr (by rw [HW.out, size_alloc, size_alloc, size_alloc]; omega), B2.out⟩⟩ hok hlen)
          rw [HW.out] at HC
          rw [HW.out] at HTo
          clear hok hz
          go_enter Try.func31, Try.ntmps31
          go_wp2_with (go_at_call 38; refine HR.out.mono ?_; rintro e w1 ⟨rfl, rfl⟩)
          go_quiet (fail)
          go_wp2_with (go_at_call 41; refine (HC.out _).mono ?_; rintro e w1 ⟨rfl, hto⟩; have HTo2 := Lib.hid hto; clear hto)
          go_ret
          exact ⟨rfl, To.trans (drewN HTo.out _) HTo2.out⟩
end Go.Proofs.Ytbjemekkpmbhhaa.Ap
