/- The contract of disk.Truncate. -/
import Derived.Test.YtbjemekkpmbhhaaAp
namespace Go.Proofs.Ytbjemekkpmbhhaa.Tr
open Go Go.RowKit Go.Lib Go.Proofs.Ytbjemekkpmbhhaa.Mp Go.Proofs.Ytbjemekkpmbhhaa.Dh Go.Proofs.Ytbjemekkpmbhhaa.Ext Go.Proofs.Ytbjemekkpmbhhaa.Fm Go.Proofs.Ytbjemekkpmbhhaa.Dk Go.Proofs.Ytbjemekkpmbhhaa.Cl Go.Proofs.Ytbjemekkpmbhhaa.Bu Go.Proofs.Ytbjemekkpmbhhaa.Ch Go.Proofs.Ytbjemekkpmbhhaa.Nm Go.Proofs.Ytbjemekkpmbhhaa.St Go.Proofs.Ytbjemekkpmbhhaa.Ap
/-- A file looked up in a disk, wherever draws have gone. -/
theorem look {S : Nat → Prop} {w : World} {p : Nat} {d : Dsk} (h : DskAt w S p d) (k : ByteArray) (n : Nat) :
    (Instr.lookup 43 (.map (some d.m1)) (.string k) true).run Try.prog (w.drewN n) = .ok (.tuple #[((find d.es1 k).map Ent.val).getD (.slice none 0 0), .bool (find d.es1 k).isSome]) (w.drewN n) :=
  run_lookup_ok (w.drewN n) _ _ _ isStr _ zeroV d.m1 d.es1 d.c1 h.now.2 k
theorem look_some {S : Nat → Prop} {w : World} {p : Nat} {d : Dsk} (h : DskAt w S p d) (k : ByteArray) (t : List UInt8) (hg : get (view d.es1) k = some t) :
    ∃ v, TextAt w S v t ∧ ∀ n, (Instr.lookup 43 (.map (some d.m1)) (.string k) true).run Try.prog (w.drewN n) = .ok (.tuple #[v, .bool true]) (w.drewN n) := by
  rw [get_view] at hg
  rcases hf : find d.es1 k with _ | e
  · rw [hf] at hg; cases hg
  · rw [hf] at hg
    simp only [Option.map_some, Option.some.injEq] at hg
    subst hg
    refine ⟨e.val, h.texts.1 e (List.mem_append_left _ (find_key k _ e hf).2), fun n => ?_⟩
    rw [look h k n, hf]; rfl
theorem look_none {S : Nat → Prop} {w : World} {p : Nat} {d : Dsk} (h : DskAt w S p d) (k : ByteArray) (hg : get (view d.es1) k = none) :
    ∀ n, (Instr.lookup 43 (.map (some d.m1)) (.string k) true).run Try.prog (w.drewN n) = .ok (.tuple #[.slice none 0 0, .bool false]) (w.drewN n) := by
  rw [get_view] at hg
  rcases hf : find d.es1 k with _ | e
  · intro n; rw [look h k n, hf]; rfl
  · rw [hf] at hg; cases hg
set_option maxHeartbeats 2000000 in
theorem truncate_any {S : Nat → Prop} {w : World} {p : Nat} {D : St} (h : Full w S p D) (k : ByteArray) (n : Int) (hk : k.size ≤ maxLen) (hn : -9223372036854775808 ≤ n ∧ n ≤ 9223372036854775807) (hlen : D.loose.length ≤ 1099511627776) :
    Calls Try.prog 24 #[.pointer (some ⟨p, 0, none⟩), .string k, .int .i64 n] w fun e w' => e = .returned (.int .i64 (stTruncate D k n).1) ∧ To S w w' p (stTruncate D k n).2 := by
  obtain ⟨ht, hb1, hb2, hb3, _⟩ := three h (cap1 (.string k)) (capn (.int .i64 n)) (cap1 (.string k))
  obtain ⟨W, hW⟩ : ∃ W, W = ((w.alloc (cap1 (.string k))).alloc (capn (.int .i64 n))).alloc (cap1 (.string k)) := ⟨_, rfl⟩
  rw [← hW] at ht hb1 hb2 hb3
  obtain ⟨d, g1, g2, g3, g4, g5, g6, g7, g8⟩ := ht.2
  have HTo := Lib.hid ht
  have hn1 := hn.1
  have hn2 := hn.2
  unfold stTruncate
  by_cases hst : D.still = true
  · rw [if_pos hst]
    have HR := Lib.hid (ready_still g1 (g7.trans hst) (.slice (some ⟨w.heap.size + 2, 0, none⟩) 1 1))
    rw [hW] at HR HTo
    clear hst g1 g2 g3 g4 g5 g6 g7 g8 ht hb1 hb2 hb3 hW h hn
    go_enter Try.func24, Try.ntmps24
    go_wp2_with (go_at_call 38; refine HR.out.mono ?_; rintro e w1 ⟨rfl, rfl⟩)
    go_ret
    exact ⟨rfl, HTo.out⟩
  have hst' : d.still = false := by rw [g7]; simpa using hst
  rw [if_neg hst]
  have HR0 := ready_names g1 hst' [k] (w.heap.size + 2) 1 (fun i hi => by
    have : i = 0 := by simpa using hi
    subst this; rw [cell_of hb3]; rfl) (by simpa using hk) (by simp)
  rw [single] at HR0
  by_cases hnm : nameOk k = false
  · rw [if_pos hnm]
    rw [hnm] at HR0
    have HR := Lib.hid HR0
    rw [hW] at HR HTo
    clear hst hst' HR0 g1 g2 g3 g4 g5 g6 g7 g8 ht hb1 hb2 hb3 hW h hnm hn
    go_enter Try.func24, Try.ntmps24
    go_wp2_with (go_at_call 38; refine HR.out.mono ?_; rintro e w1 ⟨rfl, rfl⟩)
    go_ret
    exact ⟨rfl, HTo.out⟩
  rw [if_neg hnm]
  have hn' : nameOk k = true := by simpa using hnm
  rw [hn'] at HR0
  have HR := Lib.hid HR0
  have q2 : W.cell? ⟨w.heap.size + 1, 0, none⟩ = some (.int .i64 n) := by rw [cell_of hb2]; rfl
  have q1 : W.cell? ⟨w.heap.size, 0, none⟩ = some (.string k) := by rw [cell_of hb1]; rfl
  have c1 : W.cell? ⟨p, 1, none⟩ = some (.map (some d.m1)) := DskAt.c g1 1
  have HF := Lib.hid ht.2
  have HG := Lib.hid g8
  have HDk := Lib.hid g1
  have HNow := Lib.hid g4
  have B1 := Lib.hid hb1
  have B2 := Lib.hid hb2
  have HW := Lib.hid hW
  rw [hW] at HR c1 q2 q1 HTo
  clear hst hst' HR0 g1 g2 g3 g4 g5 g6 g7 g8 ht hb1 hb2 hb3 hW h hnm hn' hn
  by_cases hneg : n < 0
  · rw [if_pos hneg]
    go_enter Try.func24, Try.ntmps24
    go_wp2_with (go_at_call 38; refine HR.out.mono ?_; rintro e w1 ⟨rfl, rfl⟩)
    go_ret
    exact ⟨rfl, HTo.out⟩
  rw [if_neg hneg]
  rcases hg : get D.now k with _ | t
  · have hlook := look_none HDk.out k (by rw [HNow.out]; exact hg)
    rw [HW.out] at hlook
    clear hg
    go_enter Try.func24, Try.ntmps24
    go_wp2_with (go_at_call 38; refine HR.out.mono ?_; rintro e w1 ⟨rfl, rfl⟩)
    go_quiet (fail)
    go_wp2
    go_ret
    exact ⟨rfl, drewN HTo.out _⟩
  · obtain ⟨v, htx, hlook⟩ := look_some HDk.out k t (by rw [HNow.out]; exact hg)
    obtain ⟨a, cp, rfl, hl1, hl2⟩ := htx.len
    rw [HW.out] at hlook
    unfold maxLen at hl2
    have HGt := Lib.hid hg
    clear hg htx
    show Calls _ _ _ _ fun e w' => e = .returned (.int .i64 (if (t.length : Int) < n then (2, D) else doing D (.cut k n.toNat)).1) ∧ To S w w' p (if (t.length : Int) < n then (2, D) else doing D (.cut k n.toNat)).2
    by_cases hlt : (t.length : Int) < n
    · rw [if_pos hlt]
      go_enter Try.func24, Try.ntmps24
      go_wp2_with (go_at_call 38; refine HR.out.mono ?_; rintro e w1 ⟨rfl, rfl⟩)
      go_quiet (fail)
      go_wp2
      go_ret
      exact ⟨rfl, drewN HTo.out _⟩
    · rw [if_neg hlt]
      have HC := Lib.hid (fun nq => change_full (fullN HF.out nq) (.cut k n.toNat) (.func (.func 42) #[] #[pt w.heap.size, pt (w.heap.size + 1)]) .nilFunc
        ⟨w.heap.size, w.heap.size + 1, rfl, rfl, ⟨.inr (by rw [HW.out, size_alloc, size_alloc, size_alloc]; omega), B1.out⟩, ⟨.inr (by rw [HW.out, size_alloc, size_alloc, size_alloc]; omega), by
          have e : ((n.toNat : Nat) : Int) = n := by omega
          rw [e]; exact B2.out⟩⟩ (by
          show n.toNat ≤ (txt D.now k).length
          unfold txt; rw [HGt.out]; show n.toNat ≤ t.length; omega) hlen)
      rw [HW.out] at HC
      go_enter Try.func24, Try.ntmps24
      go_wp2_with (go_at_call 38; refine HR.out.mono ?_; rintro e w1 ⟨rfl, rfl⟩)
      go_quiet (fail)
      go_wp2_with (go_at_call 41; refine (HC.out _).mono ?_; rintro e w1 ⟨rfl, hto⟩; have HTo2 := Lib.hid hto; clear hto)
      go_ret
      exact ⟨rfl, To.trans (drewN HTo.out _) HTo2.out⟩
end Go.Proofs.Ytbjemekkpmbhhaa.Tr
