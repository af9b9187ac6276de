/- The contract of disk.Append. The contract of disk.Truncate. The contracts of disk.Rename and disk.Remove. The contracts of disk.Sync, Fuse, Used, Loose and Crash. A disk behind a clone of its sure files. The contract of disk.Crash. The contract of disk.Crash, for every disk. The contract of disk.Read. The contract of disk.Read, with the world that it leaves. The contract of disk.New, where the room may be. -/
import Derived.Test.YtaoneiicoaiehaaGreatDb1
import Derived.Deep.QuietTactic
import Derived.BigQuiet
import Derived.Maps.OwnOps
namespace Go.Proofs.YtaoneiicoaiehaaGreat.Ap
set_option maxRecDepth 100000
open Go Go.RowKit Go.Lib Go.Proofs.YtaoneiicoaiehaaGreat.Mp Go.Proofs.YtaoneiicoaiehaaGreat.Dh Go.Proofs.YtaoneiicoaiehaaGreat.Fm Go.Proofs.YtaoneiicoaiehaaGreat.Dk Go.Proofs.YtaoneiicoaiehaaGreat.Cl Go.Proofs.YtaoneiicoaiehaaGreat.Bu Go.Proofs.YtaoneiicoaiehaaGreat.Ch Go.Proofs.YtaoneiicoaiehaaGreat.Nm Go.Proofs.YtaoneiicoaiehaaGreat.St
/-- Three blocks of a call's own: two variables that a closure takes, and the row of names. -/
theorem three {S : Nat → Prop} {w : World} {p : Nat} {D : St} (h : Full w S p D) (a b c : Obj) :
    To S w (((w.alloc a).alloc b).alloc c) p D ∧ (((w.alloc a).alloc b).alloc c).heap[w.heap.size]? = some a ∧ (((w.alloc a).alloc b).alloc c).heap[w.heap.size + 1]? = some b ∧
      (((w.alloc a).alloc b).alloc c).heap[w.heap.size + 2]? = some c ∧ (((w.alloc a).alloc b).alloc c).heap.size = w.heap.size + 3 := by
  have h1 := To.alloc h a
  have h2 := h1.trans (To.alloc h1.2 b)
  have h3 := h2.trans (To.alloc h2.2 c)
  have e1 := heap_new (w.alloc a) b
  have e2 := heap_new ((w.alloc a).alloc b) c
  rw [size_alloc] at e1
  rw [size_alloc, size_alloc] at e2
  refine ⟨h3, ?_, ?_, e2, by rw [size_alloc, size_alloc, size_alloc]⟩
  · rw [heap_alloc _ _ _ (by rw [size_alloc, size_alloc]; omega), heap_alloc _ _ _ (by rw [size_alloc]; omega)]; exact heap_new w a
  · rw [heap_alloc _ _ _ (by rw [size_alloc, size_alloc]; omega)]; exact e1
theorem drewN {S : Nat → Prop} {w w1 : World} {p : Nat} {D : St} (h : To S w w1 p D) (n : Nat) : To S w (w1.drewN n) p D := ⟨⟨h.1.os, h.1.tape, h.1.output, h.1.size, h.1.block⟩, Full.frame h.2 fun _ _ _ => rfl⟩
theorem fullN {S : Nat → Prop} {w : World} {p : Nat} {D : St} (h : Full w S p D) (n : Nat) : Full (w.drewN n) S p D := Full.frame h fun _ _ _ => rfl
theorem single (k : ByteArray) : namesErr [k] = if nameOk k then 0 else 2 := by simp [namesErr]
set_option maxHeartbeats 2000000 in
theorem append_any {S : Nat → Prop} {w : World} {p : Nat} {D : St} (h : Full w S p D) (k s : ByteArray) (hk : k.size ≤ maxLen) (hs : s.size ≤ 1099511627776) (hlen : D.loose.length ≤ 1099511627776) :
    Calls Tryz.prog 26 #[.pointer (some ⟨p, 0, none⟩), .string k, .string s] w fun e w' => e = .returned (.int .i64 (stAppend D k s).1) ∧ To S w w' p (stAppend D k s).2 := by
  obtain ⟨ht, hb1, hb2, hb3, _⟩ := three h (cap1 (.string k)) (cap1 (.string s)) (cap1 (.string k))
  obtain ⟨W, hW⟩ : ∃ W, W = ((w.alloc (cap1 (.string k))).alloc (cap1 (.string s))).alloc (cap1 (.string k)) := ⟨_, rfl⟩
  rw [← hW] at ht hb1 hb2 hb3
  obtain ⟨d, g1, g2, g3, g4, g5, g6, g7, g8⟩ := ht.2
  have HTo := Lib.hid ht
  unfold stAppend
  by_cases hst : D.still = true
  · rw [if_pos hst]
    have HR := Lib.hid (ready_still g1 (g7.trans hst) (.slice (some ⟨w.heap.size + 2, 0, none⟩) 1 1))
    rw [hW] at HR HTo
    clear hst g1 g2 g3 g4 g5 g6 g7 g8 ht hb1 hb2 hb3 hW h
    go_enter Tryz.func26, Tryz.ntmps26
    go_wp2_with (go_at_call 48; refine HR.out.mono ?_; rintro e w1 ⟨rfl, rfl⟩)
    go_ret
    exact ⟨rfl, HTo.out⟩
  · have hst' : d.still = false := by rw [g7]; simpa using hst
    rw [if_neg hst]
    have HR0 := ready_names g1 hst' [k] (w.heap.size + 2) 1 (fun i hi => by
      have : i = 0 := by simpa using hi
      subst this; rw [cell_of hb3]; rfl) (by simpa using hk) (by simp)
    rw [single] at HR0
    by_cases hn : nameOk k = false
    · rw [if_pos hn]
      rw [hn] at HR0
      have HR := Lib.hid HR0
      rw [hW] at HR HTo
      clear hst hst' HR0 g1 g2 g3 g4 g5 g6 g7 g8 ht hb1 hb2 hb3 hW h hn
      go_enter Tryz.func26, Tryz.ntmps26
      go_wp2_with (go_at_call 48; refine HR.out.mono ?_; rintro e w1 ⟨rfl, rfl⟩)
      go_ret
      exact ⟨rfl, HTo.out⟩
    · rw [if_neg hn]
      have hn' : nameOk k = true := by simpa using hn
      rw [hn'] at HR0
      have HR := Lib.hid HR0
      have c0 : W.cell? ⟨p, 0, none⟩ = some (.int .i64 D.room) := by rw [← g3]; exact DskAt.c g1 0
      have c2 : W.cell? ⟨p, 2, none⟩ = some (.int .i64 (used D.now)) := by rw [← g4]; exact DskAt.c g1 2
      have q2 : W.cell? ⟨w.heap.size + 1, 0, none⟩ = some (.string s) := by rw [cell_of hb2]; rfl
      have hu := g8.now
      have hr1 := g8.room.1
      have hr2 := g8.room.2
      have HF := Lib.hid ht.2
      have HG := Lib.hid g8
      have B1 := Lib.hid hb1
      have B2 := Lib.hid hb2
      have HW := Lib.hid hW
      rw [hW] at HR c0 c2 q2
      clear hst hst' HR0 g1 g2 g3 g4 g5 g6 g7 g8 ht hb1 hb2 hb3 hW h hn hn'
      have hdl : s.data.toList.length = s.size := by simp
      by_cases hz : s.size = 0
      · have hz' : s.toList.isEmpty = true := by
          rw [ByteArray.toList_eq]
          have : s.data.toList = [] := List.eq_nil_of_length_eq_zero (by rw [hdl]; exact hz)
          rw [this]; rfl
        rw [if_neg (fun hx => hx.1 hz)]
        have hok : Cmd.ok D.now (.app k s) := by show used D.now + s.size ≤ 16777216; omega
        have HC := Lib.hid (fun nq => change_full (fullN HF.out nq) (.app k s) (.func (.func 50) #[] #[pt w.heap.size, pt (w.heap.size + 1)]) (.func (.func 52) #[] #[pt w.heap.size, pt (w.heap.size + 1)])
          ⟨w.heap.size, w.heap.size + 1, rfl, rfl, ⟨.inr (by rw [HW.out, size_alloc, size_alloc, size_alloc]; omega), B1.out⟩, ⟨.inr (by rw [HW.out, size_alloc, size_alloc, size_alloc]; omega), B2.out⟩⟩ hok hlen)
        rw [HW.out] at HC
        rw [HW.out] at HTo
        clear hok hz
        go_enter Tryz.func26, Tryz.ntmps26
        go_wp2_with (go_at_call 48; refine HR.out.mono ?_; rintro e w1 ⟨rfl, rfl⟩)
        go_quiet (fail)
        go_wp2_with (go_at_call 49; refine (HC.out _).mono ?_; rintro e w1 ⟨rfl, hto⟩; have HTo2 := Lib.hid hto; clear hto)
        go_ret
        exact ⟨rfl, To.trans (drewN HTo.out _) HTo2.out⟩
      · have hz' : s.toList.isEmpty = false := by
          rw [ByteArray.toList_eq]
          rcases he : s.data.toList with _ | _
          · rw [he] at hdl; simp at hdl; omega
          · rfl
        by_cases hfull : D.room < used D.now + s.size
        · rw [if_pos ⟨hz, hfull⟩]
          go_enter Tryz.func26, Tryz.ntmps26
          go_wp2_with (go_at_call 48; refine HR.out.mono ?_; rintro e w1 ⟨rfl, rfl⟩)
          go_quiet (fail)
          go_wp2
          go_ret
          exact ⟨rfl, drewN (HW.out ▸ HTo.out) _⟩
        · rw [if_neg (fun hx => hfull hx.2)]
          have hok : Cmd.ok D.now (.app k s) := by show used D.now + s.size ≤ 16777216; omega
          have HC := Lib.hid (fun nq => change_full (fullN HF.out nq) (.app k s) (.func (.func 50) #[] #[pt w.heap.size, pt (w.heap.size + 1)]) (.func (.func 52) #[] #[pt w.heap.size, pt (w.heap.size + 1)])
            ⟨w.heap.size, w.heap.size + 1, rfl, rfl, ⟨.inr (by rw [HW.out, size_alloc, size_alloc, size_alloc]; omega), B1.out⟩, ⟨.inr (by rw [HW.out, size_alloc, size_alloc, size_alloc]; omega), B2.out⟩⟩ hok hlen)
          rw [HW.out] at HC
          rw [HW.out] at HTo
          clear hok hz
          go_enter Tryz.func26, Tryz.ntmps26
          go_wp2_with (go_at_call 48; refine HR.out.mono ?_; rintro e w1 ⟨rfl, rfl⟩)
          go_quiet (fail)
          go_wp2_with (go_at_call 49; refine (HC.out _).mono ?_; rintro e w1 ⟨rfl, hto⟩; have HTo2 := Lib.hid hto; clear hto)
          go_ret
          exact ⟨rfl, To.trans (drewN HTo.out _) HTo2.out⟩
end Go.Proofs.YtaoneiicoaiehaaGreat.Ap
namespace Go.Proofs.YtaoneiicoaiehaaGreat.Tr
set_option maxRecDepth 100000
open Go Go.RowKit Go.Lib Go.Proofs.YtaoneiicoaiehaaGreat.Mp Go.Proofs.YtaoneiicoaiehaaGreat.Dh Go.Proofs.YtaoneiicoaiehaaGreat.Ext Go.Proofs.YtaoneiicoaiehaaGreat.Fm Go.Proofs.YtaoneiicoaiehaaGreat.Dk Go.Proofs.YtaoneiicoaiehaaGreat.Cl Go.Proofs.YtaoneiicoaiehaaGreat.Bu Go.Proofs.YtaoneiicoaiehaaGreat.Ch Go.Proofs.YtaoneiicoaiehaaGreat.Nm Go.Proofs.YtaoneiicoaiehaaGreat.St Go.Proofs.YtaoneiicoaiehaaGreat.Ap
/-- A file looked up in a disk, wherever draws have gone. -/
theorem look {S : Nat → Prop} {w : World} {p : Nat} {d : Dsk} (h : DskAt w S p d) (k : ByteArray) (n : Nat) :
    (Instr.lookup 55 (.map (some d.m1)) (.string k) true).run Tryz.prog (w.drewN n) = .ok (.tuple #[((find d.es1 k).map Ent.val).getD (.slice none 0 0), .bool (find d.es1 k).isSome]) (w.drewN n) :=
  run_lookup_ok (w.drewN n) _ _ _ isStr _ zeroV d.m1 d.es1 d.c1 h.now.2 k
theorem look_some {S : Nat → Prop} {w : World} {p : Nat} {d : Dsk} (h : DskAt w S p d) (k : ByteArray) (t : List UInt8) (hg : get (view d.es1) k = some t) :
    ∃ v, TextAt w S v t ∧ ∀ n, (Instr.lookup 55 (.map (some d.m1)) (.string k) true).run Tryz.prog (w.drewN n) = .ok (.tuple #[v, .bool true]) (w.drewN n) := by
  rw [get_view] at hg
  rcases hf : find d.es1 k with _ | e
  · rw [hf] at hg; cases hg
  · rw [hf] at hg
    simp only [Option.map_some, Option.some.injEq] at hg
    subst hg
    refine ⟨e.val, h.texts.1 e (List.mem_append_left _ (find_key k _ e hf).2), fun n => ?_⟩
    rw [look h k n, hf]; rfl
theorem look_none {S : Nat → Prop} {w : World} {p : Nat} {d : Dsk} (h : DskAt w S p d) (k : ByteArray) (hg : get (view d.es1) k = none) :
    ∀ n, (Instr.lookup 55 (.map (some d.m1)) (.string k) true).run Tryz.prog (w.drewN n) = .ok (.tuple #[.slice none 0 0, .bool false]) (w.drewN n) := by
  rw [get_view] at hg
  rcases hf : find d.es1 k with _ | e
  · intro n; rw [look h k n, hf]; rfl
  · rw [hf] at hg; cases hg
end Go.Proofs.YtaoneiicoaiehaaGreat.Tr

namespace Go.Proofs.YtaoneiicoaiehaaGreat.Rn
set_option maxRecDepth 100000
open Go Go.RowKit Go.Lib Go.Proofs.YtaoneiicoaiehaaGreat.Mp Go.Proofs.YtaoneiicoaiehaaGreat.Dh Go.Proofs.YtaoneiicoaiehaaGreat.Ext Go.Proofs.YtaoneiicoaiehaaGreat.Fm Go.Proofs.YtaoneiicoaiehaaGreat.Dk Go.Proofs.YtaoneiicoaiehaaGreat.Cl Go.Proofs.YtaoneiicoaiehaaGreat.Bu Go.Proofs.YtaoneiicoaiehaaGreat.Ch Go.Proofs.YtaoneiicoaiehaaGreat.Nm Go.Proofs.YtaoneiicoaiehaaGreat.St Go.Proofs.YtaoneiicoaiehaaGreat.Ap Go.Proofs.YtaoneiicoaiehaaGreat.Tr
theorem two {S : Nat → Prop} {w : World} {p : Nat} {D : St} (h : Full w S p D) (a b : Obj) :
    To S w ((w.alloc a).alloc b) p D ∧ ((w.alloc a).alloc b).heap[w.heap.size]? = some a ∧ ((w.alloc a).alloc b).heap[w.heap.size + 1]? = some b ∧ ((w.alloc a).alloc b).heap.size = w.heap.size + 2 := by
  have h1 := To.alloc h a
  have h2 := h1.trans (To.alloc h1.2 b)
  have e1 := heap_new (w.alloc a) b
  rw [size_alloc] at e1
  refine ⟨h2, ?_, e1, by rw [size_alloc, size_alloc]⟩
  rw [heap_alloc _ _ _ (by rw [size_alloc]; omega)]; exact heap_new w a
theorem pair (j k : ByteArray) : namesErr [j, k] = if nameOk j = false ∨ nameOk k = false then 2 else 0 := by
  rcases hj : nameOk j with _ | _ <;> rcases hk : nameOk k with _ | _ <;> simp [namesErr, hj, hk]
set_option maxHeartbeats 2000000 in
theorem rename_any {S : Nat → Prop} {w : World} {p : Nat} {D : St} (h : Full w S p D) (j k : ByteArray) (hj : j.size ≤ maxLen) (hk : k.size ≤ maxLen) (hlen : D.loose.length ≤ 1099511627776) :
    Calls Tryz.prog 37 #[.pointer (some ⟨p, 0, none⟩), .string j, .string k] w fun e w' => e = .returned (.int .i64 (stRename D j k).1) ∧ To S w w' p (stRename D j k).2 := by
  obtain ⟨ht, hb1, hb2, hb3, _⟩ := three h (cap1 (.string j)) (cap1 (.string k)) (.cells #[.string j, .string k] 9 (0, 0))
  obtain ⟨W, hW⟩ : ∃ W, W = ((w.alloc (cap1 (.string j))).alloc (cap1 (.string k))).alloc (.cells #[.string j, .string k] 9 (0, 0)) := ⟨_, rfl⟩
  rw [← hW] at ht hb1 hb2 hb3
  obtain ⟨d, g1, g2, g3, g4, g5, g6, g7, g8⟩ := ht.2
  have HTo := Lib.hid ht
  unfold stRename
  by_cases hst : D.still = true
  · rw [if_pos hst]
    have HR := Lib.hid (ready_still g1 (g7.trans hst) (.slice (some ⟨w.heap.size + 2, 0, none⟩) 2 2))
    rw [hW] at HR HTo
    clear hst g1 g2 g3 g4 g5 g6 g7 g8 ht hb1 hb2 hb3 hW h
    go_enter Tryz.func37, Tryz.ntmps37
    go_wp2_with (go_at_call 48; refine HR.out.mono ?_; rintro e w1 ⟨rfl, rfl⟩)
    go_ret
    exact ⟨rfl, HTo.out⟩
  have hst' : d.still = false := by rw [g7]; simpa using hst
  rw [if_neg hst]
  have HR0 := ready_names g1 hst' [j, k] (w.heap.size + 2) 2 (fun i hi => by
    have : i = 0 ∨ i = 1 := by simp at hi; omega
    rcases this with rfl | rfl <;> (rw [cell_of hb3]; rfl)) (by simpa using ⟨hj, hk⟩) (by simp)
  rw [pair] at HR0
  by_cases hnm : nameOk j = false ∨ nameOk k = false
  · rw [if_pos hnm]
    rw [if_pos hnm] at HR0
    have HR := Lib.hid HR0
    rw [hW] at HR HTo
    clear hst hst' HR0 g1 g2 g3 g4 g5 g6 g7 g8 ht hb1 hb2 hb3 hW h hnm
    go_enter Tryz.func37, Tryz.ntmps37
    go_wp2_with (go_at_call 48; refine HR.out.mono ?_; rintro e w1 ⟨rfl, rfl⟩)
    go_ret
    exact ⟨rfl, HTo.out⟩
  rw [if_neg hnm]
  rw [if_neg hnm] at HR0
  have HR := Lib.hid HR0
  have q2 : W.cell? ⟨w.heap.size + 1, 0, none⟩ = some (.string k) := by rw [cell_of hb2]; rfl
  have q1 : W.cell? ⟨w.heap.size, 0, none⟩ = some (.string j) := by rw [cell_of hb1]; rfl
  have c1 : W.cell? ⟨p, 1, none⟩ = some (.map (some d.m1)) := DskAt.c g1 1
  have HF := Lib.hid ht.2
  have HG := Lib.hid g8
  have HDk := Lib.hid g1
  have HNow := Lib.hid g4
  have B1 := Lib.hid hb1
  have B2 := Lib.hid hb2
  have HW := Lib.hid hW
  rw [hW] at HR c1 q2 q1 HTo
  clear hst hst' HR0 g1 g2 g3 g4 g5 g6 g7 g8 ht hb1 hb2 hb3 hW h hnm
  by_cases hjk : j = k
  · rw [if_pos hjk]
    subst hjk
    go_enter Tryz.func37, Tryz.ntmps37
    go_wp2_with (go_at_call 48; refine HR.out.mono ?_; rintro e w1 ⟨rfl, rfl⟩)
    go_ret
    exact ⟨rfl, HTo.out⟩
  rw [if_neg hjk]
  have hjk1 : (j.toList == k.toList) = false := by
    rw [ByteArray.toList_eq, ByteArray.toList_eq]
    have : j.data.toList ≠ k.data.toList := fun e => hjk (Go.WideShapes.bytes_inj e)
    simpa using this
  have HJK := Lib.hid hjk
  clear hjk
  rcases hg : get D.now j with _ | t
  · have hlook := look_none HDk.out j (by rw [HNow.out]; exact hg)
    rw [HW.out] at hlook
    clear hg
    go_enter Tryz.func37, Tryz.ntmps37
    go_wp2_with (go_at_call 48; refine HR.out.mono ?_; rintro e w1 ⟨rfl, rfl⟩)
    go_quiet (fail)
    go_wp2
    go_ret
    exact ⟨rfl, drewN HTo.out _⟩
  · obtain ⟨v, htx, hlook⟩ := look_some HDk.out j t (by rw [HNow.out]; exact hg)
    rw [HW.out] at hlook
    have HGt := Lib.hid hg
    clear hg htx
    have HC := Lib.hid (fun nq => change_full (fullN HF.out nq) (.mov j k) (.func (.func 61) #[] #[pt w.heap.size, pt (w.heap.size + 1)]) .nilFunc
      ⟨w.heap.size, w.heap.size + 1, rfl, rfl, ⟨.inr (by rw [HW.out, size_alloc, size_alloc, size_alloc]; omega), B1.out⟩, ⟨.inr (by rw [HW.out, size_alloc, size_alloc, size_alloc]; omega), B2.out⟩⟩ ⟨HJK.out, by rw [HGt.out]; rfl⟩ hlen)
    rw [HW.out] at HC
    go_enter Tryz.func37, Tryz.ntmps37
    go_wp2_with (go_at_call 48; refine HR.out.mono ?_; rintro e w1 ⟨rfl, rfl⟩)
    go_quiet (fail)
    go_wp2_with (go_at_call 49; refine (HC.out _).mono ?_; rintro e w1 ⟨rfl, hto⟩; have HTo2 := Lib.hid hto; clear hto)
    go_ret
    exact ⟨rfl, To.trans (drewN HTo.out _) HTo2.out⟩
set_option maxHeartbeats 2000000 in
theorem remove_any {S : Nat → Prop} {w : World} {p : Nat} {D : St} (h : Full w S p D) (k : ByteArray) (hk : k.size ≤ maxLen) (hlen : D.loose.length ≤ 1099511627776) :
    Calls Tryz.prog 59 #[.pointer (some ⟨p, 0, none⟩), .string k] w fun e w' => e = .returned (.int .i64 (stRemove D k).1) ∧ To S w w' p (stRemove D k).2 := by
  obtain ⟨ht, hb1, hb3, _⟩ := two h (cap1 (.string k)) (cap1 (.string k))
  obtain ⟨W, hW⟩ : ∃ W, W = (w.alloc (cap1 (.string k))).alloc (cap1 (.string k)) := ⟨_, rfl⟩
  rw [← hW] at ht hb1 hb3
  obtain ⟨d, g1, g2, g3, g4, g5, g6, g7, g8⟩ := ht.2
  have HTo := Lib.hid ht
  unfold stRemove
  by_cases hst : D.still = true
  · rw [if_pos hst]
    have HR := Lib.hid (ready_still g1 (g7.trans hst) (.slice (some ⟨w.heap.size + 1, 0, none⟩) 1 1))
    rw [hW] at HR HTo
    clear hst g1 g2 g3 g4 g5 g6 g7 g8 ht hb1 hb3 hW h
    go_enter Tryz.func59, Tryz.ntmps59
    go_wp2_with (go_at_call 48; refine HR.out.mono ?_; rintro e w1 ⟨rfl, rfl⟩)
    go_ret
    exact ⟨rfl, HTo.out⟩
  have hst' : d.still = false := by rw [g7]; simpa using hst
  rw [if_neg hst]
  have HR0 := ready_names g1 hst' [k] (w.heap.size + 1) 1 (fun i hi => by
    have : i = 0 := by simpa using hi
    subst this; rw [cell_of hb3]; rfl) (by simpa using hk) (by simp)
  rw [single] at HR0
  by_cases hnm : nameOk k = false
  · rw [if_pos hnm]
    rw [hnm] at HR0
    have HR := Lib.hid HR0
    rw [hW] at HR HTo
    clear hst hst' HR0 g1 g2 g3 g4 g5 g6 g7 g8 ht hb1 hb3 hW h hnm
    go_enter Tryz.func59, Tryz.ntmps59
    go_wp2_with (go_at_call 48; refine HR.out.mono ?_; rintro e w1 ⟨rfl, rfl⟩)
    go_ret
    exact ⟨rfl, HTo.out⟩
  rw [if_neg hnm]
  have hn' : nameOk k = true := by simpa using hnm
  rw [hn'] at HR0
  have HR := Lib.hid HR0
  have q1 : W.cell? ⟨w.heap.size, 0, none⟩ = some (.string k) := by rw [cell_of hb1]; rfl
  have c1 : W.cell? ⟨p, 1, none⟩ = some (.map (some d.m1)) := DskAt.c g1 1
  have HF := Lib.hid ht.2
  have HDk := Lib.hid g1
  have HNow := Lib.hid g4
  have B1 := Lib.hid hb1
  have HW := Lib.hid hW
  rw [hW] at HR c1 q1 HTo
  clear hst hst' HR0 g1 g2 g3 g4 g5 g6 g7 g8 ht hb1 hb3 hW h hnm hn'
  rcases hg : get D.now k with _ | t
  · have hlook := look_none HDk.out k (by rw [HNow.out]; exact hg)
    rw [HW.out] at hlook
    clear hg
    go_enter Tryz.func59, Tryz.ntmps59
    go_wp2_with (go_at_call 48; refine HR.out.mono ?_; rintro e w1 ⟨rfl, rfl⟩)
    go_quiet (fail)
    go_wp2
    go_ret
    exact ⟨rfl, drewN HTo.out _⟩
  · obtain ⟨v, htx, hlook⟩ := look_some HDk.out k t (by rw [HNow.out]; exact hg)
    rw [HW.out] at hlook
    clear hg htx
    have HC := Lib.hid (fun nq => change_full (fullN HF.out nq) (.rem k) (.func (.func 87) #[] #[pt w.heap.size]) .nilFunc
      ⟨w.heap.size, rfl, rfl, ⟨.inr (by rw [HW.out, size_alloc, size_alloc]; omega), B1.out⟩⟩ trivial hlen)
    rw [HW.out] at HC
    go_enter Tryz.func59, Tryz.ntmps59
    go_wp2_with (go_at_call 48; refine HR.out.mono ?_; rintro e w1 ⟨rfl, rfl⟩)
    go_quiet (fail)
    go_wp2_with (go_at_call 49; refine (HC.out _).mono ?_; rintro e w1 ⟨rfl, hto⟩; have HTo2 := Lib.hid hto; clear hto)
    go_ret
    exact ⟨rfl, To.trans (drewN HTo.out _) HTo2.out⟩
end Go.Proofs.YtaoneiicoaiehaaGreat.Rn
namespace Go.Proofs.YtaoneiicoaiehaaGreat.Sy
set_option maxRecDepth 100000
open Go Go.RowKit Go.Lib Go.Proofs.YtaoneiicoaiehaaGreat.Mp Go.Proofs.YtaoneiicoaiehaaGreat.Dh Go.Proofs.YtaoneiicoaiehaaGreat.Ext Go.Proofs.YtaoneiicoaiehaaGreat.Fm Go.Proofs.YtaoneiicoaiehaaGreat.Dk Go.Proofs.YtaoneiicoaiehaaGreat.Cl Go.Proofs.YtaoneiicoaiehaaGreat.Bu Go.Proofs.YtaoneiicoaiehaaGreat.Ch Go.Proofs.YtaoneiicoaiehaaGreat.La Go.Proofs.YtaoneiicoaiehaaGreat.Co Go.Proofs.YtaoneiicoaiehaaGreat.Se Go.Proofs.YtaoneiicoaiehaaGreat.Nm Go.Proofs.YtaoneiicoaiehaaGreat.St Go.Proofs.YtaoneiicoaiehaaGreat.Ap Go.Proofs.YtaoneiicoaiehaaGreat.Tr Go.Proofs.YtaoneiicoaiehaaGreat.Kl
/-- The first n loose calls are made sure. -/
theorem settle_any {S : Nat → Prop} {w : World} {p : Nat} {d : Dsk} (h : DskAt w S p d) (l : List Cmd) (hl : LooseAt w S d.lv l) (n : Nat) (hn : n ≤ l.length) (hok : oks (view d.es2) l) (hu : used (view d.es2) ≤ 16777216) :
    Calls Tryz.prog 38 #[.pointer (some ⟨p, 0, none⟩), .int .i64 n] w fun e w' => e = .returned (.tuple #[]) ∧
      ∃ es' c', view es' = runs (view d.es2) (l.take n) ∧ Ran S w w' p { d with es2 := es', c2 := c', lv := .slice none 0 0 } := by
  rcases hl with ⟨hlv, rfl⟩ | ⟨b, cap, cs, hlv, ha, h1, h2, h3, h4⟩
  · have : n = 0 := by simpa using hn
    subst this
    refine (settle_nil h hlv).mono ?_
    rintro e w' ⟨rfl, hr⟩
    exact ⟨rfl, d.es2, d.c2, rfl, hr⟩
  · exact settle_some h l n b cap cs hlv hn h1 h2 ha h3 h4 hok hu
theorem sync_still {S : Nat → Prop} {w : World} {p : Nat} {D : St} (h : Full w S p D) (hst : D.still = true) :
    Calls Tryz.prog 35 #[.pointer (some ⟨p, 0, none⟩)] w fun e w' => e = .returned (.int .i64 20) ∧ w' = w := by
  obtain ⟨d, g1, g2, g3, g4, g5, g6, g7, g8⟩ := h
  have HR := Lib.hid (ready_still g1 (g7.trans hst) (.slice none 0 0))
  clear hst g1 g2 g3 g4 g5 g6 g7 g8
  go_enter Tryz.func35, Tryz.ntmps35
  go_wp2_with (go_at_call 48; refine HR.out.mono ?_; rintro e w1 ⟨rfl, rfl⟩)
  go_ret
  exact ⟨rfl, rfl⟩
set_option maxHeartbeats 1000000 in
theorem sync_any {S : Nat → Prop} {w : World} {p : Nat} {D : St} (h : Full w S p D) (hlen : D.loose.length ≤ 1099511627776) :
    Calls Tryz.prog 35 #[.pointer (some ⟨p, 0, none⟩)] w fun e w' => e = .returned (.int .i64 (stSync D).1) ∧ To S w w' p (stSync D).2 := by
  unfold stSync
  by_cases hst : D.still = true
  · rw [if_pos hst]
    refine (sync_still h hst).mono ?_
    rintro e w' ⟨rfl, rfl⟩
    exact ⟨rfl, To.refl h⟩
  rw [if_neg hst]
  obtain ⟨d, g1, g2, g3, g4, g5, g6, g7, g8⟩ := h
  have HR := Lib.hid (ready_none g1 (by rw [g7]; simpa using hst))
  obtain ⟨b1, b2, b3, b4, b5, b6, b7, b8, b9, b10, b11⟩ := burn_full g3 g6 g7
  have hgb := Good.burnt g8
  have HB0 := burn_any g1 (by rw [g6]; exact g8.fuse)
  rw [b1] at HB0
  rcases burnt_or D with hb | hb
  · rw [if_pos hb]
    rw [hb] at HB0
    have HB := Lib.hid HB0
    have HL : Hid (∀ w1, Ran S w w1 p (burn d).2 → w1.cell? ⟨p, 5, none⟩ = some d.lv ∧ Calls Tryz.prog 38 #[.pointer (some ⟨p, 0, none⟩), .int .i64 D.loose.length] w1 fun e w' => e = .returned (.tuple #[]) ∧
        ∃ es' c', view es' = runs (view d.es2) (D.loose.take D.loose.length) ∧ Ran S w w' p { (burn d).2 with es2 := es', c2 := c', lv := .slice none 0 0 }) := Lib.hid fun w1 hr => by
      refine ⟨by rw [← b7]; exact DskAt.c hr.at_ 5, ?_⟩
      refine (settle_any hr.at_ D.loose (by rw [b7]; exact LooseAt.keep g2 (Ch.Ran.keepPlain hr)) D.loose.length (Nat.le_refl _) (by rw [b6, g5]; exact g8.oks) (by rw [b6, g5]; exact g8.used)).mono ?_
      rintro e w' ⟨rfl, es', c', hv, hr2⟩
      exact ⟨rfl, es', c', by rw [hv, b6], Ran.trans hr hr2⟩
    obtain ⟨a, cp, hlv⟩ := LooseAt.shape g2
    rw [hlv] at HL
    have HD : Hid (∀ w' es' c', view es' = runs (view d.es2) (D.loose.take D.loose.length) → Ran S w w' p { (burn d).2 with es2 := es', c2 := c', lv := .slice none 0 0 } → To S w w' p { (burnt D).2 with sure := D.now, loose := [] }) := Lib.hid fun w' es' c' hv hr => by
      refine ⟨hr.tread, _, hr.at_, .inl ⟨rfl, rfl⟩, b2, ?_, ?_, b3, b4, ?_⟩
      · show view (burn d).2.es1 = (burnt D).2.now
        rw [b5, g4, b8]
      · show view es' = D.now
        rw [hv, List.take_length, g5, g8.runs]
      · exact ⟨trivial, by show D.now = (burnt D).2.now; rw [b8], g8.now, hgb.room, hgb.fuse⟩
    clear hst HB0 g1 g2 g3 g4 g5 g6 g7 g8 b1 b2 b3 b4 b5 b6 b7 b8 b9 b10 b11 hgb hlv
    have hlen' : (D.loose.length : Int) ≤ 9223372036854775807 := by omega
    go_enter Tryz.func35, Tryz.ntmps35
    go_wp2_with (first | (go_at_call 48; refine HR.out.mono ?_; rintro e w1 ⟨rfl, rfl⟩) | (go_at_call 60; refine HB.out.mono ?_; rintro e w1 ⟨rfl, hr⟩; have hq := HL.out w1 hr; have q5 := hq.1; have HQ := Lib.hid hq.2; clear hq hr) | (go_at_call 38; refine (by assumption : Hid (Calls _ _ _ _ _)).out.mono ?_; rintro e w2 ⟨rfl, es', c', hv, hr2⟩; have HZ := Lib.hid (HD.out w2 es' c' hv hr2); clear hv hr2))
    go_ret
    exact ⟨rfl, (by assumption : Hid (To _ _ _ _ _)).out⟩
  · rw [if_neg (by rw [hb]; decide)]
    rw [hb] at HB0 ⊢
    have HB := Lib.hid HB0
    have HD : Hid (∀ w', Ran S w w' p (burn d).2 → To S w w' p (burnt D).2) := Lib.hid fun w' hr => by
      refine ⟨hr.tread, _, hr.at_, ?_, b2, ?_, ?_, b3, b4, hgb⟩
      · rw [b7, b10]; exact LooseAt.keep g2 (Ch.Ran.keepPlain hr)
      · rw [b5, g4, b8]
      · rw [b6, g5, b9]
    clear hst HB0 g1 g2 g3 g4 g5 g6 g7 g8 b1 b2 b3 b4 b5 b6 b7 b8 b9 b10 b11 hgb hb
    go_enter Tryz.func35, Tryz.ntmps35
    go_wp2_with (first | (go_at_call 48; refine HR.out.mono ?_; rintro e w1 ⟨rfl, rfl⟩) | (go_at_call 60; refine HB.out.mono ?_; rintro e w1 ⟨rfl, hr⟩; have HZ := Lib.hid (HD.out w1 hr); clear hr))
    go_ret
    exact ⟨rfl, (by assumption : Hid (To _ _ _ _ _)).out⟩
theorem used_any {S : Nat → Prop} {w : World} {p : Nat} {D : St} (h : Full w S p D) :
    Calls Tryz.prog 9 #[.pointer (some ⟨p, 0, none⟩)] w fun e w' => e = .returned (.int .i64 (used D.now)) ∧ w' = w := by
  obtain ⟨d, g1, g2, g3, g4, g5, g6, g7, g8⟩ := h
  have c2 : w.cell? ⟨p, 2, none⟩ = some (.int .i64 (used D.now)) := by rw [← g4]; exact DskAt.c g1 2
  clear g1 g2 g3 g4 g5 g6 g7 g8
  go_enter Tryz.func9, Tryz.ntmps9
  go_wp2
  go_ret
  exact ⟨rfl, rfl⟩
theorem loose_any {S : Nat → Prop} {w : World} {p : Nat} {D : St} (h : Full w S p D) (_hlen : D.loose.length ≤ 1099511627776) :
    Calls Tryz.prog 11 #[.pointer (some ⟨p, 0, none⟩)] w fun e w' => e = .returned (.int .i64 D.loose.length) ∧ w' = w := by
  obtain ⟨d, g1, g2, g3, g4, g5, g6, g7, g8⟩ := h
  obtain ⟨a, cp, hlv⟩ := LooseAt.shape g2
  have c5 : w.cell? ⟨p, 5, none⟩ = some (.slice a D.loose.length cp) := by rw [← hlv]; exact DskAt.c g1 5
  clear g1 g2 g3 g4 g5 g6 g7 g8 hlv
  go_enter Tryz.func11, Tryz.ntmps11
  go_wp2
  go_ret
  exact ⟨rfl, rfl⟩
def stFuse (D : St) (n : Int) : St := if n < 0 then { D with fuse := -1, still := false } else { D with fuse := n }
theorem fuse_any {S : Nat → Prop} {w : World} {p : Nat} {D : St} (h : Full w S p D) (n : Int) (hn : n ≤ 9223372036854775807) :
    Calls Tryz.prog 12 #[.pointer (some ⟨p, 0, none⟩), .int .i64 n] w fun e w' => e = .returned (.int .i64 0) ∧ To S w w' p (stFuse D n) := by
  obtain ⟨d, g1, g2, g3, g4, g5, g6, g7, g8⟩ := h
  unfold stFuse
  by_cases hneg : n < 0
  · rw [if_pos hneg]
    have HM := Lib.hid (mend_any g1)
    have HD : Hid (∀ w', Ran S w w' p { d with fuse := -1, still := false } → To S w w' p { D with fuse := -1, still := false }) := Lib.hid fun w' hr =>
      ⟨hr.tread, _, hr.at_, LooseAt.keep g2 (Ch.Ran.keepPlain hr), g3, g4, g5, rfl, rfl, ⟨g8.oks, g8.runs, g8.used, g8.room, ⟨Int.le_refl _, (by decide : (-1 : Int) ≤ 9223372036854775807)⟩⟩⟩
    clear g1 g2 g3 g4 g5 g6 g7 g8
    go_enter Tryz.func12, Tryz.ntmps12
    go_wp2_with (go_at_call 28; refine HM.out.mono ?_; rintro e w1 ⟨rfl, hr⟩; have HZ := Lib.hid (HD.out w1 hr); clear hr)
    go_ret
    exact ⟨rfl, (by assumption : Hid (To _ _ _ _ _)).out⟩
  · rw [if_neg hneg]
    have c6 : w.cell? ⟨p, 6, none⟩ = some (.int .i64 d.fuse) := DskAt.c g1 6
    have f6 := DskAt.f g1 6
    have HD : Hid (To S w (w.setCell ⟨p, 6, none⟩ (.int .i64 n)) p { D with fuse := n }) := Lib.hid (by
      have hr := mkSet g1 6 (.int .i64 n) { d with fuse := n } rfl ⟨rfl, rfl, rfl, rfl, rfl, rfl⟩
      exact ⟨hr.tread, _, hr.at_, LooseAt.keep g2 (Ch.Ran.keepPlain hr), g3, g4, g5, rfl, g7, ⟨g8.oks, g8.runs, g8.used, g8.room, by show -1 ≤ n ∧ n ≤ 9223372036854775807; omega⟩⟩)
    clear g1 g2 g3 g4 g5 g6 g7 g8
    go_enter Tryz.func12, Tryz.ntmps12
    go_wp2
    go_ret
    exact ⟨rfl, HD.out⟩
end Go.Proofs.YtaoneiicoaiehaaGreat.Sy
namespace Go.Proofs.YtaoneiicoaiehaaGreat.Cr
set_option maxRecDepth 100000
open Go Go.RowKit Go.Lib Go.Proofs.YtaoneiicoaiehaaGreat.Mp Go.Proofs.YtaoneiicoaiehaaGreat.Dh Go.Proofs.YtaoneiicoaiehaaGreat.Ext Go.Proofs.YtaoneiicoaiehaaGreat.Fm Go.Proofs.YtaoneiicoaiehaaGreat.Dk Go.Proofs.YtaoneiicoaiehaaGreat.Cl Go.Proofs.YtaoneiicoaiehaaGreat.Bu Go.Proofs.YtaoneiicoaiehaaGreat.Ch Go.Proofs.YtaoneiicoaiehaaGreat.La Go.Proofs.YtaoneiicoaiehaaGreat.Co Go.Proofs.YtaoneiicoaiehaaGreat.Se Go.Proofs.YtaoneiicoaiehaaGreat.Nm Go.Proofs.YtaoneiicoaiehaaGreat.St Go.Proofs.YtaoneiicoaiehaaGreat.Ap Go.Proofs.YtaoneiicoaiehaaGreat.Tr Go.Proofs.YtaoneiicoaiehaaGreat.Kl
theorem clipv_apart (a b : Value) : Apart (clipv a) (clipv b) := by
  intro x n c n' c' e e'
  have h1 : n = c := by
    cases a <;> simp [clipv] at e
    exact e.2.1.symm.trans e.2.2
  have h2 : n' = c' := by
    cases b <;> simp [clipv] at e'
    exact e'.2.1.symm.trans e'.2.2
  exact ⟨fun h => by omega, fun h => by omega⟩
theorem clipv_apart_of (a b : Value) (h : Apart a b) : Apart (clipv a) b := by
  intro x n c n' c' e e'
  cases a <;> simp [clipv] at e
  obtain ⟨e1, e2, e3⟩ := e
  rename_i ad m k
  subst e1 e2 e3
  refine ⟨fun h => by omega, fun hlt => ?_⟩
  have := h x m k n' c' rfl e'
  exact ⟨(this.2 hlt).1, rfl⟩
theorem clipv_apart_self (a : Value) : Apart (clipv a) a := by
  intro x n c n' c' e e'
  subst e'
  simp [clipv] at e
  obtain ⟨e1, e2⟩ := e
  subst e1 e2
  exact ⟨fun h => by omega, fun _ => ⟨Nat.le_refl _, rfl⟩⟩
theorem clipv_text {w : World} {S : Nat → Prop} {v : Value} {t : List UInt8} (h : TextAt w S v t) : TextAt w S (clipv v) t := by
  rcases h with ⟨rfl, rfl⟩ | ⟨b, cap, cs, rfl, ha, h1, h2, h3, h4⟩
  · exact .inl ⟨rfl, rfl⟩
  · exact .inr ⟨b, t.length, cs, rfl, ha, Nat.le_refl _, by omega, by omega, h4⟩
theorem clip_texts {w : World} {S : Nat → Prop} : ∀ {l : List Ent}, Texts w S l → Texts w S (l.map clip ++ l)
  | [], h => h
  | x :: l, h => by
    have ih := clip_texts h.tail
    have h1 : Texts w S (x :: (l.map clip ++ l)) := by
      refine ⟨fun e he => ?_, List.pairwise_cons.2 ⟨fun y hy => ?_, ih.2⟩⟩
      · rcases List.mem_cons.1 he with rfl | he
        · exact h.head.1
        · exact ih.1 e he
      · rcases List.mem_append.1 hy with hy | hy
        · obtain ⟨z, hz, rfl⟩ := List.mem_map.1 hy
          exact (clipv_apart_of _ _ (h.head.2 z hz).symm).symm
        · exact h.head.2 y hy
    have h2 : Texts w S (clip x :: x :: (l.map clip ++ l)) := by
      refine ⟨fun e he => ?_, List.pairwise_cons.2 ⟨fun y hy => ?_, h1.2⟩⟩
      · rcases List.mem_cons.1 he with rfl | he
        · exact clipv_text h.head.1
        · exact h1.1 e he
      · rcases List.mem_cons.1 hy with rfl | hy
        · exact clipv_apart_self _
        · rcases List.mem_append.1 hy with hy | hy
          · obtain ⟨z, hz, rfl⟩ := List.mem_map.1 hy
            exact clipv_apart _ _
          · exact clipv_apart_of _ _ (h.head.2 y hy)
    refine h2.perm ?_
    show (clip x :: x :: (l.map clip ++ l)).Perm (clip x :: (l.map clip ++ x :: l))
    exact (List.perm_middle.symm).cons _
theorem view_clip (es : List Ent) : view (es.map clip) = view es := by
  unfold view
  rw [List.map_map]
  exact List.map_congr_left fun e _ => rfl
theorem wf_clip {es : List Ent} {c : Nat} (h : Wf es c) : Wf (es.map clip) c := by
  have e1 : (es.map clip).map Ent.key = es.map Ent.key := by rw [List.map_map]; exact List.map_congr_left fun e _ => rfl
  have e2 : (es.map clip).map Ent.born = es.map Ent.born := by rw [List.map_map]; exact List.map_congr_left fun e _ => rfl
  refine ⟨by rw [e1]; exact h.keys, by rw [e2]; exact h.bornN, fun x hx => ?_⟩
  obtain ⟨y, hy, rfl⟩ := List.mem_map.1 hx
  exact h.born y hy
/-- Other files are laid as those that are now. -/
theorem setMap {S : Nat → Prop} {w : World} {p : Nat} {d : Dsk} (h : DskAt w S p d) (mb : Nat) (es : List Ent) (c : Nat) (hm : At w S mb (obj es c)) (hne : mb ≠ d.m2) (hwf : Wf es c) (htx : Texts w S (es ++ d.es2)) :
    Ran S w ((w.setCell ⟨p, 1, none⟩ (.map (some mb))).setCell ⟨p, 2, none⟩ (.int .i64 (used (view es)))) p { d with m1 := mb, es1 := es, c1 := c } := by
  have hb1 := setCell_heap h.blk.2 1 (.map (some mb))
  have hb2 := setCell_heap hb1 2 (.int .i64 (used (view es)))
  have hko : ∀ x o, x ≠ p → At w S x o → At ((w.setCell ⟨p, 1, none⟩ (.map (some mb))).setCell ⟨p, 2, none⟩ (.int .i64 (used (view es)))) (grow S w ((w.setCell ⟨p, 1, none⟩ (.map (some mb))).setCell ⟨p, 2, none⟩ (.int .i64 (used (view es))))) x o := fun x o hx ha =>
    ⟨.inl ha.1, by rw [Below.heap_setCell _ _ _ _ hx, Below.heap_setCell _ _ _ _ hx]; exact ha.2⟩
  have hmp : mb ≠ p := fun e => by have := hm.2; rw [e, h.blk.2] at this; cases this
  have hm2 : d.m2 ≠ p := fun e => by have := h.sure.2; rw [e, h.blk.2] at this; cases this
  refine ⟨(Tread.setCell w ⟨p, 1, none⟩ _ h.blk.1).trans ((Tread.setCell _ ⟨p, 2, none⟩ _ h.blk.1).mono grow_up), ⟨⟨.inl h.blk.1, ?_⟩, hko _ _ hmp hm, hko _ _ hm2 h.sure, hne, hwf, h.wf2, ?_⟩, ?_⟩
  · rw [hb2]; rfl
  · refine htx.keep fun x o hxt ha => hko x o ?_ ha
    rintro rfl
    obtain ⟨cs, fr, rfl⟩ := hxt
    have := ha.2
    rw [h.blk.2] at this; cases this
  · rintro x o ⟨cs, T, fr, rfl, hT1, hT2⟩ hx
    have hxp : x ≠ p := by
      rintro rfl
      rw [h.blk.2] at hx; cases hx; exact hT2 rfl
    rw [Below.heap_setCell _ _ _ _ hxp, Below.heap_setCell _ _ _ _ hxp]; exact hx
theorem ran_below {S : Nat → Prop} {w w' : World} {p : Nat} {d : Dsk} (h : DskAt w S p d) (hb : Below w.heap.size w w') : Ran S w w' p d := by
  have hk : ∀ b o, At w S b o → At w' (grow S w w') b o := fun b o ha => ⟨.inl ha.1, by rw [hb.block b (lt_of_at ha.2)]; exact ha.2⟩
  exact ⟨⟨hb.os, hb.tape, hb.output, hb.size, fun b hlt _ => hb.block b hlt⟩, ⟨hk _ _ h.blk, hk _ _ h.now, hk _ _ h.sure, h.ne, h.wf1, h.wf2, h.texts.keep fun b o _ ha => hk b o ha⟩, fun b o _ ho => by rw [hb.block b (lt_of_at ho)]; exact ho⟩
/-- The sure files are cloned, and laid as those that are now. -/
theorem cloned {S : Nat → Prop} {w w2 w3 : World} {p : Nat} {d : Dsk} (h : Ran S w w2 p d) (hb : Below w2.heap.size w2 w3) (hm : w3.heap[w2.heap.size + 1]? = some (obj (d.es2.map clip) d.c2)) (hs : w3.heap.size = w2.heap.size + 3) :
    Ran S w ((w3.setCell ⟨p, 1, none⟩ (.map (some (w2.heap.size + 1)))).setCell ⟨p, 2, none⟩ (.int .i64 (used (view d.es2)))) p { d with m1 := w2.heap.size + 1, es1 := d.es2.map clip, c1 := d.c2 } := by
  have r3 : Ran S w w3 p d := Ran.trans h (ran_below h.at_ hb)
  have hlt := lt_of_at h.at_.sure.2
  have ht2 : Texts w3 (grow S w w3) d.es2 := Cm.Texts.sub r3.at_.texts (List.sublist_append_right _ _)
  have := setMap r3.at_ (w2.heap.size + 1) (d.es2.map clip) d.c2 ⟨.inr ⟨by have := h.tread.size; omega, by omega⟩, hm⟩ (by omega) (wf_clip r3.at_.wf2) (clip_texts ht2)
  rw [view_clip] at this
  exact Ran.trans r3 this
end Go.Proofs.YtaoneiicoaiehaaGreat.Cr
namespace Go.Proofs.YtaoneiicoaiehaaGreat.Cs
set_option maxRecDepth 100000
open Go Go.RowKit Go.Lib Go.Proofs.YtaoneiicoaiehaaGreat.Mp Go.Proofs.YtaoneiicoaiehaaGreat.Dh Go.Proofs.YtaoneiicoaiehaaGreat.Ext Go.Proofs.YtaoneiicoaiehaaGreat.Fm Go.Proofs.YtaoneiicoaiehaaGreat.Dk Go.Proofs.YtaoneiicoaiehaaGreat.Cl Go.Proofs.YtaoneiicoaiehaaGreat.Bu Go.Proofs.YtaoneiicoaiehaaGreat.Ch Go.Proofs.YtaoneiicoaiehaaGreat.La Go.Proofs.YtaoneiicoaiehaaGreat.Co Go.Proofs.YtaoneiicoaiehaaGreat.Se Go.Proofs.YtaoneiicoaiehaaGreat.Nm Go.Proofs.YtaoneiicoaiehaaGreat.St Go.Proofs.YtaoneiicoaiehaaGreat.Ap Go.Proofs.YtaoneiicoaiehaaGreat.Tr Go.Proofs.YtaoneiicoaiehaaGreat.Kl Go.Proofs.YtaoneiicoaiehaaGreat.Sy Go.Proofs.YtaoneiicoaiehaaGreat.Cr
def wiped (D : St) (F : Fs) : St := { D with now := F, sure := F, loose := [], fuse := -1, still := false }
/-- What a crash does behind the calls that it keeps. -/
def Tail (S : Nat → Prop) (w w2 : World) (p : Nat) (m1 u1 : Value) (D : St) (F : Fs) : Prop :=
  Calls Tryz.prog 39 #[.pointer (some ⟨p, 3, none⟩)] w2 fun e w3 => e = .returned (.agg #[.map (some (w2.heap.size + 1)), .int .i64 (used F)]) ∧
    w3.cell? ⟨p, 1, none⟩ = some m1 ∧ w3.cell? ⟨p, 2, none⟩ = some u1 ∧ w3.frozen? ⟨p, 1, none⟩ = false ∧ w3.frozen? ⟨p, 2, none⟩ = false ∧
    Hid (Calls Tryz.prog 28 #[.pointer (some ⟨p, 0, none⟩)] ((w3.setCell ⟨p, 1, none⟩ (.map (some (w2.heap.size + 1)))).setCell ⟨p, 2, none⟩ (.int .i64 (used F))) fun e w5 => e = .returned (.tuple #[]) ∧ To S w w5 p (wiped D F))
theorem tail_of {S : Nat → Prop} {w w2 : World} {p : Nat} {d2 : Dsk} {D : St} (F : Fs) (hR : Ran S w w2 p d2) (hlv : d2.lv = .slice none 0 0) (hview : view d2.es2 = F) (hroom : d2.room = D.room) (hr2 : 0 ≤ D.room ∧ D.room ≤ 16777216) (hu : used F ≤ 16777216) :
    Tail S w w2 p (.map (some d2.m1)) (.int .i64 (used (view d2.es1))) D F := by
  refine (Fc.fclone_any (S := grow S w w2) d2.cells _ d2.es2 d2.c2 (used F) hR.at_.blk.2 rfl (by rw [← hview]; rfl) hR.at_.sure.2 hR.at_.wf2 (fun e he => hR.at_.texts.1 e (List.mem_append_right _ he))).mono ?_
  rintro e w3 ⟨rfl, hb, hm, hs⟩
  have r3 := ran_below hR.at_ hb
  refine ⟨rfl, DskAt.c r3.at_ 1, DskAt.c r3.at_ 2, DskAt.f r3.at_ 1, DskAt.f r3.at_ 2, ?_⟩
  have r4 := cloned hR hb hm hs
  rw [hview] at r4
  refine Lib.hid ((mend_any r4.at_).mono ?_)
  rintro e w5 ⟨rfl, r5⟩
  have r6 := Ran.trans r4 r5
  refine ⟨rfl, r6.tread, _, r6.at_, .inl ⟨hlv, rfl⟩, hroom, ?_, hview, rfl, rfl, ⟨trivial, rfl, hu, hr2, ⟨Int.le_refl _, (by decide : (-1 : Int) ≤ 9223372036854775807)⟩⟩⟩
  show view (d2.es2.map clip) = F
  rw [view_clip, hview]
theorem neq1 (W : World) : (binOp .neq 83 .nilFunc .nilFunc).run Tryz.prog W = .ok (.bool false) W := by kernel_rfl
theorem neq2 (W : World) (g : FuncId) (caps : Array Value) : (binOp .neq 83 (.func (.func g) #[] caps) .nilFunc).run Tryz.prog W = .ok (.bool true) W := by kernel_rfl
/-- A settle, and what may be done behind it. -/
def Settled (_S : Nat → Prop) (w : World) (p : Nat) (n : Int) (R : World → Prop) : Prop :=
  Calls Tryz.prog 38 #[.pointer (some ⟨p, 0, none⟩), .int .i64 n] w fun e w1 => e = .returned (.tuple #[]) ∧ R w1
set_option maxHeartbeats 1000000 in
theorem walk_none_low {S : Nat → Prop} {w : World} {p : Nat} (keep t m : Int)  (c5 : w.cell? ⟨p, 5, none⟩ = some (Value.slice none 0 0)) (_hk1 : -9223372036854775808 ≤ keep) (_hk2 : keep ≤ 9223372036854775807) 
    (e1 : (if keep < 0 then 0 else keep) = m) (e2 : (if 0 < m then 0 else m) = 0) (m1 u1 : Value) (D : St) (F : Fs)
    (hs : Settled S w p 0 (fun w1 => Tail S w w1 p m1 u1 D F)) (ht : t ≤ 0) :
    Calls Tryz.prog 16 #[.pointer (some ⟨p, 0, none⟩), .int .i64 keep, .int .i64 t] w fun e w' => e = .returned (.int .i64 0) ∧ To S w w' p (wiped D F) := by
  have HS := Lib.hid hs
  clear hs
  go_enter Tryz.func16, Tryz.ntmps16
  go_wp2_with (first | (go_at_call 38; refine HS.out.mono ?_; rintro e w1 ⟨rfl, hr⟩; have HT := Lib.hid hr; clear hr) | (go_at_call 39; refine (by assumption : Hid (Tail _ _ _ _ _ _ _ _)).out.mono ?_; rintro e w3 ⟨rfl, x1, x2, x3, x4, x5⟩) | (go_at_call 28; refine (by assumption : Hid (Calls _ _ _ _ _)).out.mono ?_; rintro e w5 ⟨rfl, hto⟩; have HZ := Lib.hid hto; clear hto))
  all_goals
    go_ret
    exact ⟨rfl, (by assumption : Hid (To _ _ _ _ _)).out⟩
set_option maxHeartbeats 1000000 in
theorem walk_none_all {S : Nat → Prop} {w : World} {p : Nat} (keep t m : Int)  (c5 : w.cell? ⟨p, 5, none⟩ = some (Value.slice none 0 0)) (_hk1 : -9223372036854775808 ≤ keep) (_hk2 : keep ≤ 9223372036854775807) 
    (e1 : (if keep < 0 then 0 else keep) = m) (e2 : (if 0 < m then 0 else m) = 0) (m1 u1 : Value) (D : St) (F : Fs)
    (hs : Settled S w p 0 (fun w1 => Tail S w w1 p m1 u1 D F)) (ht : 0 < t) :
    Calls Tryz.prog 16 #[.pointer (some ⟨p, 0, none⟩), .int .i64 keep, .int .i64 t] w fun e w' => e = .returned (.int .i64 0) ∧ To S w w' p (wiped D F) := by
  have HS := Lib.hid hs
  clear hs
  go_enter Tryz.func16, Tryz.ntmps16
  go_wp2_with (first | (go_at_call 38; refine HS.out.mono ?_; rintro e w1 ⟨rfl, hr⟩; have HT := Lib.hid hr; clear hr) | (go_at_call 39; refine (by assumption : Hid (Tail _ _ _ _ _ _ _ _)).out.mono ?_; rintro e w3 ⟨rfl, x1, x2, x3, x4, x5⟩) | (go_at_call 28; refine (by assumption : Hid (Calls _ _ _ _ _)).out.mono ?_; rintro e w5 ⟨rfl, hto⟩; have HZ := Lib.hid hto; clear hto))
  all_goals
    go_ret
    exact ⟨rfl, (by assumption : Hid (To _ _ _ _ _)).out⟩
set_option maxHeartbeats 1000000 in
theorem walk_low {S : Nat → Prop} {w : World} {p : Nat} (keep t m : Int) (K L cp b : Nat) (c5 : w.cell? ⟨p, 5, none⟩ = some (Value.slice (some ⟨b, 0, none⟩) L cp)) (_hk1 : -9223372036854775808 ≤ keep) (_hk2 : keep ≤ 9223372036854775807) (_hL : L ≤ 1099511627776) (_hLc : L ≤ cp) (_hcm : cp ≤ 9223372036854775807)
    (e1 : (if keep < 0 then 0 else keep) = m) (e2 : (if (L : Int) < m then (L : Int) else m) = (K : Int)) (hKL : K ≤ L) (m1 u1 : Value) (D : St) (F : Fs)
    (hs : Settled S w p K (fun w1 => Tail S w w1 p m1 u1 D F)) (ht : t ≤ 0) :
    Calls Tryz.prog 16 #[.pointer (some ⟨p, 0, none⟩), .int .i64 keep, .int .i64 t] w fun e w' => e = .returned (.int .i64 0) ∧ To S w w' p (wiped D F) := by
  have HS := Lib.hid hs
  clear hs
  go_enter Tryz.func16, Tryz.ntmps16
  go_wp2_with (first | (go_at_call 38; refine HS.out.mono ?_; rintro e w1 ⟨rfl, hr⟩; have HT := Lib.hid hr; clear hr) | (go_at_call 39; refine (by assumption : Hid (Tail _ _ _ _ _ _ _ _)).out.mono ?_; rintro e w3 ⟨rfl, x1, x2, x3, x4, x5⟩) | (go_at_call 28; refine (by assumption : Hid (Calls _ _ _ _ _)).out.mono ?_; rintro e w5 ⟨rfl, hto⟩; have HZ := Lib.hid hto; clear hto))
  all_goals
    go_ret
    exact ⟨rfl, (by assumption : Hid (To _ _ _ _ _)).out⟩
set_option maxHeartbeats 1000000 in
theorem walk_all {S : Nat → Prop} {w : World} {p : Nat} (keep t m : Int) (K L cp b : Nat) (c5 : w.cell? ⟨p, 5, none⟩ = some (Value.slice (some ⟨b, 0, none⟩) L cp)) (_hk1 : -9223372036854775808 ≤ keep) (_hk2 : keep ≤ 9223372036854775807) (hL : L ≤ 1099511627776) (hLc : L ≤ cp) (_hcm : cp ≤ 9223372036854775807)
    (e1 : (if keep < 0 then 0 else keep) = m) (e2 : (if (L : Int) < m then (L : Int) else m) = (K : Int)) (hKL : K ≤ L) (m1 u1 : Value) (D : St) (F : Fs)
    (hs : Settled S w p K (fun w1 => Tail S w w1 p m1 u1 D F)) (ht : 0 < t) (hKe : K = L) :
    Calls Tryz.prog 16 #[.pointer (some ⟨p, 0, none⟩), .int .i64 keep, .int .i64 t] w fun e w' => e = .returned (.int .i64 0) ∧ To S w w' p (wiped D F) := by
  have HS := Lib.hid hs
  clear hs
  subst hKe
  go_enter Tryz.func16, Tryz.ntmps16
  go_wp2_with (first | (go_at_call 38; refine HS.out.mono ?_; rintro e w1 ⟨rfl, hr⟩; have HT := Lib.hid hr; clear hr) | (go_at_call 39; refine (by assumption : Hid (Tail _ _ _ _ _ _ _ _)).out.mono ?_; rintro e w3 ⟨rfl, x1, x2, x3, x4, x5⟩) | (go_at_call 28; refine (by assumption : Hid (Calls _ _ _ _ _)).out.mono ?_; rintro e w5 ⟨rfl, hto⟩; have HZ := Lib.hid hto; clear hto))
  all_goals
    go_ret
    exact ⟨rfl, (by assumption : Hid (To _ _ _ _ _)).out⟩
set_option maxHeartbeats 1000000 in
theorem walk_nil {S : Nat → Prop} {w : World} {p : Nat} (keep t m : Int) (L cp b : Nat) (c5 : w.cell? ⟨p, 5, none⟩ = some (Value.slice (some ⟨b, 0, none⟩) L cp)) (_hk1 : -9223372036854775808 ≤ keep) (_hk2 : keep ≤ 9223372036854775807) (hL : L ≤ 1099511627776) (hLc : L ≤ cp) (_hcm : cp ≤ 9223372036854775807)
    (e1 : (if keep < 0 then 0 else keep) = m) (hm0 : 0 ≤ m) (hmL : m < L) (m1 u1 : Value) (D : St) (F : Fs)
    (hs : Settled S w p m (fun w1 => Tail S w w1 p m1 u1 D F ∧ w1.cell? ⟨b, m.toNat * 2 + 1, none⟩ = some .nilFunc)) (ht : 0 < t) :
    Calls Tryz.prog 16 #[.pointer (some ⟨p, 0, none⟩), .int .i64 keep, .int .i64 t] w fun e w' => e = .returned (.int .i64 0) ∧ To S w w' p (wiped D F) := by
  have HS := Lib.hid hs
  have hq1 := neq1
  clear hs
  go_enter Tryz.func16, Tryz.ntmps16
  go_wp2_with (first | (go_at_call 38; refine HS.out.mono ?_; rintro e w1 ⟨rfl, hr, ctv⟩; have HT := Lib.hid hr; clear hr) | (go_at_call 39; refine (by assumption : Hid (Tail _ _ _ _ _ _ _ _)).out.mono ?_; rintro e w3 ⟨rfl, x1, x2, x3, x4, x5⟩) | (go_at_call 28; refine (by assumption : Hid (Calls _ _ _ _ _)).out.mono ?_; rintro e w5 ⟨rfl, hto⟩; have HZ := Lib.hid hto; clear hto))
  all_goals
    go_ret
    exact ⟨rfl, (by assumption : Hid (To _ _ _ _ _)).out⟩
set_option maxHeartbeats 1000000 in
theorem walk_torn {S : Nat → Prop} {w : World} {p : Nat} (keep t m : Int) (L cp b : Nat) (c5 : w.cell? ⟨p, 5, none⟩ = some (Value.slice (some ⟨b, 0, none⟩) L cp)) (_hk1 : -9223372036854775808 ≤ keep) (_hk2 : keep ≤ 9223372036854775807) (hL : L ≤ 1099511627776) (hLc : L ≤ cp) (_hcm : cp ≤ 9223372036854775807)
    (e1 : (if keep < 0 then 0 else keep) = m) (hm0 : 0 ≤ m) (hmL : m < L) (m1 u1 : Value) (D : St) (F : Fs)
    (g : FuncId) (caps : Array Value) (hs : Settled S w p m (fun w1 => w1.cell? ⟨b, m.toNat * 2 + 1, none⟩ = some (.func (.func g) #[] caps) ∧ Ch.EntersC g ∧ Calls Tryz.prog g (#[.pointer (some ⟨p, 3, none⟩), .int .i64 t] ++ caps) w1.drew fun e w2 => e = .returned (.tuple #[]) ∧ Tail S w w2 p m1 u1 D F)) (ht : 0 < t) :
    Calls Tryz.prog 16 #[.pointer (some ⟨p, 0, none⟩), .int .i64 keep, .int .i64 t] w fun e w' => e = .returned (.int .i64 0) ∧ To S w w' p (wiped D F) := by
  have HS := Lib.hid hs
  have hq2 := neq2
  clear hs
  go_enter Tryz.func16, Tryz.ntmps16
  go_wp2_with fail
  refine HS.out.mono ?_
  rintro e w1 ⟨rfl, ctv, hen, hca⟩
  obtain ⟨W1, hW1⟩ : ∃ W1, W1 = w1.drew := ⟨_, rfl⟩
  have ctv2 : W1.cell? ⟨b, m.toNat * 2 + 1, none⟩ = some (.func (.func g) #[] caps) := by rw [hW1]; exact ctv
  rw [← hW1] at hca
  have HE := Lib.hid hen
  have HCA := Lib.hid hca
  have HW1 := Lib.hid hW1
  clear hen hca hW1
  go_wp2_with fail
  refine wp_region_still_tail 8 (by kernel_rfl) (by kernel_rfl) ?_
  simp only [List.take_succ_cons, List.take_zero, List.drop_succ_cons, List.drop_zero]
  change wpStill _ _ w1.drew _ _ _
  rw [← HW1.out]
  repeat (with_reducible refine wpStill_step (fun K hK => ?_); go_simp; with_reducible refine hK _ ?_; clear hK K)
  with_reducible refine wpStill_nil ?_
  change wpList _ _ _ _ _ w1.drew
  rw [← HW1.out]
  go_wp2_with fail
  rw [HE.out, Oper.upon_enter]
  refine HCA.out.mono ?_
  rintro e w2 ⟨rfl, hr⟩
  have HT := Lib.hid hr
  clear hr ctv ctv2
  go_wp2_with (first | (go_at_call 39; refine (by assumption : Hid (Tail _ _ _ _ _ _ _ _)).out.mono ?_; rintro e w3 ⟨rfl, x1, x2, x3, x4, x5⟩) | (go_at_call 28; refine (by assumption : Hid (Calls _ _ _ _ _)).out.mono ?_; rintro e w5 ⟨rfl, hto⟩; have HZ := Lib.hid hto; clear hto))
  all_goals
    go_ret
    exact ⟨rfl, (by assumption : Hid (To _ _ _ _ _)).out⟩
end Go.Proofs.YtaoneiicoaiehaaGreat.Cs
namespace Go.Proofs.YtaoneiicoaiehaaGreat.Ca
set_option maxRecDepth 100000
open Go Go.RowKit Go.Lib Go.Proofs.YtaoneiicoaiehaaGreat.Mp Go.Proofs.YtaoneiicoaiehaaGreat.Dh Go.Proofs.YtaoneiicoaiehaaGreat.Ext Go.Proofs.YtaoneiicoaiehaaGreat.Fm Go.Proofs.YtaoneiicoaiehaaGreat.Dk Go.Proofs.YtaoneiicoaiehaaGreat.Cl Go.Proofs.YtaoneiicoaiehaaGreat.Bu Go.Proofs.YtaoneiicoaiehaaGreat.Ch Go.Proofs.YtaoneiicoaiehaaGreat.La Go.Proofs.YtaoneiicoaiehaaGreat.Co Go.Proofs.YtaoneiicoaiehaaGreat.Se Go.Proofs.YtaoneiicoaiehaaGreat.Nm Go.Proofs.YtaoneiicoaiehaaGreat.St Go.Proofs.YtaoneiicoaiehaaGreat.Ap Go.Proofs.YtaoneiicoaiehaaGreat.Tr Go.Proofs.YtaoneiicoaiehaaGreat.Kl Go.Proofs.YtaoneiicoaiehaaGreat.Sy Go.Proofs.YtaoneiicoaiehaaGreat.Cr Go.Proofs.YtaoneiicoaiehaaGreat.Cs
theorem crash_wiped (D : St) (keep t : Int) : stCrash D keep t = wiped D (crashed D keep t) := rfl
theorem crashed_low (D : St) (keep t : Int) (h : t ≤ 0) : crashed D keep t = runs D.sure (D.loose.take (keeps D keep)) := by
  unfold crashed
  split
  · rw [if_neg (by omega)]
  · rfl
theorem crashed_end (D : St) (keep t : Int) (h : keeps D keep = D.loose.length) : crashed D keep t = runs D.sure (D.loose.take (keeps D keep)) := by
  unfold crashed
  have : D.loose[keeps D keep]? = none := by rw [h]; simp
  rw [this]
theorem crashed_other (D : St) (keep t : Int) (c : Cmd) (h : D.loose[keeps D keep]? = some c) (hc : ∀ k s, c ≠ .app k s) : crashed D keep t = runs D.sure (D.loose.take (keeps D keep)) := by
  unfold crashed
  rw [h]
  cases c with
  | app k s => exact absurd rfl (hc k s)
  | cut k n => rfl
  | mov j k => rfl
  | rem k => rfl
theorem crashed_torn (D : St) (keep t : Int) (k s : ByteArray) (h : D.loose[keeps D keep]? = some (.app k s)) (ht : 0 < t) : crashed D keep t = Cmd.run (runs D.sure (D.loose.take (keeps D keep))) (.app k (torn s t)) := by
  unfold crashed
  rw [h]
  show (if 0 < t then _ else _) = _
  rw [if_pos ht]
theorem crash_any {S : Nat → Prop} {w : World} {p : Nat} {D : St} (h : Full w S p D) (keep t : Int) (hk : -9223372036854775808 ≤ keep ∧ keep ≤ 9223372036854775807) (ht : t ≤ 9223372036854775807) (hlen : D.loose.length ≤ 1099511627776) :
    Calls Tryz.prog 16 #[.pointer (some ⟨p, 0, none⟩), .int .i64 keep, .int .i64 t] w fun e w' => e = .returned (.int .i64 0) ∧ To S w w' p (stCrash D keep t) := by
  obtain ⟨d, g1, g2, g3, g4, g5, g6, g7, g8⟩ := h
  rw [crash_wiped]
  obtain ⟨m, hm⟩ : ∃ m : Int, m = if keep < 0 then 0 else keep := ⟨_, rfl⟩
  have hm0 : 0 ≤ m := by rw [hm]; split <;> omega
  have hK : (keeps D keep : Int) = if (D.loose.length : Int) < m then (D.loose.length : Int) else m := by
    unfold keeps
    rw [hm]
    split <;> split <;> omega
  have hKL : keeps D keep ≤ D.loose.length := by
    have : (keeps D keep : Int) ≤ D.loose.length := by rw [hK]; split <;> omega
    omega
  have hset := settle_any g1 D.loose g2 (keeps D keep) hKL (by rw [g5]; exact g8.oks) (by rw [g5]; exact g8.used)
  have hF : used (runs D.sure (D.loose.take (keeps D keep))) ≤ 16777216 := runs_used _ _ (oks_take _ _ _ g8.oks) g8.used
  have hplain : Settled S w p (keeps D keep) (fun w1 => Tail S w w1 p (.map (some d.m1)) (.int .i64 (used (view d.es1))) D (runs D.sure (D.loose.take (keeps D keep)))) := by
    refine hset.mono ?_
    rintro e w1 ⟨rfl, es', c', hv, hr⟩
    exact ⟨rfl, tail_of (d2 := { d with es2 := es', c2 := c', lv := .slice none 0 0 }) _ hr rfl (by show view es' = _; rw [hv, g5]) g3 g8.room hF⟩
  rcases g2 with ⟨hlv, hnil⟩ | ⟨b, cap, cs, hlv, ha, h1, h2, h3, h4⟩
  · have c5 : w.cell? ⟨p, 5, none⟩ = some (.slice none 0 0) := by rw [← hlv]; exact DskAt.c g1 5
    have hK0 : keeps D keep = 0 := by rw [hnil] at hKL; simpa using hKL
    rw [crashed_end D keep t (by rw [hK0, hnil]; rfl)]
    have e2 : (if 0 < m then 0 else m) = 0 := by split <;> omega
    have hs : Settled S w p 0 (fun w1 => Tail S w w1 p (.map (some d.m1)) (.int .i64 (used (view d.es1))) D (runs D.sure (D.loose.take (keeps D keep)))) := by
      have := hplain
      rw [hK0] at this ⊢
      exact this
    by_cases hlow : t ≤ 0
    · exact walk_none_low keep t m c5 hk.1 hk.2 hm.symm e2 _ _ D _ hs hlow
    · exact walk_none_all keep t m c5 hk.1 hk.2 hm.symm e2 _ _ D _ hs (by omega)
  · have c5 : w.cell? ⟨p, 5, none⟩ = some (.slice (some ⟨b, 0, none⟩) D.loose.length cap) := by rw [← hlv]; exact DskAt.c g1 5
    unfold maxLen at h2
    by_cases hlow : t ≤ 0
    · rw [crashed_low D keep t hlow]
      exact walk_low keep t m (keeps D keep) D.loose.length cap b c5 hk.1 hk.2 hlen h1 h2 hm.symm hK.symm hKL _ _ D _ hplain hlow
    by_cases hend : keeps D keep = D.loose.length
    · rw [crashed_end D keep t hend]
      exact walk_all keep t m (keeps D keep) D.loose.length cap b c5 hk.1 hk.2 hlen h1 h2 hm.symm hK.symm hKL _ _ D _ hplain (by omega) hend
    have hlt : keeps D keep < D.loose.length := by omega
    have hmK : m = (keeps D keep : Int) := by
      rw [hK]; split
      · rename_i hx; rw [if_pos hx] at hK; omega
      · rfl
    have hml : m < D.loose.length := by omega
    have hmn : m.toNat = keeps D keep := by omega
    obtain ⟨dv, tv, x1, x2, x3⟩ := h4 (keeps D keep) hlt
    have hcell : ∀ w1 d1, Ran S w w1 p d1 → w1.cell? ⟨b, m.toNat * 2 + 1, none⟩ = some tv := fun w1 d1 hr => by
      rw [hmn]
      exact (cell_of (hr.plain _ _ ⟨_, _, _, rfl, by decide, by decide⟩ ha.2) _).trans x2
    have hget : D.loose[keeps D keep]? = some D.loose[keeps D keep] := List.getElem?_eq_getElem hlt
    rcases hc : D.loose[keeps D keep] with ⟨k, s⟩ | ⟨k, n⟩ | ⟨j, k⟩ | k
    · rw [hc] at hget x3
      obtain ⟨b1, b2, _, rfl, a1, a2⟩ := x3
      have hok : Cmd.ok (runs D.sure (D.loose.take (keeps D keep))) (.app k s) := oks_at _ _ _ _ g8.oks hget
      rw [crashed_torn D keep t k s hget (by omega)]
      refine walk_torn keep t m D.loose.length cap b c5 hk.1 hk.2 hlen h1 h2 hm.symm hm0 hml (.map (some d.m1)) (.int .i64 (used (view d.es1))) D _ 52 #[pt b1, pt b2] ?_ (by omega)
      rw [hmK]
      refine hset.mono ?_
      rintro e w1 ⟨rfl, es', c', hv, hr⟩
      have hv' : view es' = runs D.sure (D.loose.take (keeps D keep)) := by rw [hv, g5]
      have := hcell w1 _ hr
      rw [hmK] at this
      refine ⟨rfl, this, fun _ _ => by go_simp, ?_⟩
      refine (do_torn (w := w1.drew) false (Bu.DskAt.drew hr.at_) k s t ⟨by omega, ht⟩ (by show Cmd.ok (view es') _; rw [hv']; exact hok) b1 b2 (hr.plain _ _ (plain1 _) a1.2) (hr.plain _ _ (plain1 _) a2.2)).mono ?_
      rintro e w2 ⟨rfl, es2, c2, hv2, hr2⟩
      have hv2' : view es2 = Cmd.run (runs D.sure (D.loose.take (keeps D keep))) (.app k (torn s t)) := by rw [hv2]; show Cmd.run (view es') _ = _; rw [hv']
      have hr3 := Ran.trans hr (Bu.Ran.of_drew hr2)
      have hts := torn_size s t
      exact ⟨rfl, tail_of (d2 := { d with es2 := es2, c2 := c2, lv := .slice none 0 0 }) _ hr3 rfl hv2' g3 g8.room (run_used _ _ (by simp only [Cmd.ok] at hok ⊢; omega) hF)⟩
    all_goals
      rw [hc] at hget x3
      have hnil : tv = .nilFunc := by
        first
          | exact x3.elim
          | (obtain ⟨_, _, _, e, _⟩ := x3; exact e)
          | (obtain ⟨_, _, e, _⟩ := x3; exact e)
      subst hnil
      rw [crashed_other D keep t _ hget (fun _ _ => by simp)]
      refine walk_nil keep t m D.loose.length cap b c5 hk.1 hk.2 hlen h1 h2 hm.symm hm0 hml (.map (some d.m1)) (.int .i64 (used (view d.es1))) D _ ?_ (by omega)
      rw [hmK]
      refine hset.mono ?_
      rintro e w1 ⟨rfl, es', c', hv, hr⟩
      have := hcell w1 _ hr
      rw [hmK] at this
      exact ⟨rfl, tail_of (d2 := { d with es2 := es', c2 := c', lv := .slice none 0 0 }) _ hr rfl (by show view es' = _; rw [hv, g5]) g3 g8.room hF, this⟩
end Go.Proofs.YtaoneiicoaiehaaGreat.Ca

namespace Go.Proofs.YtaoneiicoaiehaaGreat.Rd
set_option maxRecDepth 100000
open Go Go.RowKit Go.Lib Go.Proofs.YtaoneiicoaiehaaGreat.Mp Go.Proofs.YtaoneiicoaiehaaGreat.Dh Go.Proofs.YtaoneiicoaiehaaGreat.Ext Go.Proofs.YtaoneiicoaiehaaGreat.Fm Go.Proofs.YtaoneiicoaiehaaGreat.Dk Go.Proofs.YtaoneiicoaiehaaGreat.Cl Go.Proofs.YtaoneiicoaiehaaGreat.Bu Go.Proofs.YtaoneiicoaiehaaGreat.Ch Go.Proofs.YtaoneiicoaiehaaGreat.Nm Go.Proofs.YtaoneiicoaiehaaGreat.St Go.Proofs.YtaoneiicoaiehaaGreat.Ap Go.Proofs.YtaoneiicoaiehaaGreat.Tr
def ret (l : List UInt8) (e : Int) : Ending := .returned (.tuple #[.string ⟨l.toArray⟩, .int .i64 e])
theorem ret_nil (e : Int) : ret [] e = .returned (.tuple #[.string ⟨#[]⟩, .int .i64 e]) := rfl
/-- A piece of a row of bytes as a string. -/
theorem piece {w : World} {S : Nat → Prop} {b L cp : Nat} {t : List UInt8} (h : TextAt w S (.slice (some ⟨b, 0, none⟩) L cp) t) (o m c : Nat) :
    m ≤ t.length - o → (convert 97 9 (.slice (some ⟨b, o, none⟩) m c)).run Tryz.prog w = .ok (.string ⟨((t.drop o).take m).toArray⟩) w := by
  intro hm
  have hl : ((t.drop o).take m).length = m := by simp; omega
  have := run_convert_bytes_back (P := Tryz.prog) w 97 9 5 ⟨b, o, none⟩ c ((t.drop o).take m) undL undE undS (fun j hj => by
    rw [hl] at hj
    have h1 := h.cells (o + j) (.int .u8 (t[o + j]'(by omega)).toNat) (by rw [u8s, List.getElem?_map, List.getElem?_eq_getElem (by omega)]; rfl)
    have e1 : Addr.add ⟨b, 0, none⟩ (o + j) = ⟨b, o + j, none⟩ := by
      cases hoj : o + j <;> simp [Addr.add]
    have e2 : Addr.add ⟨b, o, none⟩ j = ⟨b, o + j, none⟩ := by
      cases j <;> simp [Addr.add]
    rw [e1] at h1
    rw [e2, h1]
    simp)
  rw [hl] at this
  exact this
theorem wpList_look (w : World) {ops : Array Oper} {rest : List Oper} {o : Oper} {a : Act} {Q : Exit → Act → World → Prop} (hg : o.guard = none) (m x : Operand)
    (hop : o.op = Op.lookup 55 m x true) (mb : Nat) (k : ByteArray) (v : Value) (b : Bool) (hm : a.eval m = .map (some mb)) (hx : a.eval x = .string k)
    (hrun : (Instr.lookup 55 (.map (some mb)) (.string k) true).run Tryz.prog w = .ok (.tuple #[v, .bool b]) w)
    (hK : wpList Tryz.prog ops Q rest (a.put o.dst (.tuple #[v, .bool b])) w) : wpList Tryz.prog ops Q (o :: rest) a w := by
  refine wpList_plain hg fun K' hK' => ?_
  unfold Oper.wp
  simp [execOp, hop, hm, hx, hrun, Result.andThen]
  exact hK' _ _ hK
set_option maxRecDepth 20000 in
set_option maxHeartbeats 2000000 in
theorem read_any {S : Nat → Prop} {w : World} {p : Nat} {D : St} (h : Full w S p D) (k : ByteArray) (o n : Int) (hk : k.size ≤ maxLen) (ho : o ≤ 9223372036854775807) (hn : n ≤ 9223372036854775807) :
    Calls Tryz.prog 30 #[.pointer (some ⟨p, 0, none⟩), .string k, .int .i64 o, .int .i64 n] w fun e w' => e = ret (stRead D k o n).1 (stRead D k o n).2 ∧ To S w w' p D := by
  have ht := To.alloc h (cap1 (.string k))
  have hnew := heap_new w (cap1 (.string k))
  obtain ⟨W, hW⟩ : ∃ W, W = w.alloc (cap1 (.string k)) := ⟨_, rfl⟩
  rw [← hW] at ht hnew
  obtain ⟨d, g1, g2, g3, g4, g5, g6, g7, g8⟩ := ht.2
  have HTo := Lib.hid ht
  unfold stRead
  by_cases hst : D.still = true
  · rw [if_pos hst, ret_nil]
    have HR := Lib.hid (ready_still g1 (g7.trans hst) (.slice (some ⟨w.heap.size, 0, none⟩) 1 1))
    rw [hW] at HR HTo
    clear hst g1 g2 g3 g4 g5 g6 g7 g8 ht hW h hnew
    go_enter Tryz.func30, Tryz.ntmps30
    go_wp2_with (go_at_call 48; refine HR.out.mono ?_; rintro e w1 ⟨rfl, rfl⟩)
    go_ret2
    exact ⟨rfl, HTo.out⟩
  have hst' : d.still = false := by rw [g7]; simpa using hst
  rw [if_neg hst]
  have HR0 := ready_names g1 hst' [k] w.heap.size 1 (fun i hi => by
    have : i = 0 := by simpa using hi
    subst this; rw [cell_of hnew]; rfl) (by simpa using hk) (by simp)
  rw [single] at HR0
  by_cases hnm : nameOk k = false
  · rw [if_pos hnm, ret_nil]
    rw [hnm] at HR0
    have HR := Lib.hid HR0
    rw [hW] at HR HTo
    clear hst hst' HR0 g1 g2 g3 g4 g5 g6 g7 g8 ht hW h hnew hnm
    go_enter Tryz.func30, Tryz.ntmps30
    go_wp2_with (go_at_call 48; refine HR.out.mono ?_; rintro e w1 ⟨rfl, rfl⟩)
    go_ret2
    exact ⟨rfl, HTo.out⟩
  rw [if_neg hnm]
  have hn' : nameOk k = true := by simpa using hnm
  rw [hn'] at HR0
  have HR := Lib.hid HR0
  have c1 : W.cell? ⟨p, 1, none⟩ = some (.map (some d.m1)) := DskAt.c g1 1
  have HDk := Lib.hid g1
  have HNow := Lib.hid g4
  have HW := Lib.hid hW
  rw [hW] at HR c1 HTo
  clear hst hst' HR0 g1 g2 g3 g4 g5 g6 g7 g8 ht hW h hnew hnm hn'
  by_cases hneg : o < 0 ∨ n < 0
  · rw [if_pos hneg, ret_nil]
    by_cases ho0 : o < 0
    · clear hneg
      go_enter Tryz.func30, Tryz.ntmps30
      go_wp2_with (go_at_call 48; refine HR.out.mono ?_; rintro e w1 ⟨rfl, rfl⟩)
      go_ret2
      exact ⟨rfl, HTo.out⟩
    · have hn0 : n < 0 := by omega
      clear hneg
      go_enter Tryz.func30, Tryz.ntmps30
      go_wp2_with (go_at_call 48; refine HR.out.mono ?_; rintro e w1 ⟨rfl, rfl⟩)
      go_ret2
      exact ⟨rfl, HTo.out⟩
  rw [if_neg hneg]
  have ho0 : ¬ o < 0 := by omega
  have hn0 : ¬ n < 0 := by omega
  clear hneg
  rcases hg : get D.now k with _ | t
  · have hlook := look_none HDk.out k (by rw [HNow.out]; exact hg) 0
    change (Instr.lookup _ _ _ _).run _ W = .ok _ W at hlook
    rw [HW.out] at hlook
    clear hg
    have HLk := Lib.hid hlook
    clear hlook
    show Calls _ _ _ _ fun e w' => e = ret [] 3 ∧ _
    rw [ret_nil]
    go_enter Tryz.func30, Tryz.ntmps30
    go_wp2_with (first | (go_at_call 48; refine HR.out.mono ?_; rintro e w1 ⟨rfl, rfl⟩) | (at_lookup; refine wpList_look _ rfl _ _ rfl d.m1 k _ _ rfl rfl HLk.out ?_))
    go_ret2
    exact ⟨rfl, HTo.out⟩
  · obtain ⟨v, htx, hlook⟩ := look_some HDk.out k t (by rw [HNow.out]; exact hg)
    have hlook := hlook 0
    change (Instr.lookup _ _ _ _).run _ W = .ok _ W at hlook
    clear hg
    show Calls _ _ _ _ fun e w' => e = ret ((t.drop o.toNat).take n.toNat) 0 ∧ _
    have HTX := Lib.hid htx
    have hsh : (v = .slice none 0 0 ∧ t = []) ∨ ∃ b cp, v = .slice (some ⟨b, 0, none⟩) t.length cp ∧ t.length ≤ cp ∧ cp ≤ 9223372036854775807 := by
      rcases htx with ⟨h, h'⟩ | ⟨b, cap, cs, h, _, h1, _, h2, _⟩
      · exact .inl ⟨h, h'⟩
      · exact .inr ⟨b, cap, h, h1, by unfold maxLen at h2; exact h2⟩
    clear htx
    rcases hsh with ⟨rfl, rfl⟩ | ⟨b, cp, rfl, hcp, hcm⟩
    · rw [List.drop_nil, List.take_nil, ret_nil]
      rw [HW.out] at hlook
      have HLk := Lib.hid hlook
      clear hlook
      have hconv : ∀ (W : World), (convert 97 9 (.slice none 0 0)).run Tryz.prog W = .ok (.string ⟨#[]⟩) W := fun W => by kernel_rfl
      have hm1 : (if 0 < o then 0 else o) = 0 := by split <;> omega
      have hm2 : (if 0 < n then 0 else n) = 0 := by split <;> omega
      go_enter Tryz.func30, Tryz.ntmps30
      go_wp2_with (first | (go_at_call 48; refine HR.out.mono ?_; rintro e w1 ⟨rfl, rfl⟩) | (at_lookup; refine wpList_look _ rfl _ _ rfl d.m1 k _ _ rfl rfl HLk.out ?_))
      all_goals
        go_ret2
        exact ⟨rfl, HTo.out⟩
    · rw [HW.out] at hlook
      have HLk := Lib.hid hlook
      clear hlook
      obtain ⟨o', hoe⟩ : ∃ o' : Int, o' = if (t.length : Int) < o then (t.length : Int) else o := ⟨_, rfl⟩
      have ho1 : 0 ≤ o' ∧ o' ≤ t.length := by rw [hoe]; split <;> omega
      obtain ⟨n', hne⟩ : ∃ n' : Int, n' = if ((t.length - o'.toNat : Nat) : Int) < n then ((t.length - o'.toNat : Nat) : Int) else n := ⟨_, rfl⟩
      have hn1 : 0 ≤ n' ∧ n' ≤ ((t.length - o'.toNat : Nat) : Int) := by rw [hne]; split <;> omega
      have hres : (t.drop o.toNat).take n.toNat = (t.drop o'.toNat).take n'.toNat := by
        by_cases hlo : (t.length : Int) < o
        · rw [if_pos hlo] at hoe
          rw [List.drop_of_length_le (by omega), List.drop_of_length_le (l := t) (i := o'.toNat) (by omega)]
          simp
        · rw [if_neg hlo] at hoe
          rw [hoe]
          by_cases hln : ((t.length - o'.toNat : Nat) : Int) < n
          · rw [if_pos hln] at hne
            rw [List.take_of_length_le (by rw [List.length_drop]; omega), List.take_of_length_le (by rw [List.length_drop]; omega)]
          · rw [if_neg hln] at hne
            rw [hne]
      have hconv : ∀ c : Nat, (convert 97 9 (.slice (some ⟨b, o'.toNat, none⟩) n'.toNat c)).run Tryz.prog (w.alloc (cap1 (.string k))) = .ok (.string ⟨((t.drop o'.toNat).take n'.toNat).toArray⟩) (w.alloc (cap1 (.string k))) := fun c => by
        have hx := HTX.out
        rw [HW.out] at hx
        exact piece hx o'.toNat n'.toNat c (by omega)
      have e1 := hoe.symm
      have e2 := hne.symm
      have p1 := ho1.1
      have p2 := ho1.2
      have p3 := hn1.1
      have p4 := hn1.2
      rw [hres]
      by_cases hoc : cp = o'.toNat
      · have hz : n'.toNat = 0 := by omega
        have hconv0 : ∀ c : Nat, (convert 97 9 (.slice (some ⟨b, 0, none⟩) n'.toNat c)).run Tryz.prog (w.alloc (cap1 (.string k))) = .ok (.string ⟨((t.drop o'.toNat).take n'.toNat).toArray⟩) (w.alloc (cap1 (.string k))) := fun c => by
          have hx := HTX.out
          rw [HW.out] at hx
          have := piece hx 0 n'.toNat c (by omega)
          rw [this, hz]; simp
        clear hoe hne ho1 hn1 hres hz
        go_enter Tryz.func30, Tryz.ntmps30
        go_wp2_with (first | (go_at_call 48; refine HR.out.mono ?_; rintro e w1 ⟨rfl, rfl⟩) | (at_lookup; refine wpList_look _ rfl _ _ rfl d.m1 k _ _ rfl rfl HLk.out ?_))
        all_goals
          go_ret2
          exact ⟨rfl, HTo.out⟩
      · have hoc2 : ¬ cp - o'.toNat = 0 := by omega
        clear hoe hne ho1 hn1 hres
        go_enter Tryz.func30, Tryz.ntmps30
        go_wp2_with (first | (go_at_call 48; refine HR.out.mono ?_; rintro e w1 ⟨rfl, rfl⟩) | (at_lookup; refine wpList_look _ rfl _ _ rfl d.m1 k _ _ rfl rfl HLk.out ?_))
        all_goals
          go_ret2
          exact ⟨rfl, HTo.out⟩
end Go.Proofs.YtaoneiicoaiehaaGreat.Rd
namespace Go.Proofs.YtaoneiicoaiehaaGreat.Rp
set_option maxRecDepth 100000
open Go Go.RowKit Go.Lib Go.Proofs.YtaoneiicoaiehaaGreat.Mp Go.Proofs.YtaoneiicoaiehaaGreat.Dh Go.Proofs.YtaoneiicoaiehaaGreat.Ext Go.Proofs.YtaoneiicoaiehaaGreat.Fm Go.Proofs.YtaoneiicoaiehaaGreat.Dk Go.Proofs.YtaoneiicoaiehaaGreat.Cl Go.Proofs.YtaoneiicoaiehaaGreat.Bu Go.Proofs.YtaoneiicoaiehaaGreat.Ch Go.Proofs.YtaoneiicoaiehaaGreat.Nm Go.Proofs.YtaoneiicoaiehaaGreat.St Go.Proofs.YtaoneiicoaiehaaGreat.Ap Go.Proofs.YtaoneiicoaiehaaGreat.Tr Go.Proofs.YtaoneiicoaiehaaGreat.Rd
set_option maxRecDepth 20000 in
set_option maxHeartbeats 2000000 in
theorem read_at {S : Nat → Prop} {w : World} {p : Nat} {D : St} (h : Full w S p D) (k : ByteArray) (o n : Int) (hk : k.size ≤ maxLen) (ho : o ≤ 9223372036854775807) (hn : n ≤ 9223372036854775807) :
    Calls Tryz.prog 30 #[.pointer (some ⟨p, 0, none⟩), .string k, .int .i64 o, .int .i64 n] w fun e w' => e = ret (stRead D k o n).1 (stRead D k o n).2 ∧ w' = w.alloc (cap1 (.string k)) := by
  have ht := To.alloc h (cap1 (.string k))
  have hnew := heap_new w (cap1 (.string k))
  obtain ⟨W, hW⟩ : ∃ W, W = w.alloc (cap1 (.string k)) := ⟨_, rfl⟩
  rw [← hW] at ht hnew
  obtain ⟨d, g1, g2, g3, g4, g5, g6, g7, g8⟩ := ht.2
  unfold stRead
  by_cases hst : D.still = true
  · rw [if_pos hst, ret_nil]
    have HR := Lib.hid (ready_still g1 (g7.trans hst) (.slice (some ⟨w.heap.size, 0, none⟩) 1 1))
    rw [hW] at HR
    clear hst g1 g2 g3 g4 g5 g6 g7 g8 ht hW h hnew
    go_enter Tryz.func30, Tryz.ntmps30
    go_wp2_with (go_at_call 48; refine HR.out.mono ?_; rintro e w1 ⟨rfl, rfl⟩)
    go_ret2
    exact ⟨rfl, rfl⟩
  have hst' : d.still = false := by rw [g7]; simpa using hst
  rw [if_neg hst]
  have HR0 := ready_names g1 hst' [k] w.heap.size 1 (fun i hi => by
    have : i = 0 := by simpa using hi
    subst this; rw [cell_of hnew]; rfl) (by simpa using hk) (by simp)
  rw [single] at HR0
  by_cases hnm : nameOk k = false
  · rw [if_pos hnm, ret_nil]
    rw [hnm] at HR0
    have HR := Lib.hid HR0
    rw [hW] at HR
    clear hst hst' HR0 g1 g2 g3 g4 g5 g6 g7 g8 ht hW h hnew hnm
    go_enter Tryz.func30, Tryz.ntmps30
    go_wp2_with (go_at_call 48; refine HR.out.mono ?_; rintro e w1 ⟨rfl, rfl⟩)
    go_ret2
    exact ⟨rfl, rfl⟩
  rw [if_neg hnm]
  have hn' : nameOk k = true := by simpa using hnm
  rw [hn'] at HR0
  have HR := Lib.hid HR0
  have c1 : W.cell? ⟨p, 1, none⟩ = some (.map (some d.m1)) := DskAt.c g1 1
  have HDk := Lib.hid g1
  have HNow := Lib.hid g4
  have HW := Lib.hid hW
  rw [hW] at HR c1
  clear hst hst' HR0 g1 g2 g3 g4 g5 g6 g7 g8 ht hW h hnew hnm hn'
  by_cases hneg : o < 0 ∨ n < 0
  · rw [if_pos hneg, ret_nil]
    by_cases ho0 : o < 0
    · clear hneg
      go_enter Tryz.func30, Tryz.ntmps30
      go_wp2_with (go_at_call 48; refine HR.out.mono ?_; rintro e w1 ⟨rfl, rfl⟩)
      go_ret2
      exact ⟨rfl, rfl⟩
    · have hn0 : n < 0 := by omega
      clear hneg
      go_enter Tryz.func30, Tryz.ntmps30
      go_wp2_with (go_at_call 48; refine HR.out.mono ?_; rintro e w1 ⟨rfl, rfl⟩)
      go_ret2
      exact ⟨rfl, rfl⟩
  rw [if_neg hneg]
  have ho0 : ¬ o < 0 := by omega
  have hn0 : ¬ n < 0 := by omega
  clear hneg
  rcases hg : get D.now k with _ | t
  · have hlook := look_none HDk.out k (by rw [HNow.out]; exact hg) 0
    change (Instr.lookup _ _ _ _).run _ W = .ok _ W at hlook
    rw [HW.out] at hlook
    clear hg
    have HLk := Lib.hid hlook
    clear hlook
    show Calls _ _ _ _ fun e w' => e = ret [] 3 ∧ _
    rw [ret_nil]
    go_enter Tryz.func30, Tryz.ntmps30
    go_wp2_with (first | (go_at_call 48; refine HR.out.mono ?_; rintro e w1 ⟨rfl, rfl⟩) | (at_lookup; refine wpList_look _ rfl _ _ rfl d.m1 k _ _ rfl rfl HLk.out ?_))
    go_ret2
    exact ⟨rfl, rfl⟩
  · obtain ⟨v, htx, hlook⟩ := look_some HDk.out k t (by rw [HNow.out]; exact hg)
    have hlook := hlook 0
    change (Instr.lookup _ _ _ _).run _ W = .ok _ W at hlook
    clear hg
    show Calls _ _ _ _ fun e w' => e = ret ((t.drop o.toNat).take n.toNat) 0 ∧ _
    have HTX := Lib.hid htx
    have hsh : (v = .slice none 0 0 ∧ t = []) ∨ ∃ b cp, v = .slice (some ⟨b, 0, none⟩) t.length cp ∧ t.length ≤ cp ∧ cp ≤ 9223372036854775807 := by
      rcases htx with ⟨h, h'⟩ | ⟨b, cap, cs, h, _, h1, _, h2, _⟩
      · exact .inl ⟨h, h'⟩
      · exact .inr ⟨b, cap, h, h1, by unfold maxLen at h2; exact h2⟩
    clear htx
    rcases hsh with ⟨rfl, rfl⟩ | ⟨b, cp, rfl, hcp, hcm⟩
    · rw [List.drop_nil, List.take_nil, ret_nil]
      rw [HW.out] at hlook
      have HLk := Lib.hid hlook
      clear hlook
      have hconv : ∀ (W : World), (convert 97 9 (.slice none 0 0)).run Tryz.prog W = .ok (.string ⟨#[]⟩) W := fun W => by kernel_rfl
      have hm1 : (if 0 < o then 0 else o) = 0 := by split <;> omega
      have hm2 : (if 0 < n then 0 else n) = 0 := by split <;> omega
      go_enter Tryz.func30, Tryz.ntmps30
      go_wp2_with (first | (go_at_call 48; refine HR.out.mono ?_; rintro e w1 ⟨rfl, rfl⟩) | (at_lookup; refine wpList_look _ rfl _ _ rfl d.m1 k _ _ rfl rfl HLk.out ?_))
      all_goals
        go_ret2
        exact ⟨rfl, rfl⟩
    · rw [HW.out] at hlook
      have HLk := Lib.hid hlook
      clear hlook
      obtain ⟨o', hoe⟩ : ∃ o' : Int, o' = if (t.length : Int) < o then (t.length : Int) else o := ⟨_, rfl⟩
      have ho1 : 0 ≤ o' ∧ o' ≤ t.length := by rw [hoe]; split <;> omega
      obtain ⟨n', hne⟩ : ∃ n' : Int, n' = if ((t.length - o'.toNat : Nat) : Int) < n then ((t.length - o'.toNat : Nat) : Int) else n := ⟨_, rfl⟩
      have hn1 : 0 ≤ n' ∧ n' ≤ ((t.length - o'.toNat : Nat) : Int) := by rw [hne]; split <;> omega
      have hres : (t.drop o.toNat).take n.toNat = (t.drop o'.toNat).take n'.toNat := by
        by_cases hlo : (t.length : Int) < o
        · rw [if_pos hlo] at hoe
          rw [List.drop_of_length_le (by omega), List.drop_of_length_le (l := t) (i := o'.toNat) (by omega)]
          simp
        · rw [if_neg hlo] at hoe
          rw [hoe]
          by_cases hln : ((t.length - o'.toNat : Nat) : Int) < n
          · rw [if_pos hln] at hne
            rw [List.take_of_length_le (by rw [List.length_drop]; omega), List.take_of_length_le (by rw [List.length_drop]; omega)]
          · rw [if_neg hln] at hne
            rw [hne]
      have hconv : ∀ c : Nat, (convert 97 9 (.slice (some ⟨b, o'.toNat, none⟩) n'.toNat c)).run Tryz.prog (w.alloc (cap1 (.string k))) = .ok (.string ⟨((t.drop o'.toNat).take n'.toNat).toArray⟩) (w.alloc (cap1 (.string k))) := fun c => by
        have hx := HTX.out
        rw [HW.out] at hx
        exact piece hx o'.toNat n'.toNat c (by omega)
      have e1 := hoe.symm
      have e2 := hne.symm
      have p1 := ho1.1
      have p2 := ho1.2
      have p3 := hn1.1
      have p4 := hn1.2
      rw [hres]
      by_cases hoc : cp = o'.toNat
      · have hz : n'.toNat = 0 := by omega
        have hconv0 : ∀ c : Nat, (convert 97 9 (.slice (some ⟨b, 0, none⟩) n'.toNat c)).run Tryz.prog (w.alloc (cap1 (.string k))) = .ok (.string ⟨((t.drop o'.toNat).take n'.toNat).toArray⟩) (w.alloc (cap1 (.string k))) := fun c => by
          have hx := HTX.out
          rw [HW.out] at hx
          have := piece hx 0 n'.toNat c (by omega)
          rw [this, hz]; simp
        clear hoe hne ho1 hn1 hres hz
        go_enter Tryz.func30, Tryz.ntmps30
        go_wp2_with (first | (go_at_call 48; refine HR.out.mono ?_; rintro e w1 ⟨rfl, rfl⟩) | (at_lookup; refine wpList_look _ rfl _ _ rfl d.m1 k _ _ rfl rfl HLk.out ?_))
        all_goals
          go_ret2
          exact ⟨rfl, rfl⟩
      · have hoc2 : ¬ cp - o'.toNat = 0 := by omega
        clear hoe hne ho1 hn1 hres
        go_enter Tryz.func30, Tryz.ntmps30
        go_wp2_with (first | (go_at_call 48; refine HR.out.mono ?_; rintro e w1 ⟨rfl, rfl⟩) | (at_lookup; refine wpList_look _ rfl _ _ rfl d.m1 k _ _ rfl rfl HLk.out ?_))
        all_goals
          go_ret2
          exact ⟨rfl, rfl⟩
end Go.Proofs.YtaoneiicoaiehaaGreat.Rp

namespace Go.Proofs.YtaoneiicoaiehaaGreat.Nw
set_option maxRecDepth 100000
open Go Go.RowKit Go.Lib Go.Proofs.YtaoneiicoaiehaaGreat.Mp Go.Proofs.YtaoneiicoaiehaaGreat.Dh Go.Proofs.YtaoneiicoaiehaaGreat.Ext Go.Proofs.YtaoneiicoaiehaaGreat.Fm Go.Proofs.YtaoneiicoaiehaaGreat.Dk Go.Proofs.YtaoneiicoaiehaaGreat.Cl Go.Proofs.YtaoneiicoaiehaaGreat.Bu Go.Proofs.YtaoneiicoaiehaaGreat.Ch Go.Proofs.YtaoneiicoaiehaaGreat.Nm Go.Proofs.YtaoneiicoaiehaaGreat.St
theorem room_ok (w : World) (n : Int) (h : 0 ≤ n) (h2 : n ≤ 16777216) :
    Calls Tryz.prog 20 #[.int .i64 n] w fun e w' => e = .returned (.bool true) ∧ w' = w := by
  go_enter Tryz.func20, Tryz.ntmps20
  go_wp2
  go_ret
  exact ⟨rfl, rfl⟩
abbrev W1 (w : World) : World := (w.alloc (.cells #[.map (some (w.heap.size + 1)), .int .i64 0] 57)).alloc (.map #[] 0)
theorem none_any (w : World) :
    Calls Tryz.prog 21 #[] w fun e w' => e = .returned (.agg #[.map (some (w.heap.size + 1)), .int .i64 0]) ∧ Below w.heap.size w w' ∧ w'.heap.size = w.heap.size + 2 ∧ w'.heap[w.heap.size + 1]? = some (obj [] 0) := by
  have hmm := @run_makeMap Tryz.prog
  go_enter Tryz.func21, Tryz.ntmps21
  go_wp2
  have e0 : ((w.alloc (.cells #[.map (some (w.heap.size + 1)), .int .i64 0] 57)).alloc (.map #[] 0)).heap[w.heap.size]? = some (.cells #[.map (some (w.heap.size + 1)), .int .i64 0] 57 (0, 0)) := by
    rw [heap_alloc _ _ _ (by rw [size_alloc]; omega)]; exact heap_new w _
  have q0 : ((w.alloc (.cells #[.map (some (w.heap.size + 1)), .int .i64 0] 57)).alloc (.map #[] 0)).cell? ⟨w.heap.size, 0, none⟩ = some (.map (some (w.heap.size + 1))) := cell_of e0 0
  have q1 : ((w.alloc (.cells #[.map (some (w.heap.size + 1)), .int .i64 0] 57)).alloc (.map #[] 0)).cell? ⟨w.heap.size, 1, none⟩ = some (.int .i64 0) := cell_of e0 1
  refine bodyPost_ret (v := .agg #[.map (some (w.heap.size + 1)), .int .i64 0]) (by simp [results, Tryz.results21, go_sem, q0, q1]) rfl ⟨rfl, ?_, ?_, ?_⟩
  · exact ((Below.refl _ _).alloc (Nat.le_refl _) _).alloc (by rw [size_alloc]; omega) _
  · rw [size_alloc, size_alloc]
  · have := heap_new (w.alloc (.cells #[.map (some (w.heap.size + 1)), .int .i64 0] 57)) (.map #[] 0)
    rw [size_alloc] at this; exact this
theorem new_any (w : World) (n : Int) (h : 0 ≤ n) (h2 : n ≤ 16777216) :
    Calls Tryz.prog 6 #[.int .i64 n] w fun e w' => ∃ p, e = .returned (.tuple #[.pointer (some ⟨p, 0, none⟩), .int .i64 0]) ∧ Below w.heap.size w w' ∧ Full w' (fun b => w.heap.size ≤ b ∧ b < w'.heap.size) p ⟨n, [], [], [], -1, false⟩ := by
  have HR := Lib.hid (room_ok w n h h2)
  have HF : Hid (∀ (w1 w2 : World), Below w.heap.size w w1 → w1.heap.size = w.heap.size + 2 → w1.heap[w.heap.size + 1]? = some (obj [] 0) → Below w1.heap.size w1 w2 → w2.heap.size = w1.heap.size + 2 → w2.heap[w1.heap.size + 1]? = some (obj [] 0) →
      Below w.heap.size w (w2.alloc (.cells #[.int .i64 n, .map (some (w.heap.size + 1)), .int .i64 0, .map (some (w1.heap.size + 1)), .int .i64 0, .slice none 0 0, .int .i64 (-1), .bool false] 61)) ∧
      Full (w2.alloc (.cells #[.int .i64 n, .map (some (w.heap.size + 1)), .int .i64 0, .map (some (w1.heap.size + 1)), .int .i64 0, .slice none 0 0, .int .i64 (-1), .bool false] 61)) (fun b => w.heap.size ≤ b ∧ b < (w2.alloc (.cells #[.int .i64 n, .map (some (w.heap.size + 1)), .int .i64 0, .map (some (w1.heap.size + 1)), .int .i64 0, .slice none 0 0, .int .i64 (-1), .bool false] 61)).heap.size) w2.heap.size ⟨n, [], [], [], -1, false⟩) := Lib.hid (by
    intro w1 w2 b1 s1 m1 b2 s2 m2
    refine ⟨(b1.trans (b2.mono (by omega))).alloc (by omega) _, ⟨n, w.heap.size + 1, [], 0, w1.heap.size + 1, [], 0, .slice none 0 0, -1, false⟩, ⟨⟨⟨by omega, by rw [size_alloc]; omega⟩, heap_new w2 _⟩, ⟨⟨by show w.heap.size ≤ w.heap.size + 1; omega, by rw [size_alloc]; show w.heap.size + 1 < _; omega⟩, ?_⟩, ⟨⟨by show w.heap.size ≤ w1.heap.size + 1; omega, by rw [size_alloc]; show w1.heap.size + 1 < _; omega⟩, ?_⟩, ?_, ⟨by simp, by simp, by simp⟩, ⟨by simp, by simp, by simp⟩, ⟨by simp, by simp⟩⟩, .inl ⟨rfl, rfl⟩, rfl, rfl, rfl, rfl, rfl, ?_⟩
    · show (w2.alloc _).heap[w.heap.size + 1]? = _
      rw [heap_alloc _ _ _ (by omega), b2.block _ (by omega)]; exact m1
    · show (w2.alloc _).heap[w1.heap.size + 1]? = _
      rw [heap_alloc _ _ _ (by omega)]; exact m2
    · show w.heap.size + 1 ≠ w1.heap.size + 1; omega
    · exact ⟨trivial, rfl, by simp [used], ⟨h, h2⟩, ⟨Int.le_refl _, (by decide : (-1 : Int) ≤ 9223372036854775807)⟩⟩)
  go_enter Tryz.func6, Tryz.ntmps6
  go_wp2_with fail
  refine HR.out.mono ?_
  rintro e w0 ⟨rfl, rfl⟩
  go_wp2_with fail
  refine (none_any _).mono ?_
  rintro e w1 ⟨rfl, b1, s1, m1⟩
  have HB1 := Lib.hid b1
  have HS1 := Lib.hid s1
  have HM1 := Lib.hid m1
  clear b1 s1 m1
  go_wp2_with fail
  refine (none_any _).mono ?_
  rintro e w2 ⟨rfl, b2, s2, m2⟩
  have HQ := Lib.hid (HF.out w1 w2 HB1.out HS1.out HM1.out b2 s2 m2)
  clear b2 s2 m2
  go_wp2
  go_ret2
  exact ⟨_, rfl, HQ.out⟩
end Go.Proofs.YtaoneiicoaiehaaGreat.Nw
