/- The contract of disk.Append. The contract of disk.Truncate. The contracts of disk.Sync, Fuse, Used, Loose and Crash. The contract of disk.Read. The contract of disk.Read, with the world that it leaves. The contract of disk.New, where the room may be. -/
import Derived.Test.YtmnaamjoikfpbaaDb1
import Derived.Deep.QuietTactic
import Derived.BigQuiet
import Derived.Maps.OwnOps
namespace Go.Proofs.Ytmnaamjoikfpbaa.Ap
open Go Go.RowKit Go.Lib Go.Proofs.Ytmnaamjoikfpbaa.Mp Go.Proofs.Ytmnaamjoikfpbaa.Dh Go.Proofs.Ytmnaamjoikfpbaa.Fm Go.Proofs.Ytmnaamjoikfpbaa.Dk Go.Proofs.Ytmnaamjoikfpbaa.Cl Go.Proofs.Ytmnaamjoikfpbaa.Bu Go.Proofs.Ytmnaamjoikfpbaa.Ch Go.Proofs.Ytmnaamjoikfpbaa.Nm Go.Proofs.Ytmnaamjoikfpbaa.St
/-- Three blocks of a call's own: two variables that a closure takes, and the row of names. -/
theorem three {S : Nat → Prop} {w : World} {p : Nat} {D : St} (h : Full w S p D) (a b c : Obj) :
    To S w (((w.alloc a).alloc b).alloc c) p D ∧ (((w.alloc a).alloc b).alloc c).heap[w.heap.size]? = some a ∧ (((w.alloc a).alloc b).alloc c).heap[w.heap.size + 1]? = some b ∧
      (((w.alloc a).alloc b).alloc c).heap[w.heap.size + 2]? = some c ∧ (((w.alloc a).alloc b).alloc c).heap.size = w.heap.size + 3 := by
  have h1 := To.alloc h a
  have h2 := h1.trans (To.alloc h1.2 b)
  have h3 := h2.trans (To.alloc h2.2 c)
  have e1 := heap_new (w.alloc a) b
  have e2 := heap_new ((w.alloc a).alloc b) c
  rw [size_alloc] at e1
  rw [size_alloc, size_alloc] at e2
  refine ⟨h3, ?_, ?_, e2, by rw [size_alloc, size_alloc, size_alloc]⟩
  · rw [heap_alloc _ _ _ (by rw [size_alloc, size_alloc]; omega), heap_alloc _ _ _ (by rw [size_alloc]; omega)]; exact heap_new w a
  · rw [heap_alloc _ _ _ (by rw [size_alloc, size_alloc]; omega)]; exact e1
theorem drewN {S : Nat → Prop} {w w1 : World} {p : Nat} {D : St} (h : To S w w1 p D) (n : Nat) : To S w (w1.drewN n) p D := ⟨⟨h.1.os, h.1.tape, h.1.output, h.1.size, h.1.block⟩, Full.frame h.2 fun _ _ _ => rfl⟩
theorem fullN {S : Nat → Prop} {w : World} {p : Nat} {D : St} (h : Full w S p D) (n : Nat) : Full (w.drewN n) S p D := Full.frame h fun _ _ _ => rfl
theorem single (k : ByteArray) : namesErr [k] = if nameOk k then 0 else 2 := by simp [namesErr]
set_option maxHeartbeats 2000000 in
theorem append_any {S : Nat → Prop} {w : World} {p : Nat} {D : St} (h : Full w S p D) (k s : ByteArray) (hk : k.size ≤ maxLen) (hs : s.size ≤ 1099511627776) (hlen : D.loose.length ≤ 1099511627776) :
    Calls Try.prog 28 #[.pointer (some ⟨p, 0, none⟩), .string k, .string s] w fun e w' => e = .returned (.int .i64 (stAppend D k s).1) ∧ To S w w' p (stAppend D k s).2 := by
  obtain ⟨ht, hb1, hb2, hb3, _⟩ := three h (cap1 (.string k)) (cap1 (.string s)) (cap1 (.string k))
  obtain ⟨W, hW⟩ : ∃ W, W = ((w.alloc (cap1 (.string k))).alloc (cap1 (.string s))).alloc (cap1 (.string k)) := ⟨_, rfl⟩
  rw [← hW] at ht hb1 hb2 hb3
  obtain ⟨d, g1, g2, g3, g4, g5, g6, g7, g8⟩ := ht.2
  have HTo := Lib.hid ht
  unfold stAppend
  by_cases hst : D.still = true
  · rw [if_pos hst]
    have HR := Lib.hid (ready_still g1 (g7.trans hst) (.slice (some ⟨w.heap.size + 2, 0, none⟩) 1 1))
    rw [hW] at HR HTo
    clear hst g1 g2 g3 g4 g5 g6 g7 g8 ht hb1 hb2 hb3 hW h
    go_enter Try.func28, Try.ntmps28
    go_wp2_with (go_at_call 40; refine HR.out.mono ?_; rintro e w1 ⟨rfl, rfl⟩)
    go_ret
    exact ⟨rfl, HTo.out⟩
  · have hst' : d.still = false := by rw [g7]; simpa using hst
    rw [if_neg hst]
    have HR0 := ready_names g1 hst' [k] (w.heap.size + 2) 1 (fun i hi => by
      have : i = 0 := by simpa using hi
      subst this; rw [cell_of hb3]; rfl) (by simpa using hk) (by simp)
    rw [single] at HR0
    by_cases hn : nameOk k = false
    · rw [if_pos hn]
      rw [hn] at HR0
      have HR := Lib.hid HR0
      rw [hW] at HR HTo
      clear hst hst' HR0 g1 g2 g3 g4 g5 g6 g7 g8 ht hb1 hb2 hb3 hW h hn
      go_enter Try.func28, Try.ntmps28
      go_wp2_with (go_at_call 40; refine HR.out.mono ?_; rintro e w1 ⟨rfl, rfl⟩)
      go_ret
      exact ⟨rfl, HTo.out⟩
    · rw [if_neg hn]
      have hn' : nameOk k = true := by simpa using hn
      rw [hn'] at HR0
      have HR := Lib.hid HR0
      have c0 : W.cell? ⟨p, 0, none⟩ = some (.int .i64 D.room) := by rw [← g3]; exact DskAt.c g1 0
      have c2 : W.cell? ⟨p, 2, none⟩ = some (.int .i64 (used D.now)) := by rw [← g4]; exact DskAt.c g1 2
      have q2 : W.cell? ⟨w.heap.size + 1, 0, none⟩ = some (.string s) := by rw [cell_of hb2]; rfl
      have hu := g8.now
      have hr1 := g8.room.1
      have hr2 := g8.room.2
      have HF := Lib.hid ht.2
      have HG := Lib.hid g8
      have B1 := Lib.hid hb1
      have B2 := Lib.hid hb2
      have HW := Lib.hid hW
      rw [hW] at HR c0 c2 q2
      clear hst hst' HR0 g1 g2 g3 g4 g5 g6 g7 g8 ht hb1 hb2 hb3 hW h hn hn'
      have hdl : s.data.toList.length = s.size := by simp
      by_cases hz : s.size = 0
      · have hz' : s.toList.isEmpty = true := by
          rw [ByteArray.toList_eq]
          have : s.data.toList = [] := List.eq_nil_of_length_eq_zero (by rw [hdl]; exact hz)
          rw [this]; rfl
        rw [if_neg (fun hx => hx.1 hz)]
        have hok : Cmd.ok D.now (.app k s) := by show used D.now + s.size ≤ 16777216; omega
        have HC := Lib.hid (fun nq => change_full (fullN HF.out nq) (.app k s) (.func (.func 46) #[] #[pt w.heap.size, pt (w.heap.size + 1)]) (.func (.func 48) #[] #[pt w.heap.size, pt (w.heap.size + 1)])
          ⟨w.heap.size, w.heap.size + 1, rfl, rfl, ⟨.inr (by rw [HW.out, size_alloc, size_alloc, size_alloc]; omega), B1.out⟩, ⟨.inr (by rw [HW.out, size_alloc, size_alloc, size_alloc]; omega), B2.out⟩⟩ hok hlen)
        rw [HW.out] at HC
        rw [HW.out] at HTo
        clear hok hz
        go_enter Try.func28, Try.ntmps28
        go_wp2_with (go_at_call 40; refine HR.out.mono ?_; rintro e w1 ⟨rfl, rfl⟩)
        go_quiet (fail)
        go_wp2_with (go_at_call 45; refine (HC.out _).mono ?_; rintro e w1 ⟨rfl, hto⟩; have HTo2 := Lib.hid hto; clear hto)
        go_ret
        exact ⟨rfl, To.trans (drewN HTo.out _) HTo2.out⟩
      · have hz' : s.toList.isEmpty = false := by
          rw [ByteArray.toList_eq]
          rcases he : s.data.toList with _ | _
          · rw [he] at hdl; simp at hdl; omega
          · rfl
        by_cases hfull : D.room < used D.now + s.size
        · rw [if_pos ⟨hz, hfull⟩]
          go_enter Try.func28, Try.ntmps28
          go_wp2_with (go_at_call 40; refine HR.out.mono ?_; rintro e w1 ⟨rfl, rfl⟩)
          go_quiet (fail)
          go_wp2
          go_ret
          exact ⟨rfl, drewN (HW.out ▸ HTo.out) _⟩
        · rw [if_neg (fun hx => hfull hx.2)]
          have hok : Cmd.ok D.now (.app k s) := by show used D.now + s.size ≤ 16777216; omega
          have HC := Lib.hid (fun nq => change_full (fullN HF.out nq) (.app k s) (.func (.func 46) #[] #[pt w.heap.size, pt (w.heap.size + 1)]) (.func (.func 48) #[] #[pt w.heap.size, pt (w.heap.size + 1)])
            ⟨w.heap.size, w.heap.size + 1, rfl, rfl, ⟨.inr (by rw [HW.out, size_alloc, size_alloc, size_alloc]; omega), B1.out⟩, ⟨.inr (by rw [HW.out, size_alloc, size_alloc, size_alloc]; omega), B2.out⟩⟩ hok hlen)
          rw [HW.out] at HC
          rw [HW.out] at HTo
          clear hok hz
          go_enter Try.func28, Try.ntmps28
          go_wp2_with (go_at_call 40; refine HR.out.mono ?_; rintro e w1 ⟨rfl, rfl⟩)
          go_quiet (fail)
          go_wp2_with (go_at_call 45; refine (HC.out _).mono ?_; rintro e w1 ⟨rfl, hto⟩; have HTo2 := Lib.hid hto; clear hto)
          go_ret
          exact ⟨rfl, To.trans (drewN HTo.out _) HTo2.out⟩
end Go.Proofs.Ytmnaamjoikfpbaa.Ap
namespace Go.Proofs.Ytmnaamjoikfpbaa.Tr
open Go Go.RowKit Go.Lib Go.Proofs.Ytmnaamjoikfpbaa.Mp Go.Proofs.Ytmnaamjoikfpbaa.Dh Go.Proofs.Ytmnaamjoikfpbaa.Ext Go.Proofs.Ytmnaamjoikfpbaa.Fm Go.Proofs.Ytmnaamjoikfpbaa.Dk Go.Proofs.Ytmnaamjoikfpbaa.Cl Go.Proofs.Ytmnaamjoikfpbaa.Bu Go.Proofs.Ytmnaamjoikfpbaa.Ch Go.Proofs.Ytmnaamjoikfpbaa.Nm Go.Proofs.Ytmnaamjoikfpbaa.St Go.Proofs.Ytmnaamjoikfpbaa.Ap
/-- A file looked up in a disk, wherever draws have gone. -/
theorem look {S : Nat → Prop} {w : World} {p : Nat} {d : Dsk} (h : DskAt w S p d) (k : ByteArray) (n : Nat) :
    (Instr.lookup 59 (.map (some d.m1)) (.string k) true).run Try.prog (w.drewN n) = .ok (.tuple #[((find d.es1 k).map Ent.val).getD (.slice none 0 0), .bool (find d.es1 k).isSome]) (w.drewN n) :=
  run_lookup_ok (w.drewN n) _ _ _ isStr _ zeroV d.m1 d.es1 d.c1 h.now.2 k
theorem look_some {S : Nat → Prop} {w : World} {p : Nat} {d : Dsk} (h : DskAt w S p d) (k : ByteArray) (t : List UInt8) (hg : get (view d.es1) k = some t) :
    ∃ v, TextAt w S v t ∧ ∀ n, (Instr.lookup 59 (.map (some d.m1)) (.string k) true).run Try.prog (w.drewN n) = .ok (.tuple #[v, .bool true]) (w.drewN n) := by
  rw [get_view] at hg
  rcases hf : find d.es1 k with _ | e
  · rw [hf] at hg; cases hg
  · rw [hf] at hg
    simp only [Option.map_some, Option.some.injEq] at hg
    subst hg
    refine ⟨e.val, h.texts.1 e (List.mem_append_left _ (find_key k _ e hf).2), fun n => ?_⟩
    rw [look h k n, hf]; rfl
theorem look_none {S : Nat → Prop} {w : World} {p : Nat} {d : Dsk} (h : DskAt w S p d) (k : ByteArray) (hg : get (view d.es1) k = none) :
    ∀ n, (Instr.lookup 59 (.map (some d.m1)) (.string k) true).run Try.prog (w.drewN n) = .ok (.tuple #[.slice none 0 0, .bool false]) (w.drewN n) := by
  rw [get_view] at hg
  rcases hf : find d.es1 k with _ | e
  · intro n; rw [look h k n, hf]; rfl
  · rw [hf] at hg; cases hg
end Go.Proofs.Ytmnaamjoikfpbaa.Tr

namespace Go.Proofs.Ytmnaamjoikfpbaa.Sy
open Go Go.RowKit Go.Lib Go.Proofs.Ytmnaamjoikfpbaa.Mp Go.Proofs.Ytmnaamjoikfpbaa.Dh Go.Proofs.Ytmnaamjoikfpbaa.Ext Go.Proofs.Ytmnaamjoikfpbaa.Fm Go.Proofs.Ytmnaamjoikfpbaa.Dk Go.Proofs.Ytmnaamjoikfpbaa.Cl Go.Proofs.Ytmnaamjoikfpbaa.Bu Go.Proofs.Ytmnaamjoikfpbaa.Ch Go.Proofs.Ytmnaamjoikfpbaa.La Go.Proofs.Ytmnaamjoikfpbaa.Co Go.Proofs.Ytmnaamjoikfpbaa.Se Go.Proofs.Ytmnaamjoikfpbaa.Nm Go.Proofs.Ytmnaamjoikfpbaa.St Go.Proofs.Ytmnaamjoikfpbaa.Ap Go.Proofs.Ytmnaamjoikfpbaa.Tr
/-- The first n loose calls are made sure. -/
theorem settle_any {S : Nat → Prop} {w : World} {p : Nat} {d : Dsk} (h : DskAt w S p d) (l : List Cmd) (hl : LooseAt w S d.lv l) (n : Nat) (hn : n ≤ l.length) (hok : oks (view d.es2) l) (hu : used (view d.es2) ≤ 16777216) :
    Calls Try.prog 53 #[.pointer (some ⟨p, 0, none⟩), .int .i64 n] w fun e w' => e = .returned (.tuple #[]) ∧
      ∃ es' c', view es' = runs (view d.es2) (l.take n) ∧ Ran S w w' p { d with es2 := es', c2 := c', lv := .slice none 0 0 } := by
  rcases hl with ⟨hlv, rfl⟩ | ⟨b, cap, cs, hlv, ha, h1, h2, h3, h4⟩
  · have : n = 0 := by simpa using hn
    subst this
    refine (settle_nil h hlv).mono ?_
    rintro e w' ⟨rfl, hr⟩
    exact ⟨rfl, d.es2, d.c2, rfl, hr⟩
  · exact settle_some h l n b cap cs hlv hn h1 h2 ha h3 h4 hok hu
theorem sync_still {S : Nat → Prop} {w : World} {p : Nat} {D : St} (h : Full w S p D) (hst : D.still = true) :
    Calls Try.prog 30 #[.pointer (some ⟨p, 0, none⟩)] w fun e w' => e = .returned (.int .i64 20) ∧ w' = w := by
  obtain ⟨d, g1, g2, g3, g4, g5, g6, g7, g8⟩ := h
  have HR := Lib.hid (ready_still g1 (g7.trans hst) (.slice none 0 0))
  clear hst g1 g2 g3 g4 g5 g6 g7 g8
  go_enter Try.func30, Try.ntmps30
  go_wp2_with (go_at_call 40; refine HR.out.mono ?_; rintro e w1 ⟨rfl, rfl⟩)
  go_ret
  exact ⟨rfl, rfl⟩
set_option maxHeartbeats 1000000 in
theorem sync_any {S : Nat → Prop} {w : World} {p : Nat} {D : St} (h : Full w S p D) (hlen : D.loose.length ≤ 1099511627776) :
    Calls Try.prog 30 #[.pointer (some ⟨p, 0, none⟩)] w fun e w' => e = .returned (.int .i64 (stSync D).1) ∧ To S w w' p (stSync D).2 := by
  unfold stSync
  by_cases hst : D.still = true
  · rw [if_pos hst]
    refine (sync_still h hst).mono ?_
    rintro e w' ⟨rfl, rfl⟩
    exact ⟨rfl, To.refl h⟩
  rw [if_neg hst]
  obtain ⟨d, g1, g2, g3, g4, g5, g6, g7, g8⟩ := h
  have HR := Lib.hid (ready_none g1 (by rw [g7]; simpa using hst))
  obtain ⟨b1, b2, b3, b4, b5, b6, b7, b8, b9, b10, b11⟩ := burn_full g3 g6 g7
  have hgb := Good.burnt g8
  have HB0 := burn_any g1 (by rw [g6]; exact g8.fuse)
  rw [b1] at HB0
  rcases burnt_or D with hb | hb
  · rw [if_pos hb]
    rw [hb] at HB0
    have HB := Lib.hid HB0
    have HL : Hid (∀ w1, Ran S w w1 p (burn d).2 → w1.cell? ⟨p, 5, none⟩ = some d.lv ∧ Calls Try.prog 53 #[.pointer (some ⟨p, 0, none⟩), .int .i64 D.loose.length] w1 fun e w' => e = .returned (.tuple #[]) ∧
        ∃ es' c', view es' = runs (view d.es2) (D.loose.take D.loose.length) ∧ Ran S w w' p { (burn d).2 with es2 := es', c2 := c', lv := .slice none 0 0 }) := Lib.hid fun w1 hr => by
      refine ⟨by rw [← b7]; exact DskAt.c hr.at_ 5, ?_⟩
      refine (settle_any hr.at_ D.loose (by rw [b7]; exact LooseAt.keep g2 (Ch.Ran.keepPlain hr)) D.loose.length (Nat.le_refl _) (by rw [b6, g5]; exact g8.oks) (by rw [b6, g5]; exact g8.used)).mono ?_
      rintro e w' ⟨rfl, es', c', hv, hr2⟩
      exact ⟨rfl, es', c', by rw [hv, b6], Ran.trans hr hr2⟩
    obtain ⟨a, cp, hlv⟩ := LooseAt.shape g2
    rw [hlv] at HL
    have HD : Hid (∀ w' es' c', view es' = runs (view d.es2) (D.loose.take D.loose.length) → Ran S w w' p { (burn d).2 with es2 := es', c2 := c', lv := .slice none 0 0 } → To S w w' p { (burnt D).2 with sure := D.now, loose := [] }) := Lib.hid fun w' es' c' hv hr => by
      refine ⟨hr.tread, _, hr.at_, .inl ⟨rfl, rfl⟩, b2, ?_, ?_, b3, b4, ?_⟩
      · show view (burn d).2.es1 = (burnt D).2.now
        rw [b5, g4, b8]
      · show view es' = D.now
        rw [hv, List.take_length, g5, g8.runs]
      · exact ⟨trivial, by show D.now = (burnt D).2.now; rw [b8], g8.now, hgb.room, hgb.fuse⟩
    clear hst HB0 g1 g2 g3 g4 g5 g6 g7 g8 b1 b2 b3 b4 b5 b6 b7 b8 b9 b10 b11 hgb hlv
    have hlen' : (D.loose.length : Int) ≤ 9223372036854775807 := by omega
    go_enter Try.func30, Try.ntmps30
    go_wp2_with (first | (go_at_call 40; refine HR.out.mono ?_; rintro e w1 ⟨rfl, rfl⟩) | (go_at_call 52; refine HB.out.mono ?_; rintro e w1 ⟨rfl, hr⟩; have hq := HL.out w1 hr; have q5 := hq.1; have HQ := Lib.hid hq.2; clear hq hr) | (go_at_call 53; refine (by assumption : Hid (Calls _ _ _ _ _)).out.mono ?_; rintro e w2 ⟨rfl, es', c', hv, hr2⟩; have HZ := Lib.hid (HD.out w2 es' c' hv hr2); clear hv hr2))
    go_ret
    exact ⟨rfl, (by assumption : Hid (To _ _ _ _ _)).out⟩
  · rw [if_neg (by rw [hb]; decide)]
    rw [hb] at HB0 ⊢
    have HB := Lib.hid HB0
    have HD : Hid (∀ w', Ran S w w' p (burn d).2 → To S w w' p (burnt D).2) := Lib.hid fun w' hr => by
      refine ⟨hr.tread, _, hr.at_, ?_, b2, ?_, ?_, b3, b4, hgb⟩
      · rw [b7, b10]; exact LooseAt.keep g2 (Ch.Ran.keepPlain hr)
      · rw [b5, g4, b8]
      · rw [b6, g5, b9]
    clear hst HB0 g1 g2 g3 g4 g5 g6 g7 g8 b1 b2 b3 b4 b5 b6 b7 b8 b9 b10 b11 hgb hb
    go_enter Try.func30, Try.ntmps30
    go_wp2_with (first | (go_at_call 40; refine HR.out.mono ?_; rintro e w1 ⟨rfl, rfl⟩) | (go_at_call 52; refine HB.out.mono ?_; rintro e w1 ⟨rfl, hr⟩; have HZ := Lib.hid (HD.out w1 hr); clear hr))
    go_ret
    exact ⟨rfl, (by assumption : Hid (To _ _ _ _ _)).out⟩
theorem used_any {S : Nat → Prop} {w : World} {p : Nat} {D : St} (h : Full w S p D) :
    Calls Try.prog 15 #[.pointer (some ⟨p, 0, none⟩)] w fun e w' => e = .returned (.int .i64 (used D.now)) ∧ w' = w := by
  obtain ⟨d, g1, g2, g3, g4, g5, g6, g7, g8⟩ := h
  have c2 : w.cell? ⟨p, 2, none⟩ = some (.int .i64 (used D.now)) := by rw [← g4]; exact DskAt.c g1 2
  clear g1 g2 g3 g4 g5 g6 g7 g8
  go_enter Try.func15, Try.ntmps15
  go_wp2
  go_ret
  exact ⟨rfl, rfl⟩
theorem loose_any {S : Nat → Prop} {w : World} {p : Nat} {D : St} (h : Full w S p D) (_hlen : D.loose.length ≤ 1099511627776) :
    Calls Try.prog 11 #[.pointer (some ⟨p, 0, none⟩)] w fun e w' => e = .returned (.int .i64 D.loose.length) ∧ w' = w := by
  obtain ⟨d, g1, g2, g3, g4, g5, g6, g7, g8⟩ := h
  obtain ⟨a, cp, hlv⟩ := LooseAt.shape g2
  have c5 : w.cell? ⟨p, 5, none⟩ = some (.slice a D.loose.length cp) := by rw [← hlv]; exact DskAt.c g1 5
  clear g1 g2 g3 g4 g5 g6 g7 g8 hlv
  go_enter Try.func11, Try.ntmps11
  go_wp2
  go_ret
  exact ⟨rfl, rfl⟩
end Go.Proofs.Ytmnaamjoikfpbaa.Sy

namespace Go.Proofs.Ytmnaamjoikfpbaa.Rd
open Go Go.RowKit Go.Lib Go.Proofs.Ytmnaamjoikfpbaa.Mp Go.Proofs.Ytmnaamjoikfpbaa.Dh Go.Proofs.Ytmnaamjoikfpbaa.Ext Go.Proofs.Ytmnaamjoikfpbaa.Fm Go.Proofs.Ytmnaamjoikfpbaa.Dk Go.Proofs.Ytmnaamjoikfpbaa.Cl Go.Proofs.Ytmnaamjoikfpbaa.Bu Go.Proofs.Ytmnaamjoikfpbaa.Ch Go.Proofs.Ytmnaamjoikfpbaa.Nm Go.Proofs.Ytmnaamjoikfpbaa.St Go.Proofs.Ytmnaamjoikfpbaa.Ap Go.Proofs.Ytmnaamjoikfpbaa.Tr
def ret (l : List UInt8) (e : Int) : Ending := .returned (.tuple #[.string ⟨l.toArray⟩, .int .i64 e])
theorem ret_nil (e : Int) : ret [] e = .returned (.tuple #[.string ⟨#[]⟩, .int .i64 e]) := rfl
/-- A piece of a row of bytes as a string. -/
theorem piece {w : World} {S : Nat → Prop} {b L cp : Nat} {t : List UInt8} (h : TextAt w S (.slice (some ⟨b, 0, none⟩) L cp) t) (o m c : Nat) :
    m ≤ t.length - o → (convert 95 9 (.slice (some ⟨b, o, none⟩) m c)).run Try.prog w = .ok (.string ⟨((t.drop o).take m).toArray⟩) w := by
  intro hm
  have hl : ((t.drop o).take m).length = m := by simp; omega
  have := run_convert_bytes_back (P := Try.prog) w 95 9 5 ⟨b, o, none⟩ c ((t.drop o).take m) undL undE undS (fun j hj => by
    rw [hl] at hj
    have h1 := h.cells (o + j) (.int .u8 (t[o + j]'(by omega)).toNat) (by rw [u8s, List.getElem?_map, List.getElem?_eq_getElem (by omega)]; rfl)
    have e1 : Addr.add ⟨b, 0, none⟩ (o + j) = ⟨b, o + j, none⟩ := by
      cases hoj : o + j <;> simp [Addr.add]
    have e2 : Addr.add ⟨b, o, none⟩ j = ⟨b, o + j, none⟩ := by
      cases j <;> simp [Addr.add]
    rw [e1] at h1
    rw [e2, h1]
    simp)
  rw [hl] at this
  exact this
theorem wpList_look (w : World) {ops : Array Oper} {rest : List Oper} {o : Oper} {a : Act} {Q : Exit → Act → World → Prop} (hg : o.guard = none) (m x : Operand)
    (hop : o.op = Op.lookup 59 m x true) (mb : Nat) (k : ByteArray) (v : Value) (b : Bool) (hm : a.eval m = .map (some mb)) (hx : a.eval x = .string k)
    (hrun : (Instr.lookup 59 (.map (some mb)) (.string k) true).run Try.prog w = .ok (.tuple #[v, .bool b]) w)
    (hK : wpList Try.prog ops Q rest (a.put o.dst (.tuple #[v, .bool b])) w) : wpList Try.prog ops Q (o :: rest) a w := by
  refine wpList_plain hg fun K' hK' => ?_
  unfold Oper.wp
  simp [execOp, hop, hm, hx, hrun, Result.andThen]
  exact hK' _ _ hK
set_option maxRecDepth 20000 in
set_option maxHeartbeats 2000000 in
theorem read_any {S : Nat → Prop} {w : World} {p : Nat} {D : St} (h : Full w S p D) (k : ByteArray) (o n : Int) (hk : k.size ≤ maxLen) (ho : o ≤ 9223372036854775807) (hn : n ≤ 9223372036854775807) :
    Calls Try.prog 31 #[.pointer (some ⟨p, 0, none⟩), .string k, .int .i64 o, .int .i64 n] w fun e w' => e = ret (stRead D k o n).1 (stRead D k o n).2 ∧ To S w w' p D := by
  have ht := To.alloc h (cap1 (.string k))
  have hnew := heap_new w (cap1 (.string k))
  obtain ⟨W, hW⟩ : ∃ W, W = w.alloc (cap1 (.string k)) := ⟨_, rfl⟩
  rw [← hW] at ht hnew
  obtain ⟨d, g1, g2, g3, g4, g5, g6, g7, g8⟩ := ht.2
  have HTo := Lib.hid ht
  unfold stRead
  by_cases hst : D.still = true
  · rw [if_pos hst, ret_nil]
    have HR := Lib.hid (ready_still g1 (g7.trans hst) (.slice (some ⟨w.heap.size, 0, none⟩) 1 1))
    rw [hW] at HR HTo
    clear hst g1 g2 g3 g4 g5 g6 g7 g8 ht hW h hnew
    go_enter Try.func31, Try.ntmps31
    go_wp2_with (go_at_call 40; refine HR.out.mono ?_; rintro e w1 ⟨rfl, rfl⟩)
    go_ret2
    exact ⟨rfl, HTo.out⟩
  have hst' : d.still = false := by rw [g7]; simpa using hst
  rw [if_neg hst]
  have HR0 := ready_names g1 hst' [k] w.heap.size 1 (fun i hi => by
    have : i = 0 := by simpa using hi
    subst this; rw [cell_of hnew]; rfl) (by simpa using hk) (by simp)
  rw [single] at HR0
  by_cases hnm : nameOk k = false
  · rw [if_pos hnm, ret_nil]
    rw [hnm] at HR0
    have HR := Lib.hid HR0
    rw [hW] at HR HTo
    clear hst hst' HR0 g1 g2 g3 g4 g5 g6 g7 g8 ht hW h hnew hnm
    go_enter Try.func31, Try.ntmps31
    go_wp2_with (go_at_call 40; refine HR.out.mono ?_; rintro e w1 ⟨rfl, rfl⟩)
    go_ret2
    exact ⟨rfl, HTo.out⟩
  rw [if_neg hnm]
  have hn' : nameOk k = true := by simpa using hnm
  rw [hn'] at HR0
  have HR := Lib.hid HR0
  have c1 : W.cell? ⟨p, 1, none⟩ = some (.map (some d.m1)) := DskAt.c g1 1
  have HDk := Lib.hid g1
  have HNow := Lib.hid g4
  have HW := Lib.hid hW
  rw [hW] at HR c1 HTo
  clear hst hst' HR0 g1 g2 g3 g4 g5 g6 g7 g8 ht hW h hnew hnm hn'
  by_cases hneg : o < 0 ∨ n < 0
  · rw [if_pos hneg, ret_nil]
    by_cases ho0 : o < 0
    · clear hneg
      go_enter Try.func31, Try.ntmps31
      go_wp2_with (go_at_call 40; refine HR.out.mono ?_; rintro e w1 ⟨rfl, rfl⟩)
      go_ret2
      exact ⟨rfl, HTo.out⟩
    · have hn0 : n < 0 := by omega
      clear hneg
      go_enter Try.func31, Try.ntmps31
      go_wp2_with (go_at_call 40; refine HR.out.mono ?_; rintro e w1 ⟨rfl, rfl⟩)
      go_ret2
      exact ⟨rfl, HTo.out⟩
  rw [if_neg hneg]
  have ho0 : ¬ o < 0 := by omega
  have hn0 : ¬ n < 0 := by omega
  clear hneg
  rcases hg : get D.now k with _ | t
  · have hlook := look_none HDk.out k (by rw [HNow.out]; exact hg) 0
    change (Instr.lookup _ _ _ _).run _ W = .ok _ W at hlook
    rw [HW.out] at hlook
    clear hg
    have HLk := Lib.hid hlook
    clear hlook
    show Calls _ _ _ _ fun e w' => e = ret [] 3 ∧ _
    rw [ret_nil]
    go_enter Try.func31, Try.ntmps31
    go_wp2_with (first | (go_at_call 40; refine HR.out.mono ?_; rintro e w1 ⟨rfl, rfl⟩) | (at_lookup; refine wpList_look _ rfl _ _ rfl d.m1 k _ _ rfl rfl HLk.out ?_))
    go_ret2
    exact ⟨rfl, HTo.out⟩
  · obtain ⟨v, htx, hlook⟩ := look_some HDk.out k t (by rw [HNow.out]; exact hg)
    have hlook := hlook 0
    change (Instr.lookup _ _ _ _).run _ W = .ok _ W at hlook
    clear hg
    show Calls _ _ _ _ fun e w' => e = ret ((t.drop o.toNat).take n.toNat) 0 ∧ _
    have HTX := Lib.hid htx
    have hsh : (v = .slice none 0 0 ∧ t = []) ∨ ∃ b cp, v = .slice (some ⟨b, 0, none⟩) t.length cp ∧ t.length ≤ cp ∧ cp ≤ 9223372036854775807 := by
      rcases htx with ⟨h, h'⟩ | ⟨b, cap, cs, h, _, h1, _, h2, _⟩
      · exact .inl ⟨h, h'⟩
      · exact .inr ⟨b, cap, h, h1, by unfold maxLen at h2; exact h2⟩
    clear htx
    rcases hsh with ⟨rfl, rfl⟩ | ⟨b, cp, rfl, hcp, hcm⟩
    · rw [List.drop_nil, List.take_nil, ret_nil]
      rw [HW.out] at hlook
      have HLk := Lib.hid hlook
      clear hlook
      have hconv : ∀ (W : World), (convert 95 9 (.slice none 0 0)).run Try.prog W = .ok (.string ⟨#[]⟩) W := fun W => by kernel_rfl
      have hm1 : (if 0 < o then 0 else o) = 0 := by split <;> omega
      have hm2 : (if 0 < n then 0 else n) = 0 := by split <;> omega
      go_enter Try.func31, Try.ntmps31
      go_wp2_with (first | (go_at_call 40; refine HR.out.mono ?_; rintro e w1 ⟨rfl, rfl⟩) | (at_lookup; refine wpList_look _ rfl _ _ rfl d.m1 k _ _ rfl rfl HLk.out ?_))
      all_goals
        go_ret2
        exact ⟨rfl, HTo.out⟩
    · rw [HW.out] at hlook
      have HLk := Lib.hid hlook
      clear hlook
      obtain ⟨o', hoe⟩ : ∃ o' : Int, o' = if (t.length : Int) < o then (t.length : Int) else o := ⟨_, rfl⟩
      have ho1 : 0 ≤ o' ∧ o' ≤ t.length := by rw [hoe]; split <;> omega
      obtain ⟨n', hne⟩ : ∃ n' : Int, n' = if ((t.length - o'.toNat : Nat) : Int) < n then ((t.length - o'.toNat : Nat) : Int) else n := ⟨_, rfl⟩
      have hn1 : 0 ≤ n' ∧ n' ≤ ((t.length - o'.toNat : Nat) : Int) := by rw [hne]; split <;> omega
      have hres : (t.drop o.toNat).take n.toNat = (t.drop o'.toNat).take n'.toNat := by
        by_cases hlo : (t.length : Int) < o
        · rw [if_pos hlo] at hoe
          rw [List.drop_of_length_le (by omega), List.drop_of_length_le (l := t) (i := o'.toNat) (by omega)]
          simp
        · rw [if_neg hlo] at hoe
          rw [hoe]
          by_cases hln : ((t.length - o'.toNat : Nat) : Int) < n
          · rw [if_pos hln] at hne
            rw [List.take_of_length_le (by rw [List.length_drop]; omega), List.take_of_length_le (by rw [List.length_drop]; omega)]
          · rw [if_neg hln] at hne
            rw [hne]
      have hconv : ∀ c : Nat, (convert 95 9 (.slice (some ⟨b, o'.toNat, none⟩) n'.toNat c)).run Try.prog (w.alloc (cap1 (.string k))) = .ok (.string ⟨((t.drop o'.toNat).take n'.toNat).toArray⟩) (w.alloc (cap1 (.string k))) := fun c => by
        have hx := HTX.out
        rw [HW.out] at hx
        exact piece hx o'.toNat n'.toNat c (by omega)
      have e1 := hoe.symm
      have e2 := hne.symm
      have p1 := ho1.1
      have p2 := ho1.2
      have p3 := hn1.1
      have p4 := hn1.2
      rw [hres]
      by_cases hoc : cp = o'.toNat
      · have hz : n'.toNat = 0 := by omega
        have hconv0 : ∀ c : Nat, (convert 95 9 (.slice (some ⟨b, 0, none⟩) n'.toNat c)).run Try.prog (w.alloc (cap1 (.string k))) = .ok (.string ⟨((t.drop o'.toNat).take n'.toNat).toArray⟩) (w.alloc (cap1 (.string k))) := fun c => by
          have hx := HTX.out
          rw [HW.out] at hx
          have := piece hx 0 n'.toNat c (by omega)
          rw [this, hz]; simp
        clear hoe hne ho1 hn1 hres hz
        go_enter Try.func31, Try.ntmps31
        go_wp2_with (first | (go_at_call 40; refine HR.out.mono ?_; rintro e w1 ⟨rfl, rfl⟩) | (at_lookup; refine wpList_look _ rfl _ _ rfl d.m1 k _ _ rfl rfl HLk.out ?_))
        all_goals
          go_ret2
          exact ⟨rfl, HTo.out⟩
      · have hoc2 : ¬ cp - o'.toNat = 0 := by omega
        clear hoe hne ho1 hn1 hres
        go_enter Try.func31, Try.ntmps31
        go_wp2_with (first | (go_at_call 40; refine HR.out.mono ?_; rintro e w1 ⟨rfl, rfl⟩) | (at_lookup; refine wpList_look _ rfl _ _ rfl d.m1 k _ _ rfl rfl HLk.out ?_))
        all_goals
          go_ret2
          exact ⟨rfl, HTo.out⟩
end Go.Proofs.Ytmnaamjoikfpbaa.Rd

namespace Go.Proofs.Ytmnaamjoikfpbaa.Rp
open Go Go.RowKit Go.Lib Go.Proofs.Ytmnaamjoikfpbaa.Mp Go.Proofs.Ytmnaamjoikfpbaa.Dh Go.Proofs.Ytmnaamjoikfpbaa.Ext Go.Proofs.Ytmnaamjoikfpbaa.Fm Go.Proofs.Ytmnaamjoikfpbaa.Dk Go.Proofs.Ytmnaamjoikfpbaa.Cl Go.Proofs.Ytmnaamjoikfpbaa.Bu Go.Proofs.Ytmnaamjoikfpbaa.Ch Go.Proofs.Ytmnaamjoikfpbaa.Nm Go.Proofs.Ytmnaamjoikfpbaa.St Go.Proofs.Ytmnaamjoikfpbaa.Ap Go.Proofs.Ytmnaamjoikfpbaa.Tr Go.Proofs.Ytmnaamjoikfpbaa.Rd
set_option maxRecDepth 20000 in
set_option maxHeartbeats 2000000 in
theorem read_at {S : Nat → Prop} {w : World} {p : Nat} {D : St} (h : Full w S p D) (k : ByteArray) (o n : Int) (hk : k.size ≤ maxLen) (ho : o ≤ 9223372036854775807) (hn : n ≤ 9223372036854775807) :
    Calls Try.prog 31 #[.pointer (some ⟨p, 0, none⟩), .string k, .int .i64 o, .int .i64 n] w fun e w' => e = ret (stRead D k o n).1 (stRead D k o n).2 ∧ w' = w.alloc (cap1 (.string k)) := by
  have ht := To.alloc h (cap1 (.string k))
  have hnew := heap_new w (cap1 (.string k))
  obtain ⟨W, hW⟩ : ∃ W, W = w.alloc (cap1 (.string k)) := ⟨_, rfl⟩
  rw [← hW] at ht hnew
  obtain ⟨d, g1, g2, g3, g4, g5, g6, g7, g8⟩ := ht.2
  unfold stRead
  by_cases hst : D.still = true
  · rw [if_pos hst, ret_nil]
    have HR := Lib.hid (ready_still g1 (g7.trans hst) (.slice (some ⟨w.heap.size, 0, none⟩) 1 1))
    rw [hW] at HR
    clear hst g1 g2 g3 g4 g5 g6 g7 g8 ht hW h hnew
    go_enter Try.func31, Try.ntmps31
    go_wp2_with (go_at_call 40; refine HR.out.mono ?_; rintro e w1 ⟨rfl, rfl⟩)
    go_ret2
    exact ⟨rfl, rfl⟩
  have hst' : d.still = false := by rw [g7]; simpa using hst
  rw [if_neg hst]
  have HR0 := ready_names g1 hst' [k] w.heap.size 1 (fun i hi => by
    have : i = 0 := by simpa using hi
    subst this; rw [cell_of hnew]; rfl) (by simpa using hk) (by simp)
  rw [single] at HR0
  by_cases hnm : nameOk k = false
  · rw [if_pos hnm, ret_nil]
    rw [hnm] at HR0
    have HR := Lib.hid HR0
    rw [hW] at HR
    clear hst hst' HR0 g1 g2 g3 g4 g5 g6 g7 g8 ht hW h hnew hnm
    go_enter Try.func31, Try.ntmps31
    go_wp2_with (go_at_call 40; refine HR.out.mono ?_; rintro e w1 ⟨rfl, rfl⟩)
    go_ret2
    exact ⟨rfl, rfl⟩
  rw [if_neg hnm]
  have hn' : nameOk k = true := by simpa using hnm
  rw [hn'] at HR0
  have HR := Lib.hid HR0
  have c1 : W.cell? ⟨p, 1, none⟩ = some (.map (some d.m1)) := DskAt.c g1 1
  have HDk := Lib.hid g1
  have HNow := Lib.hid g4
  have HW := Lib.hid hW
  rw [hW] at HR c1
  clear hst hst' HR0 g1 g2 g3 g4 g5 g6 g7 g8 ht hW h hnew hnm hn'
  by_cases hneg : o < 0 ∨ n < 0
  · rw [if_pos hneg, ret_nil]
    by_cases ho0 : o < 0
    · clear hneg
      go_enter Try.func31, Try.ntmps31
      go_wp2_with (go_at_call 40; refine HR.out.mono ?_; rintro e w1 ⟨rfl, rfl⟩)
      go_ret2
      exact ⟨rfl, rfl⟩
    · have hn0 : n < 0 := by omega
      clear hneg
      go_enter Try.func31, Try.ntmps31
      go_wp2_with (go_at_call 40; refine HR.out.mono ?_; rintro e w1 ⟨rfl, rfl⟩)
      go_ret2
      exact ⟨rfl, rfl⟩
  rw [if_neg hneg]
  have ho0 : ¬ o < 0 := by omega
  have hn0 : ¬ n < 0 := by omega
  clear hneg
  rcases hg : get D.now k with _ | t
  · have hlook := look_none HDk.out k (by rw [HNow.out]; exact hg) 0
    change (Instr.lookup _ _ _ _).run _ W = .ok _ W at hlook
    rw [HW.out] at hlook
    clear hg
    have HLk := Lib.hid hlook
    clear hlook
    show Calls _ _ _ _ fun e w' => e = ret [] 3 ∧ _
    rw [ret_nil]
    go_enter Try.func31, Try.ntmps31
    go_wp2_with (first | (go_at_call 40; refine HR.out.mono ?_; rintro e w1 ⟨rfl, rfl⟩) | (at_lookup; refine wpList_look _ rfl _ _ rfl d.m1 k _ _ rfl rfl HLk.out ?_))
    go_ret2
    exact ⟨rfl, rfl⟩
  · obtain ⟨v, htx, hlook⟩ := look_some HDk.out k t (by rw [HNow.out]; exact hg)
    have hlook := hlook 0
    change (Instr.lookup _ _ _ _).run _ W = .ok _ W at hlook
    clear hg
    show Calls _ _ _ _ fun e w' => e = ret ((t.drop o.toNat).take n.toNat) 0 ∧ _
    have HTX := Lib.hid htx
    have hsh : (v = .slice none 0 0 ∧ t = []) ∨ ∃ b cp, v = .slice (some ⟨b, 0, none⟩) t.length cp ∧ t.length ≤ cp ∧ cp ≤ 9223372036854775807 := by
      rcases htx with ⟨h, h'⟩ | ⟨b, cap, cs, h, _, h1, _, h2, _⟩
      · exact .inl ⟨h, h'⟩
      · exact .inr ⟨b, cap, h, h1, by unfold maxLen at h2; exact h2⟩
    clear htx
    rcases hsh with ⟨rfl, rfl⟩ | ⟨b, cp, rfl, hcp, hcm⟩
    · rw [List.drop_nil, List.take_nil, ret_nil]
      rw [HW.out] at hlook
      have HLk := Lib.hid hlook
      clear hlook
      have hconv : ∀ (W : World), (convert 95 9 (.slice none 0 0)).run Try.prog W = .ok (.string ⟨#[]⟩) W := fun W => by kernel_rfl
      have hm1 : (if 0 < o then 0 else o) = 0 := by split <;> omega
      have hm2 : (if 0 < n then 0 else n) = 0 := by split <;> omega
      go_enter Try.func31, Try.ntmps31
      go_wp2_with (first | (go_at_call 40; refine HR.out.mono ?_; rintro e w1 ⟨rfl, rfl⟩) | (at_lookup; refine wpList_look _ rfl _ _ rfl d.m1 k _ _ rfl rfl HLk.out ?_))
      all_goals
        go_ret2
        exact ⟨rfl, rfl⟩
    · rw [HW.out] at hlook
      have HLk := Lib.hid hlook
      clear hlook
      obtain ⟨o', hoe⟩ : ∃ o' : Int, o' = if (t.length : Int) < o then (t.length : Int) else o := ⟨_, rfl⟩
      have ho1 : 0 ≤ o' ∧ o' ≤ t.length := by rw [hoe]; split <;> omega
      obtain ⟨n', hne⟩ : ∃ n' : Int, n' = if ((t.length - o'.toNat : Nat) : Int) < n then ((t.length - o'.toNat : Nat) : Int) else n := ⟨_, rfl⟩
      have hn1 : 0 ≤ n' ∧ n' ≤ ((t.length - o'.toNat : Nat) : Int) := by rw [hne]; split <;> omega
      have hres : (t.drop o.toNat).take n.toNat = (t.drop o'.toNat).take n'.toNat := by
        by_cases hlo : (t.length : Int) < o
        · rw [if_pos hlo] at hoe
          rw [List.drop_of_length_le (by omega), List.drop_of_length_le (l := t) (i := o'.toNat) (by omega)]
          simp
        · rw [if_neg hlo] at hoe
          rw [hoe]
          by_cases hln : ((t.length - o'.toNat : Nat) : Int) < n
          · rw [if_pos hln] at hne
            rw [List.take_of_length_le (by rw [List.length_drop]; omega), List.take_of_length_le (by rw [List.length_drop]; omega)]
          · rw [if_neg hln] at hne
            rw [hne]
      have hconv : ∀ c : Nat, (convert 95 9 (.slice (some ⟨b, o'.toNat, none⟩) n'.toNat c)).run Try.prog (w.alloc (cap1 (.string k))) = .ok (.string ⟨((t.drop o'.toNat).take n'.toNat).toArray⟩) (w.alloc (cap1 (.string k))) := fun c => by
        have hx := HTX.out
        rw [HW.out] at hx
        exact piece hx o'.toNat n'.toNat c (by omega)
      have e1 := hoe.symm
      have e2 := hne.symm
      have p1 := ho1.1
      have p2 := ho1.2
      have p3 := hn1.1
      have p4 := hn1.2
      rw [hres]
      by_cases hoc : cp = o'.toNat
      · have hz : n'.toNat = 0 := by omega
        have hconv0 : ∀ c : Nat, (convert 95 9 (.slice (some ⟨b, 0, none⟩) n'.toNat c)).run Try.prog (w.alloc (cap1 (.string k))) = .ok (.string ⟨((t.drop o'.toNat).take n'.toNat).toArray⟩) (w.alloc (cap1 (.string k))) := fun c => by
          have hx := HTX.out
          rw [HW.out] at hx
          have := piece hx 0 n'.toNat c (by omega)
          rw [this, hz]; simp
        clear hoe hne ho1 hn1 hres hz
        go_enter Try.func31, Try.ntmps31
        go_wp2_with (first | (go_at_call 40; refine HR.out.mono ?_; rintro e w1 ⟨rfl, rfl⟩) | (at_lookup; refine wpList_look _ rfl _ _ rfl d.m1 k _ _ rfl rfl HLk.out ?_))
        all_goals
          go_ret2
          exact ⟨rfl, rfl⟩
      · have hoc2 : ¬ cp - o'.toNat = 0 := by omega
        clear hoe hne ho1 hn1 hres
        go_enter Try.func31, Try.ntmps31
        go_wp2_with (first | (go_at_call 40; refine HR.out.mono ?_; rintro e w1 ⟨rfl, rfl⟩) | (at_lookup; refine wpList_look _ rfl _ _ rfl d.m1 k _ _ rfl rfl HLk.out ?_))
        all_goals
          go_ret2
          exact ⟨rfl, rfl⟩
end Go.Proofs.Ytmnaamjoikfpbaa.Rp
namespace Go.Proofs.Ytmnaamjoikfpbaa.Nw
open Go Go.RowKit Go.Lib Go.Proofs.Ytmnaamjoikfpbaa.Mp Go.Proofs.Ytmnaamjoikfpbaa.Dh Go.Proofs.Ytmnaamjoikfpbaa.Ext Go.Proofs.Ytmnaamjoikfpbaa.Fm Go.Proofs.Ytmnaamjoikfpbaa.Dk Go.Proofs.Ytmnaamjoikfpbaa.Cl Go.Proofs.Ytmnaamjoikfpbaa.Bu Go.Proofs.Ytmnaamjoikfpbaa.Ch Go.Proofs.Ytmnaamjoikfpbaa.Nm Go.Proofs.Ytmnaamjoikfpbaa.St
theorem room_ok (w : World) (n : Int) (h : 0 ≤ n) (h2 : n ≤ 16777216) :
    Calls Try.prog 24 #[.int .i64 n] w fun e w' => e = .returned (.bool true) ∧ w' = w := by
  go_enter Try.func24, Try.ntmps24
  go_wp2
  go_ret
  exact ⟨rfl, rfl⟩
abbrev W1 (w : World) : World := (w.alloc (.cells #[.map (some (w.heap.size + 1)), .int .i64 0] 61)).alloc (.map #[] 0)
theorem none_any (w : World) :
    Calls Try.prog 25 #[] w fun e w' => e = .returned (.agg #[.map (some (w.heap.size + 1)), .int .i64 0]) ∧ Below w.heap.size w w' ∧ w'.heap.size = w.heap.size + 2 ∧ w'.heap[w.heap.size + 1]? = some (obj [] 0) := by
  have hmm := @run_makeMap Try.prog
  go_enter Try.func25, Try.ntmps25
  go_wp2
  have e0 : ((w.alloc (.cells #[.map (some (w.heap.size + 1)), .int .i64 0] 61)).alloc (.map #[] 0)).heap[w.heap.size]? = some (.cells #[.map (some (w.heap.size + 1)), .int .i64 0] 61 (0, 0)) := by
    rw [heap_alloc _ _ _ (by rw [size_alloc]; omega)]; exact heap_new w _
  have q0 : ((w.alloc (.cells #[.map (some (w.heap.size + 1)), .int .i64 0] 61)).alloc (.map #[] 0)).cell? ⟨w.heap.size, 0, none⟩ = some (.map (some (w.heap.size + 1))) := cell_of e0 0
  have q1 : ((w.alloc (.cells #[.map (some (w.heap.size + 1)), .int .i64 0] 61)).alloc (.map #[] 0)).cell? ⟨w.heap.size, 1, none⟩ = some (.int .i64 0) := cell_of e0 1
  refine bodyPost_ret (v := .agg #[.map (some (w.heap.size + 1)), .int .i64 0]) (by simp [results, Try.results25, go_sem, q0, q1]) rfl ⟨rfl, ?_, ?_, ?_⟩
  · exact ((Below.refl _ _).alloc (Nat.le_refl _) _).alloc (by rw [size_alloc]; omega) _
  · rw [size_alloc, size_alloc]
  · have := heap_new (w.alloc (.cells #[.map (some (w.heap.size + 1)), .int .i64 0] 61)) (.map #[] 0)
    rw [size_alloc] at this; exact this
theorem new_any (w : World) (n : Int) (h : 0 ≤ n) (h2 : n ≤ 16777216) :
    Calls Try.prog 9 #[.int .i64 n] w fun e w' => ∃ p, e = .returned (.tuple #[.pointer (some ⟨p, 0, none⟩), .int .i64 0]) ∧ Below w.heap.size w w' ∧ Full w' (fun b => w.heap.size ≤ b ∧ b < w'.heap.size) p ⟨n, [], [], [], -1, false⟩ := by
  have HR := Lib.hid (room_ok w n h h2)
  have HF : Hid (∀ (w1 w2 : World), Below w.heap.size w w1 → w1.heap.size = w.heap.size + 2 → w1.heap[w.heap.size + 1]? = some (obj [] 0) → Below w1.heap.size w1 w2 → w2.heap.size = w1.heap.size + 2 → w2.heap[w1.heap.size + 1]? = some (obj [] 0) →
      Below w.heap.size w (w2.alloc (.cells #[.int .i64 n, .map (some (w.heap.size + 1)), .int .i64 0, .map (some (w1.heap.size + 1)), .int .i64 0, .slice none 0 0, .int .i64 (-1), .bool false] 65)) ∧
      Full (w2.alloc (.cells #[.int .i64 n, .map (some (w.heap.size + 1)), .int .i64 0, .map (some (w1.heap.size + 1)), .int .i64 0, .slice none 0 0, .int .i64 (-1), .bool false] 65)) (fun b => w.heap.size ≤ b ∧ b < (w2.alloc (.cells #[.int .i64 n, .map (some (w.heap.size + 1)), .int .i64 0, .map (some (w1.heap.size + 1)), .int .i64 0, .slice none 0 0, .int .i64 (-1), .bool false] 65)).heap.size) w2.heap.size ⟨n, [], [], [], -1, false⟩) := Lib.hid (by
    intro w1 w2 b1 s1 m1 b2 s2 m2
    refine ⟨(b1.trans (b2.mono (by omega))).alloc (by omega) _, ⟨n, w.heap.size + 1, [], 0, w1.heap.size + 1, [], 0, .slice none 0 0, -1, false⟩, ⟨⟨⟨by omega, by rw [size_alloc]; omega⟩, heap_new w2 _⟩, ⟨⟨by show w.heap.size ≤ w.heap.size + 1; omega, by rw [size_alloc]; show w.heap.size + 1 < _; omega⟩, ?_⟩, ⟨⟨by show w.heap.size ≤ w1.heap.size + 1; omega, by rw [size_alloc]; show w1.heap.size + 1 < _; omega⟩, ?_⟩, ?_, ⟨by simp, by simp, by simp⟩, ⟨by simp, by simp, by simp⟩, ⟨by simp, by simp⟩⟩, .inl ⟨rfl, rfl⟩, rfl, rfl, rfl, rfl, rfl, ?_⟩
    · show (w2.alloc _).heap[w.heap.size + 1]? = _
      rw [heap_alloc _ _ _ (by omega), b2.block _ (by omega)]; exact m1
    · show (w2.alloc _).heap[w1.heap.size + 1]? = _
      rw [heap_alloc _ _ _ (by omega)]; exact m2
    · show w.heap.size + 1 ≠ w1.heap.size + 1; omega
    · exact ⟨trivial, rfl, by simp [used], ⟨h, h2⟩, ⟨Int.le_refl _, (by decide : (-1 : Int) ≤ 9223372036854775807)⟩⟩)
  go_enter Try.func9, Try.ntmps9
  go_wp2_with fail
  refine HR.out.mono ?_
  rintro e w0 ⟨rfl, rfl⟩
  go_wp2_with fail
  refine (none_any _).mono ?_
  rintro e w1 ⟨rfl, b1, s1, m1⟩
  have HB1 := Lib.hid b1
  have HS1 := Lib.hid s1
  have HM1 := Lib.hid m1
  clear b1 s1 m1
  go_wp2_with fail
  refine (none_any _).mono ?_
  rintro e w2 ⟨rfl, b2, s2, m2⟩
  have HQ := Lib.hid (HF.out w1 w2 HB1.out HS1.out HM1.out b2 s2 m2)
  clear b2 s2 m2
  go_wp2
  go_ret2
  exact ⟨_, rfl, HQ.out⟩
end Go.Proofs.Ytmnaamjoikfpbaa.Nw
