/- The contract of wal's follow: steps, each a closure that lies in a row, one behind the other, up to the first error. A wal as it lies in memory, beside its disk; the contracts of Fault, Len, Size and change. The steps of wal's Append. The contract of wal's Append. The contract of wal's Reset. -/
import Derived.Test.YtbjemekkpmbhhaaProg
import Derived.WalkKit
import Derived.Below
import Derived.Lib.Hide
import Derived.Laws.EntriesVeiled
import Derived.Test.YtbjemekkpmbhhaaSy
import Derived.Test.YtbjemekkpmbhhaaRs7
import Derived.Test.YtbjemekkpmbhhaaFp7
import Derived.StillTailTactics
import Derived.Deep.RegionHeld3
import Derived.Test.YtbjemekkpmbhhaaRn
namespace Go.Proofs.Ytbjemekkpmbhhaa.Fo8
open Go Go.RowKit
/-- What a step, or some steps, come to: no error, and Q; or an error, and J of it. -/
def Came (Q : World → Prop) (J : Int → World → Prop) (e : Ending) (W : World) : Prop :=
  ∃ r : Int, e = .returned (.int .i64 r) ∧ ((r = 0 ∧ Q W) ∨ (r ≠ 0 ∧ J r W))
def Enters (f : FuncId) : Prop := ∀ (args : Array Value) (W : World), (callFunc f args).run Try.prog W = .ok (.enter f args) W
/-- A closure that lies in a cell, and what it comes to. -/
def StepAt (b i : Nat) (Q : World → Prop) (J : Int → World → Prop) (W : World) : Prop :=
  ∃ (f : FuncId) (bd caps : Array Value), W.cell? ⟨b, i, none⟩ = some (.func (.func f) bd caps) ∧ Enters f ∧ Calls Try.prog f (bd ++ caps) W (Came Q J)
set_option maxHeartbeats 1000000 in
theorem follow_any (n b c : Nat) (hn : n ≤ 1000) (Q : Nat → World → Prop) (J : Int → World → Prop) (hstep : ∀ i, i < n → ∀ W, Q i W → StepAt b i (Q (i + 1)) J W) (w : World) (h0 : Q 0 w) :
    Calls Try.prog 22 #[.slice (some ⟨b, 0, none⟩) n c] w (Came (Q n) J) := by
  have HS := Lib.hid hstep
  have H0 := Lib.hid h0
  clear hstep h0
  go_enter Try.func22, Try.ntmps22
  go_wp2
  go_loopw [4, 5, 8, 9, 10, 11, 12, 13, 14, 15, 17] (fun _ _ i _ _ _ _ _ _ _ _ wr => ∃ k : Nat, k ≤ n ∧ i = .int .i64 k ∧ Hid (Q k wr)) (fun _ _ i _ _ _ _ _ _ _ _ _ => n - (intOf i).toNat)
  case atStart => exact ⟨0, by omega, rfl, H0⟩
  case round =>
    obtain ⟨k, hk, rfl, hq⟩ := hrel
    by_cases hlt : k < n
    · obtain ⟨f, bd, caps, hc, he, hcall⟩ := HS.out k hlt wr hq.out
      have HE := Lib.hid he
      have HC := Lib.hid hcall
      clear he hcall hq
      go_wp2
      rw [HE.out, Oper.upon_enter]
      refine HC.out.mono ?_
      rintro e w1 ⟨r, rfl, hr⟩
      have HR := Lib.hid hr
      clear hr
      by_cases hz : r = 0
      · have hq1 : Q (k + 1) w1 := by
          rcases HR.out with ⟨_, h⟩ | ⟨h, _⟩
          · exact h
          · exact absurd hz h
        have HQ := Lib.hid hq1
        have hz1 : (r != 0) = false := by rw [hz]; rfl
        subst hz
        clear hq1 hz1 HR
        go_wp2
        go_round
        case rel => exact ⟨k + 1, by omega, by go_num, HQ⟩
        case measure => simp [intOf]; omega
      · have hz1 : (r != 0) = true := by simpa using hz
        have hj : J r w1 := by
          rcases HR.out with ⟨h, _⟩ | ⟨_, h⟩
          · exact absurd h hz
          · exact h
        have HJ := Lib.hid hj
        have HZ := Lib.hid hz
        clear hj HR hz
        go_wp2
        go_ret
        exact ⟨r, rfl, .inr ⟨HZ.out, HJ.out⟩⟩
    · obtain rfl : k = n := by omega
      go_wp2
      go_ret
      exact ⟨0, rfl, .inl ⟨rfl, hq.out⟩⟩
end Go.Proofs.Ytbjemekkpmbhhaa.Fo8
namespace Go.Proofs.Ytbjemekkpmbhhaa.Wl8
open Go Go.RowKit Go.Lib Go.Proofs.Ytbjemekkpmbhhaa.Dh Go.Proofs.Ytbjemekkpmbhhaa.Fm Go.Proofs.Ytbjemekkpmbhhaa.Dk Go.Proofs.Ytbjemekkpmbhhaa.St Go.Proofs.Ytbjemekkpmbhhaa.Fo8
theorem full_below {w w' : World} {S : Nat → Prop} {p : Nat} {D : St} (h : Full w S p D) (hb : Below w.heap.size w w') : Full w' S p D := Full.frame h fun b _ hlt => hb.block b hlt
theorem tread_below {w w' : World} (S : Nat → Prop) (hb : Below w.heap.size w w') : Tread S w w' := ⟨hb.os, hb.tape, hb.output, hb.size, fun b hlt _ => hb.block b hlt⟩
theorem below_tread {w w' : World} {S : Nat → Prop} (B : Nat) (h : Tread S w w') (hS : ∀ b, S b → B ≤ b) (hB : B ≤ w.heap.size) : Below B w w' := ⟨h.os, h.tape, h.output, h.size, fun b hlt => h.block b (by omega) fun hs => by have := hS b hs; omega⟩
/-- What of a wal changes. -/
structure Wx where
  cnt : Nat
  size : Nat
  fault : Int
def walO (p : Nat) (k : ByteArray) (X : Wx) : Obj := .cells #[.pointer (some ⟨p, 0, none⟩), .string k, .int .i64 X.cnt, .int .i64 X.size, .int .i64 X.fault] 57 (0, 0)
/-- Block p and its footprint S are the disk D, block q, apart from it, the wal X. -/
structure WalAt (w : World) (S : Nat → Prop) (p q : Nat) (k : ByteArray) (D : St) (X : Wx) : Prop where
  full : Full w S p D
  low : ∀ b, S b → b < w.heap.size
  off : ¬ S q
  blk : w.heap[q]? = some (walO p k X)
def out (S : Nat → Prop) (q b : Nat) : Prop := S b ∨ b = q
/-- What a call leaves: it touches the disk's blocks, the wal's, and new ones alone. -/
def Wto (S : Nat → Prop) (w w' : World) (p q : Nat) (k : ByteArray) (D' : St) (X' : Wx) : Prop := Tread (out S q) w w' ∧ WalAt w' (grow S w w') p q k D' X'
theorem grow_low {w w' : World} {S : Nat → Prop} (h : ∀ b, S b → b < w.heap.size) (hs : w.heap.size ≤ w'.heap.size) : ∀ b, grow S w w' b → b < w'.heap.size := by
  rintro b (hb | hb)
  · have := h b hb; omega
  · exact hb.2
theorem grow_off {w w' : World} {S : Nat → Prop} {q : Nat} (h : ¬ S q) (hq : q < w.heap.size) : ¬ grow S w w' q := by
  rintro (hb | hb)
  · exact h hb
  · omega
theorem WalAt.lt {w : World} {S : Nat → Prop} {p q : Nat} {k : ByteArray} {D : St} {X : Wx} (h : WalAt w S p q k D X) : q < w.heap.size := lt_of_at h.blk
theorem fault_any {w : World} {p q : Nat} {k : ByteArray} {X : Wx} (h : w.heap[q]? = some (walO p k X)) :
    Calls Try.prog 10 #[.pointer (some ⟨q, 0, none⟩)] w fun e w' => e = .returned (.int .i64 X.fault) ∧ w' = w := by
  have c : w.cell? ⟨q, 4, none⟩ = some (.int .i64 X.fault) := cell_of h 4
  clear h
  go_enter Try.func10, Try.ntmps10
  go_wp2
  go_ret
  exact ⟨rfl, rfl⟩
theorem len_any {w : World} {p q : Nat} {k : ByteArray} {X : Wx} (h : w.heap[q]? = some (walO p k X)) :
    Calls Try.prog 13 #[.pointer (some ⟨q, 0, none⟩)] w fun e w' => e = .returned (.int .i64 X.cnt) ∧ w' = w := by
  have c : w.cell? ⟨q, 2, none⟩ = some (.int .i64 X.cnt) := cell_of h 2
  clear h
  go_enter Try.func13, Try.ntmps13
  go_wp2
  go_ret
  exact ⟨rfl, rfl⟩
theorem size_any {w : World} {p q : Nat} {k : ByteArray} {X : Wx} (h : w.heap[q]? = some (walO p k X)) :
    Calls Try.prog 17 #[.pointer (some ⟨q, 0, none⟩)] w fun e w' => e = .returned (.int .i64 X.size) ∧ w' = w := by
  have c : w.cell? ⟨q, 3, none⟩ = some (.int .i64 X.size) := cell_of h 3
  clear h
  go_enter Try.func17, Try.ntmps17
  go_wp2
  go_ret
  exact ⟨rfl, rfl⟩
/-- What an error, that some steps ended with, leaves: the wal is down by it, but for ErrFull. -/
def Downed (q : Nat) (J : Int → World → Prop) (r : Int) (W : World) : Prop := ∃ W1, J r W1 ∧ W = if r = 4 then W1 else W1.setCell ⟨q, 4, none⟩ (.int .i64 r)
set_option maxHeartbeats 1000000 in
theorem change_any (q n b c : Nat) (hn : n ≤ 1000) (Q : Nat → World → Prop) (J : Int → World → Prop) (hstep : ∀ i, i < n → ∀ W, Q i W → StepAt b i (Q (i + 1)) J W) (hJ : ∀ r W, J r W → ∃ p k X, W.heap[q]? = some (walO p k X)) (w : World) (h0 : Q 0 w) :
    Calls Try.prog 29 #[.pointer (some ⟨q, 0, none⟩), .slice (some ⟨b, 0, none⟩) n c] w (Came (Q n) (Downed q J)) := by
  have HF := Lib.hid (follow_any n b c hn Q J hstep w h0)
  have HJ := Lib.hid hJ
  clear hstep h0 hJ
  go_enter Try.func29, Try.ntmps29
  go_wp2_with fail
  refine HF.out.mono ?_
  rintro e w1 ⟨r, rfl, hr⟩
  by_cases hz : r = 0
  · have hq1 : Q n w1 := by
      rcases hr with ⟨_, h⟩ | ⟨h, _⟩
      · exact h
      · exact absurd hz h
    have HQ := Lib.hid hq1
    have hz1 : (r != 0) = false := by rw [hz]; rfl
    have H0 := Lib.hid hz
    clear hq1 hr hz
    go_wp2
    go_ret
    exact ⟨r, rfl, .inl ⟨H0.out, HQ.out⟩⟩
  · have hz1 : (r != 0) = true := by simpa using hz
    have hj : J r w1 := by
      rcases hr with ⟨h, _⟩ | ⟨_, h⟩
      · exact absurd h hz
      · exact h
    have H0 := Lib.hid hz
    by_cases h4 : r = 4
    · have hz2 : (r != 4) = false := by rw [h4]; rfl
      have HD : Hid (Downed q J r w1) := Lib.hid ⟨w1, hj, by rw [if_pos h4]⟩
      clear hj hr hz h4
      go_wp2
      go_ret
      exact ⟨r, rfl, .inr ⟨H0.out, HD.out⟩⟩
    · have hz2 : (r != 4) = true := by simpa using h4
      have HD : Hid (Downed q J r (w1.setCell ⟨q, 4, none⟩ (.int .i64 r))) := Lib.hid ⟨w1, hj, by rw [if_neg h4]⟩
      obtain ⟨p, k, X, hx⟩ := HJ.out r w1 hj
      have f4 : w1.frozen? ⟨q, 4, none⟩ = false := free_of hx 4
      have c4 : w1.cell? ⟨q, 4, none⟩ = some (.int .i64 X.fault) := cell_of hx 4
      clear hj hr hz h4 hx
      go_wp2
      go_ret
      exact ⟨r, rfl, .inr ⟨H0.out, HD.out⟩⟩
end Go.Proofs.Ytbjemekkpmbhhaa.Wl8
namespace Go.Proofs.Ytbjemekkpmbhhaa.Wa8
open Go Go.RowKit Go.Lib Go.Proofs.Ytbjemekkpmbhhaa.Dh Go.Proofs.Ytbjemekkpmbhhaa.Fm Go.Proofs.Ytbjemekkpmbhhaa.Dk Go.Proofs.Ytbjemekkpmbhhaa.St Go.Proofs.Ytbjemekkpmbhhaa.Fo8 Go.Proofs.Ytbjemekkpmbhhaa.Wl8
def boxW (q : Nat) : Obj := .cells #[.pointer (some ⟨q, 0, none⟩)] 29 (0, 0)
def boxS (s : ByteArray) : Obj := .cells #[.string s] 9 (0, 0)
def boxL (v : Value) : Obj := .cells #[v] 30 (0, 0)
abbrev pt (b : Nat) : Value := .pointer (some ⟨b, 0, none⟩)
theorem put_step {w : World} {S : Nat → Prop} {p q bw bf : Nat} {k fs : ByteArray} {D : St} {X : Wx} (h : Full w S p D) (hq : w.heap[q]? = some (walO p k X)) (hw : w.heap[bw]? = some (boxW q)) (hf : w.heap[bf]? = some (boxS fs))
    (hk : k.size ≤ maxLen) (hs : fs.size ≤ 1099511627776) (hlen : D.loose.length ≤ 1099511627776) :
    Calls Try.prog 30 #[pt bw, pt bf] w fun e w' => e = .returned (.int .i64 (stAppend D k fs).1) ∧ To S w w' p (stAppend D k fs).2 := by
  have c0 : w.cell? ⟨q, 0, none⟩ = some (.pointer (some ⟨p, 0, none⟩)) := cell_of hq 0
  have c1 : w.cell? ⟨q, 1, none⟩ = some (.string k) := cell_of hq 1
  have c2 : w.cell? ⟨bw, 0, none⟩ = some (.pointer (some ⟨q, 0, none⟩)) := cell_of hw 0
  have c3 : w.cell? ⟨bf, 0, none⟩ = some (.string fs) := cell_of hf 0
  have HC := Lib.hid (Ap.append_any (Full.drew h) k fs hk hs hlen)
  clear h hq hw hf
  go_enter Try.func30, Try.ntmps30
  go_wp2
  refine wp_region_still_tail 9 (by kernel_rfl) (by kernel_rfl) ?_
  simp only [List.take_succ_cons, List.take_zero, List.drop_succ_cons, List.drop_zero]
  change wpStill _ _ w.drew _ _ _
  repeat (with_reducible refine wpStill_step (fun K hK => ?_); go_simp; with_reducible refine hK _ ?_; clear hK K)
  with_reducible refine wpStill_nil ?_
  change wpList _ _ _ _ _ w.drew
  go_wp2_with (go_at_call 31; refine HC.out.mono ?_; rintro e w' ⟨rfl, hd⟩; have HD := Lib.hid hd; clear hd)
  go_ret
  exact ⟨rfl, HD.out.of_drew⟩
set_option maxHeartbeats 1000000 in
theorem count_step {w : World} {p q bw bl bf n c : Nat} {A : Option Addr} {k fs : ByteArray} {X : Wx} (hq : w.heap[q]? = some (walO p k X)) (hw : w.heap[bw]? = some (boxW q)) (hl : w.heap[bl]? = some (boxL (.slice A n c))) (hf : w.heap[bf]? = some (boxS fs))
    (hn : X.cnt + n ≤ 9223372036854775807) (hs : X.size + fs.size ≤ 9223372036854775807) :
    Calls Try.prog 32 #[pt bw, pt bl, pt bf] w fun e w' => e = .returned (.int .i64 0) ∧ w'.heap[q]? = some (walO p k ⟨X.cnt + n, X.size + fs.size, X.fault⟩) ∧ Tread (fun b => b = q) w w' := by
  have hbw : bw ≠ q := fun e => by rw [e, hq] at hw; cases hw
  have hbl : bl ≠ q := fun e => by rw [e, hq] at hl; cases hl
  have hbf : bf ≠ q := fun e => by rw [e, hq] at hf; cases hf
  have c2 : w.cell? ⟨q, 2, none⟩ = some (.int .i64 (X.cnt : Int)) := cell_of hq 2
  have cw : w.cell? ⟨bw, 0, none⟩ = some (.pointer (some ⟨q, 0, none⟩)) := cell_of hw 0
  have cl : w.cell? ⟨bl, 0, none⟩ = some (.slice A n c) := cell_of hl 0
  have f2 : w.frozen? ⟨q, 2, none⟩ = false := free_of hq 2
  obtain ⟨w1, h1⟩ : ∃ w1, w1 = (w.setCell ⟨q, 2, none⟩ (.int .i64 ((X.cnt : Int) + (n : Int)))).drew := ⟨_, rfl⟩
  have hq1 : w1.heap[q]? = some (walO p k ⟨X.cnt + n, X.size, X.fault⟩) := by
    rw [h1]
    show (w.setCell _ _).heap[q]? = _
    rw [setCell_heap hq]; rfl
  have hk1 : ∀ b, b ≠ q → w1.heap[b]? = w.heap[b]? := fun b hb => by rw [h1]; exact Below.heap_setCell _ _ _ _ hb
  have d3 : w1.cell? ⟨q, 3, none⟩ = some (.int .i64 (X.size : Int)) := cell_of hq1 3
  have dw : w1.cell? ⟨bw, 0, none⟩ = some (.pointer (some ⟨q, 0, none⟩)) := cell_of ((hk1 bw hbw).trans hw) 0
  have df : w1.cell? ⟨bf, 0, none⟩ = some (.string fs) := cell_of ((hk1 bf hbf).trans hf) 0
  have f3 : w1.frozen? ⟨q, 3, none⟩ = false := free_of hq1 3
  have HE : Hid (w1 = (w.setCell ⟨q, 2, none⟩ (.int .i64 ((X.cnt : Int) + (n : Int)))).drew) := Lib.hid h1
  have HD : Hid ((w1.setCell ⟨q, 3, none⟩ (.int .i64 ((X.size : Int) + (fs.size : Int)))).drew.heap[q]? = some (walO p k ⟨X.cnt + n, X.size + fs.size, X.fault⟩) ∧ Tread (fun b => b = q) w (w1.setCell ⟨q, 3, none⟩ (.int .i64 ((X.size : Int) + (fs.size : Int)))).drew) := Lib.hid (by
    refine ⟨by show (w1.setCell _ _).heap[q]? = _; rw [setCell_heap hq1]; rfl, ?_⟩
    have t1 : Tread (fun b => b = q) w w1 := by rw [h1]; exact (Tread.setCell (S := fun b => b = q) w ⟨q, 2, none⟩ _ rfl).drew
    have t2 : Tread (fun b => b = q) w1 (w1.setCell ⟨q, 3, none⟩ (.int .i64 ((X.size : Int) + (fs.size : Int)))).drew := (Tread.setCell (S := fun b => b = q) w1 ⟨q, 3, none⟩ _ rfl).drew
    exact t1.trans (t2.mono fun b hb => .inl hb))
  clear hq hw hl hf hbw hbl hbf hq1 hk1 h1
  go_enter Try.func32, Try.ntmps32
  go_wp2
  refine wp_region_still_tail 9 (by kernel_rfl) (by kernel_rfl) ?_
  simp only [List.take_succ_cons, List.take_zero, List.drop_succ_cons, List.drop_zero]
  change wpStill _ _ w.drew _ _ _
  repeat (with_reducible refine wpStill_step (fun K hK => ?_); go_simp; with_reducible refine hK _ ?_; clear hK K)
  with_reducible refine wpStill_nil ?_
  change wpList _ _ _ _ _ w.drew
  go_wp2
  rw [← HE.out]
  refine wp_region_still_tail 9 (by kernel_rfl) (by kernel_rfl) ?_
  simp only [List.take_succ_cons, List.take_zero, List.drop_succ_cons, List.drop_zero]
  change wpStill _ _ w1.drew _ _ _
  repeat (with_reducible refine wpStill_step (fun K hK => ?_); go_simp; with_reducible refine hK _ ?_; clear hK K)
  with_reducible refine wpStill_nil ?_
  change wpList _ _ _ _ _ w1.drew
  go_wp2
  go_ret
  exact ⟨rfl, HD.out⟩
/-- What an error leaves of a wal: it is down by it, but for ErrFull. -/
def downX (X : Wx) (e : Int) : Wx := if e = 4 then X else { X with fault := e }
/-- What Append of these frames, of so many records, answers and leaves, where it is not down. -/
def walPut (k : ByteArray) (D : St) (X : Wx) (n : Nat) (fs : ByteArray) : Int × St × Wx :=
  if (stAppend D k fs).1 ≠ 0 then ((stAppend D k fs).1, (stAppend D k fs).2, downX X (stAppend D k fs).1)
  else if (stSync (stAppend D k fs).2).1 ≠ 0 then ((stSync (stAppend D k fs).2).1, (stSync (stAppend D k fs).2).2, downX X (stSync (stAppend D k fs).2).1)
  else (0, (stSync (stAppend D k fs).2).2, ⟨X.cnt + n, X.size + fs.size, X.fault⟩)
theorem doing_loose (D : St) (c : Cmd) : (doing D c).2.loose.length ≤ D.loose.length + 1 := by
  unfold doing burnt
  split <;> (split <;> first | (simp; done) | (split <;> (simp; done)))
theorem app_loose (D : St) (k fs : ByteArray) : (stAppend D k fs).2.loose.length ≤ D.loose.length + 1 := by
  unfold stAppend
  split
  · simp
  · split
    · simp
    · split
      · simp
      · exact doing_loose D _
theorem To.keep {S : Nat → Prop} {w w' : World} {p b : Nat} {D : St} {o : Obj} (h : To S w w' p D) (hb : w.heap[b]? = some o) (hn : ¬ S b) : w'.heap[b]? = some o := (h.1.block b (lt_of_at hb) hn).trans hb
theorem wto_of_to {S : Nat → Prop} {w w' : World} {p q : Nat} {k : ByteArray} {D D' : St} {X : Wx} (h : WalAt w S p q k D X) (ht : To S w w' p D') : Wto S w w' p q k D' X :=
  ⟨ht.1.mono fun _ hb => .inl hb, ht.2, grow_low h.low ht.1.size, grow_off h.off h.lt, To.keep ht h.blk h.off⟩
theorem full_size {w w' : World} {S : Nat → Prop} {p : Nat} {D : St} (h : Full w S p D) (hb : ∀ b, S b → w'.heap[b]? = w.heap[b]?) : Full w' S p D := Full.frame h fun b hs _ => hb b hs
theorem downed {S : Nat → Prop} {w w' : World} {p q : Nat} {k : ByteArray} {D D' : St} {X : Wx} (h : WalAt w S p q k D X) (ht : To S w w' p D') (r : Int) (W : World) (hW : W = if r = 4 then w' else w'.setCell ⟨q, 4, none⟩ (.int .i64 r)) : Wto S w W p q k D' (downX X r) := by
  have h1 := wto_of_to h ht
  unfold downX
  by_cases h4 : r = 4
  · rw [if_pos h4] at hW ⊢
    rw [hW]; exact h1
  · rw [if_neg h4] at hW ⊢
    rw [hW]
    have hg : grow S w (w'.setCell ⟨q, 4, none⟩ (.int .i64 r)) = grow S w w' := grow_size (setCell_size _ _ _)
    refine ⟨h1.1.trans (Tread.setCell _ _ _ (.inl (.inr rfl))), ?_, ?_, ?_, ?_⟩
    · rw [hg]
      refine full_size h1.2.full fun b hb => Below.heap_setCell _ _ _ _ (fun e => by have e2 : b = q := e; rw [e2] at hb; exact h1.2.off hb)
    · rw [hg, setCell_size]; exact h1.2.low
    · rw [hg]; exact h1.2.off
    · rw [setCell_heap h1.2.blk]; rfl
def stepsOf (p bw bl bf : Nat) : Obj := .cells #[.func (.func 30) #[] #[pt bw, pt bf], .func (.func 27) #[pt p] #[], .func (.func 32) #[] #[pt bw, pt bl, pt bf]] 73 (0, 0)
theorem append_tail {W : World} {S : Nat → Prop} {p q bw bl bf bc n c : Nat} {A : Option Addr} {k fs : ByteArray} {D : St} {X : Wx} (h : WalAt W S p q k D X)
    (hw : W.heap[bw]? = some (boxW q)) (hl : W.heap[bl]? = some (boxL (.slice A n c))) (hf : W.heap[bf]? = some (boxS fs)) (hc : W.heap[bc]? = some (stepsOf p bw bl bf)) (nw : ¬ S bw) (nl : ¬ S bl) (nf : ¬ S bf) (nc : ¬ S bc)
    (hk : k.size ≤ maxLen) (hs : fs.size ≤ 1099511627776) (hlen : D.loose.length ≤ 1099511627000) (hn1 : X.cnt + n ≤ 9223372036854775807) (hn2 : X.size + fs.size ≤ 9223372036854775807) :
    Calls Try.prog 29 #[.pointer (some ⟨q, 0, none⟩), .slice (some ⟨bc, 0, none⟩) 3 3] W fun e W' => e = .returned (.int .i64 (walPut k D X n fs).1) ∧ Wto S W W' p q k (walPut k D X n fs).2.1 (walPut k D X n fs).2.2 := by
  have hal := app_loose D k fs
  unfold walPut
  obtain ⟨a, ha⟩ : ∃ a, a = stAppend D k fs := ⟨_, rfl⟩
  rw [← ha] at hal ⊢
  obtain ⟨s, hsy⟩ : ∃ s, s = stSync a.2 := ⟨_, rfl⟩
  rw [← hsy]
  let Q : Nat → World → Prop := fun i V => match i with
    | 0 => V = W
    | 1 => a.1 = 0 ∧ To S W V p a.2
    | 2 => a.1 = 0 ∧ s.1 = 0 ∧ To S W V p s.2
    | _ => a.1 = 0 ∧ s.1 = 0 ∧ Wto S W V p q k s.2 ⟨X.cnt + n, X.size + fs.size, X.fault⟩
  let J : Int → World → Prop := fun r V => (r ≠ 0 ∧ a.1 = r ∧ To S W V p a.2) ∨ (r ≠ 0 ∧ a.1 = 0 ∧ s.1 = r ∧ To S W V p s.2)
  have hstep : ∀ i, i < 3 → ∀ V, Q i V → StepAt bc i (Q (i + 1)) J V := by
    intro i hi V hq
    rcases i with _ | _ | _ | i
    · obtain rfl : V = W := hq
      refine ⟨_, _, _, (cell_of hc 0).trans rfl, fun _ _ => by go_simp, ?_⟩
      refine (put_step h.full h.blk hw hf hk hs (by omega)).mono ?_
      rintro e V' ⟨rfl, ht⟩
      rw [← ha] at ht ⊢
      refine ⟨_, rfl, ?_⟩
      by_cases hz : a.1 = 0
      · exact .inl ⟨hz, hz, ht⟩
      · exact .inr ⟨hz, .inl ⟨hz, rfl, ht⟩⟩
    · obtain ⟨ha0, ht⟩ : a.1 = 0 ∧ To S W V p a.2 := hq
      refine ⟨_, _, _, (cell_of (To.keep ht hc nc) 1).trans rfl, fun _ _ => by go_simp, ?_⟩
      refine (Sy.sync_any ht.2 (by omega)).mono ?_
      rintro e V' ⟨rfl, ht2⟩
      rw [← hsy] at ht2 ⊢
      have ht3 := To.trans ht ht2
      refine ⟨_, rfl, ?_⟩
      by_cases hz : s.1 = 0
      · exact .inl ⟨hz, ha0, hz, ht3⟩
      · exact .inr ⟨hz, .inr ⟨hz, ha0, rfl, ht3⟩⟩
    · obtain ⟨ha0, hs0, ht⟩ : a.1 = 0 ∧ s.1 = 0 ∧ To S W V p s.2 := hq
      refine ⟨_, _, _, (cell_of (To.keep ht hc nc) 2).trans rfl, fun _ _ => by go_simp, ?_⟩
      have hwt := wto_of_to h ht
      refine (count_step hwt.2.blk (To.keep ht hw nw) (To.keep ht hl nl) (To.keep ht hf nf) hn1 hn2).mono ?_
      rintro e V' ⟨rfl, hb, ht2⟩
      refine ⟨0, rfl, .inl ⟨rfl, ha0, hs0, ?_⟩⟩
      refine ⟨hwt.1.trans (ht2.mono fun b hb => .inl (.inr hb)), ?_, ?_, ?_, hb⟩
      · refine Full.up (full_size hwt.2.full fun b hb => ht2.block b (hwt.2.low b hb) (fun e => hwt.2.off (e ▸ hb))) ?_
        rintro b (hb | hb)
        · exact .inl hb
        · exact .inr ⟨hb.1, by have := ht2.size; omega⟩
      · exact grow_low h.low (by have := ht2.size; have := ht.1.size; omega)
      · exact grow_off h.off h.lt
    · omega
  refine (change_any q 3 bc 3 (by omega) Q J hstep ?_ W rfl).mono ?_
  · rintro r V (⟨_, _, ht⟩ | ⟨_, _, _, ht⟩)
    · exact ⟨_, _, _, To.keep ht h.blk h.off⟩
    · exact ⟨_, _, _, To.keep ht h.blk h.off⟩
  · rintro e V ⟨r, rfl, ⟨rfl, hq⟩ | ⟨hr, V1, hj, hV⟩⟩
    · obtain ⟨ha0, hs0, ht⟩ : a.1 = 0 ∧ s.1 = 0 ∧ Wto S W V p q k s.2 ⟨X.cnt + n, X.size + fs.size, X.fault⟩ := hq
      rw [if_neg (fun x => x ha0), if_neg (fun x => x hs0)]
      exact ⟨rfl, ht⟩
    · rcases hj with ⟨hz, hra, ht⟩ | ⟨hz, ha0, hrs, ht⟩
      · subst hra
        rw [if_pos hz]
        exact ⟨rfl, downed h ht _ _ hV⟩
      · subst hrs
        rw [if_neg (fun x => x ha0), if_pos hz]
        exact ⟨rfl, downed h ht _ _ hV⟩
end Go.Proofs.Ytbjemekkpmbhhaa.Wa8
namespace Go.Proofs.Ytbjemekkpmbhhaa.Wp8
open Go Go.RowKit Go.Lib Go.Proofs.Ytbjemekkpmbhhaa.Dh Go.Proofs.Ytbjemekkpmbhhaa.Fm Go.Proofs.Ytbjemekkpmbhhaa.Dk Go.Proofs.Ytbjemekkpmbhhaa.St Go.Proofs.Ytbjemekkpmbhhaa.Fl7 Go.Proofs.Ytbjemekkpmbhhaa.Rs7 Go.Proofs.Ytbjemekkpmbhhaa.Fo8 Go.Proofs.Ytbjemekkpmbhhaa.Wl8 Go.Proofs.Ytbjemekkpmbhhaa.Wa8
theorem wal_below {w w' : World} {S : Nat → Prop} {p q : Nat} {k : ByteArray} {D : St} {X : Wx} (h : WalAt w S p q k D X) (hb : Below w.heap.size w w') : WalAt w' S p q k D X :=
  ⟨full_below h.full hb, fun b hs => by have := h.low b hs; have := hb.size; omega, h.off, (hb.block q h.lt).trans h.blk⟩
theorem wto_below {w w' : World} {S : Nat → Prop} {p q : Nat} {k : ByteArray} {D : St} {X : Wx} (h : WalAt w S p q k D X) (hb : Below w.heap.size w w') : Wto S w w' p q k D X :=
  ⟨(tread_below S hb).mono fun _ hb => .inl hb, (wal_below h hb).full.up grow_up, grow_low h.low hb.size, grow_off h.off h.lt, (wal_below h hb).blk⟩
theorem wto_pre {w W w' : World} {S : Nat → Prop} {p q : Nat} {k : ByteArray} {D D' : St} {X X' : Wx} (h : WalAt w S p q k D X) (hb : Below w.heap.size w W) (ht : Wto S W w' p q k D' X') : Wto S w w' p q k D' X' := by
  have hs := hb.size
  have hs2 := ht.1.size
  refine ⟨((tread_below S hb).mono fun _ hb => .inl hb).trans (ht.1.mono fun _ hb => .inl hb), ht.2.full.up ?_, grow_low h.low (by omega), grow_off h.off h.lt, ht.2.blk⟩
  rintro b (hb | hb)
  · exact .inl hb
  · exact .inr ⟨by omega, hb.2⟩
theorem append_down {w : World} {S : Nat → Prop} {p q : Nat} {k : ByteArray} {D : St} {X : Wx} (h : WalAt w S p q k D X) (A : Option Addr) (n c : Nat) (hf : X.fault ≠ 0) :
    Calls Try.prog 8 #[.pointer (some ⟨q, 0, none⟩), .slice A n c] w fun e w' => e = .returned (.int .i64 X.fault) ∧ Wto S w w' p q k D X := by
  have hb : Below w.heap.size w ((w.alloc (boxW q)).alloc (boxL (.slice A n c))) := ((Below.refl _ w).alloc (Nat.le_refl _) _).alloc (by rw [size_alloc]; omega) _
  have HF := Lib.hid (fault_any (wal_below h hb).blk)
  have HW := Lib.hid (wto_below h hb)
  have hz : (X.fault != 0) = true := by simpa using hf
  clear h hb hf
  go_enter Try.func8, Try.ntmps8
  go_wp2_with fail
  refine HF.out.mono ?_
  rintro e w1 ⟨rfl, rfl⟩
  go_wp2
  go_ret
  exact ⟨rfl, HW.out⟩
theorem sized (w : World) (a b : Obj) : Below w.heap.size w ((w.alloc a).alloc b) := ((Below.refl _ w).alloc (Nat.le_refl _) _).alloc (by rw [size_alloc]; omega) _
theorem below_set {B : Nat} {w w' : World} (h : Below B w w') (b i : Nat) (v : Value) (hb : B ≤ b) : Below B w (w'.setCell ⟨b, i, none⟩ v) := h.setCell (p := ⟨b, i, none⟩) hb v
/-- No record: nothing is done. -/
theorem append_none {w : World} {S : Nat → Prop} {p q : Nat} {k : ByteArray} {D : St} {X : Wx} (h : WalAt w S p q k D X) (A : Option Addr) (c : Nat) (hf : X.fault = 0) :
    Calls Try.prog 8 #[.pointer (some ⟨q, 0, none⟩), .slice A 0 c] w fun e w' => e = .returned (.int .i64 0) ∧ Wto S w w' p q k D X := by
  have hb := sized w (boxW q) (boxL (.slice A 0 c))
  obtain ⟨W, hW⟩ : ∃ W, W = (w.alloc (boxW q)).alloc (boxL (.slice A 0 c)) := ⟨_, rfl⟩
  rw [← hW] at hb
  have hF := fault_any (wal_below h hb).blk
  rw [hf] at hF
  have hA := Fp7.all_ok W A c [] (Rds.nil W A) (by decide) (by decide) (fun k h => by simp at h)
  have e0 : bs (frs (ll [])) = ⟨#[]⟩ := rfl
  rw [e0] at hA
  change Calls _ _ #[.slice A 0 c] W _ at hA
  have cl : W.cell? ⟨w.heap.size + 1, 0, none⟩ = some (.slice A 0 c) := by
    rw [hW]
    have := heap_new (w.alloc (boxW q)) (boxL (.slice A 0 c))
    rw [size_alloc] at this
    exact cell_of this 0
  have hKl : ∀ W1 W2, Below W.heap.size W W1 → Below W1.heap.size W1 W2 → W2.cell? ⟨w.heap.size + 1, 0, none⟩ = some (.slice A 0 c) := fun W1 W2 h1 h2 => by
    have hsz : W.heap.size = w.heap.size + 1 + 1 := by rw [hW, size_alloc, size_alloc]
    rw [h2.cell (p := ⟨w.heap.size + 1, 0, none⟩) (by have := h1.size; show w.heap.size + 1 < _; omega), h1.cell (p := ⟨w.heap.size + 1, 0, none⟩) (by show w.heap.size + 1 < _; omega)]
    exact cl
  have HK := Lib.hid hKl
  have HF := Lib.hid hF
  have HA := Lib.hid hA
  have HH := Lib.hid h
  have HB := Lib.hid hb
  rw [hW] at HF HA cl
  have HW := Lib.hid hW
  clear h hb hf hW hF hA e0 hKl
  go_enter Try.func8, Try.ntmps8
  go_wp2_with fail
  refine HF.out.mono ?_
  rintro e w1 ⟨rfl, rfl⟩
  go_wp2_with fail
  refine HA.out.mono ?_
  rintro e w1 ⟨rfl, hb1⟩
  rw [← HW.out] at hb1
  have hb2 : Below w1.heap.size w1 (w1.alloc (boxS ⟨#[]⟩)) := (Below.refl _ w1).alloc (Nat.le_refl _) _
  have cl2 := HK.out w1 _ hb1 hb2
  have HB2 := Lib.hid (HB.out.trans ((hb1.trans (hb2.mono hb1.size)).mono HB.out.size))
  clear hb1 hb2 HK HF HA cl
  simp only [boxS] at cl2
  go_wp2
  go_ret
  exact ⟨rfl, wto_below HH.out HB2.out⟩
set_option maxHeartbeats 1000000 in
/-- Some records, none of which is too long. -/
theorem append_some {w : World} {S : Nat → Prop} {p q : Nat} {k : ByteArray} {D : St} {X : Wx} (h : WalAt w S p q k D X) (A : Option Addr) (c : Nat) (L : List ByteArray) (hr : Rds w A L) (hf : X.fault = 0) (hne : L ≠ [])
    (hlen : L.length ≤ 1099511627776) (hsz : size (ll L) ≤ 1099511627776) (hs : ∀ k (h : k < L.length), L[k].size ≤ 4194304)
    (hk : k.size ≤ maxLen) (hD : D.loose.length ≤ 1099511627000) (hn1 : X.cnt + L.length ≤ 9223372036854775807) (hn2 : X.size + size (ll L) ≤ 9223372036854775807) :
    Calls Try.prog 8 #[.pointer (some ⟨q, 0, none⟩), .slice A L.length c] w fun e w' => e = .returned (.int .i64 (walPut k D X L.length (bs (frs (ll L)))).1) ∧ Wto S w w' p q k (walPut k D X L.length (bs (frs (ll L)))).2.1 (walPut k D X L.length (bs (frs (ll L)))).2.2 := by
  obtain ⟨n, hn⟩ : ∃ n, n = L.length := ⟨_, rfl⟩
  have hn0 : n ≠ 0 := by rw [hn]; exact fun e => hne (List.length_eq_zero_iff.1 e)
  have hb := sized w (boxW q) (boxL (.slice A n c))
  obtain ⟨W, hW⟩ : ∃ W, W = (w.alloc (boxW q)).alloc (boxL (.slice A n c)) := ⟨_, rfl⟩
  rw [← hW] at hb
  have hF := fault_any (wal_below h hb).blk
  rw [hf] at hF
  have hA := Fp7.all_ok W A c L (hr.keep (Nat.le_refl _) hb) (by omega) (by omega) hs
  obtain ⟨fs, hfs⟩ : ∃ fs, fs = bs (frs (ll L)) := ⟨_, rfl⟩
  have hfz : fs.size = size (ll L) := by rw [hfs, bs_size, frs_len]
  rw [← hfs] at hA ⊢
  rw [← hn] at hA hn1 ⊢
  have hsW : W.heap.size = w.heap.size + 1 + 1 := by rw [hW, size_alloc, size_alloc]
  have hbW : W.heap[w.heap.size]? = some (boxW q) := by
    rw [hW, heap_alloc _ _ _ (by rw [size_alloc]; omega)]; exact heap_new w _
  have hbL : W.heap[w.heap.size + 1]? = some (boxL (.slice A n c)) := by
    rw [hW]
    have := heap_new (w.alloc (boxW q)) (boxL (.slice A n c))
    rw [size_alloc] at this; exact this
  have cl : W.cell? ⟨w.heap.size + 1, 0, none⟩ = some (.slice A n c) := cell_of hbL 0
  -- what stands behind All, and behind the row of steps
  have hT : ∀ (w1 W2 : World), Below W.heap.size W w1 → W2 = w1.alloc (boxS fs) →
      W2.cell? ⟨w.heap.size, 0, none⟩ = some (.pointer (some ⟨q, 0, none⟩)) ∧ W2.cell? ⟨w.heap.size + 1, 0, none⟩ = some (.slice A n c) ∧ W2.cell? ⟨q, 0, none⟩ = some (.pointer (some ⟨p, 0, none⟩)) ∧
      Calls Try.prog 29 #[.pointer (some ⟨q, 0, none⟩), .slice (some ⟨w1.heap.size + 1, 0, none⟩) 3 3] (W2.alloc (stepsOf p w.heap.size (w.heap.size + 1) w1.heap.size)).drew fun e w' => e = .returned (.int .i64 (walPut k D X n fs).1) ∧ Wto S w w' p q k (walPut k D X n fs).2.1 (walPut k D X n fs).2.2 ∧
        w'.cell? ⟨w.heap.size, 0, none⟩ = some (.pointer (some ⟨q, 0, none⟩)) ∧ w'.cell? ⟨w.heap.size + 1, 0, none⟩ = some (.slice A n c) ∧ w'.cell? ⟨q, 0, none⟩ = some (.pointer (some ⟨p, 0, none⟩)) := by
    intro w1 W2 hb1 hW2
    have hs1 := hb1.size
    have hsz2 : W2.heap.size = w1.heap.size + 1 := by rw [hW2, size_alloc]
    have hb2 : Below w.heap.size w W2 := by rw [hW2]; exact (hb.trans (hb1.mono hb.size)).alloc (by omega) _
    have hwal := wal_below h hb2
    have k1 : W2.heap[w.heap.size]? = some (boxW q) := by rw [hW2, heap_alloc _ _ _ (by omega), hb1.block _ (by omega)]; exact hbW
    have k2 : W2.heap[w.heap.size + 1]? = some (boxL (.slice A n c)) := by rw [hW2, heap_alloc _ _ _ (by omega), hb1.block _ (by omega)]; exact hbL
    have k3 : W2.heap[w1.heap.size]? = some (boxS fs) := by rw [hW2]; exact heap_new w1 _
    have hW3 : Below W2.heap.size W2 (W2.alloc (stepsOf p w.heap.size (w.heap.size + 1) w1.heap.size)).drew := ((Below.refl _ W2).alloc (Nat.le_refl _) _).drew
    have hwal3 := wal_below hwal hW3
    have k4 : (W2.alloc (stepsOf p w.heap.size (w.heap.size + 1) w1.heap.size)).drew.heap[w1.heap.size + 1]? = some (stepsOf p w.heap.size (w.heap.size + 1) w1.heap.size) := by
      have := heap_new W2 (stepsOf p w.heap.size (w.heap.size + 1) w1.heap.size)
      rw [hsz2] at this; exact this
    have low := h.low
    refine ⟨cell_of k1 0, cell_of k2 0, cell_of hwal.blk 0, ?_⟩
    refine (append_tail hwal3 ((hW3.block _ (by omega)).trans k1) ((hW3.block _ (by omega)).trans k2) ((hW3.block _ (by omega)).trans k3) k4 (fun hx => by have := low _ hx; omega) (fun hx => by have := low _ hx; omega) (fun hx => by have := low _ hx; omega) (fun hx => by have := low _ hx; omega) hk (by omega) hD (by omega) (by omega)).mono ?_
    rintro e w' ⟨rfl, ht⟩
    have hq := h.lt
    have kk : ∀ b, w.heap.size ≤ b → b < W2.heap.size → ∀ o, W2.heap[b]? = some o → w'.heap[b]? = some o := fun b h1 h2 o ho => by
      have h3 := hW3.size
      rw [ht.1.block b (by omega) (fun hx => by
        rcases hx with hx | hx
        · have := low b hx; omega
        · omega), hW3.block b h2]
      exact ho
    exact ⟨rfl, wto_pre h (hb2.trans (hW3.mono hb2.size)) ht, cell_of (kk _ (by omega) (by omega) _ k1) 0, cell_of (kk _ (by omega) (by omega) _ k2) 0, cell_of ht.2.blk 0⟩
  have HT := Lib.hid hT
  have HF := Lib.hid hF
  have HA := Lib.hid hA
  rw [hW] at HF HA cl
  have HW := Lib.hid hW
  have hcl : (n : Int) ≠ 0 := by omega
  have hz : ((n : Int) == 0) = false := by rw [beq_eq_false_iff_ne]; omega
  clear h hr hf hne hlen hsz hs hn1 hn2 hb hW hF hA hT hfs hfz hsW hbW hbL hk hD hn
  go_enter Try.func8, Try.ntmps8
  go_wp2_with fail
  refine HF.out.mono ?_
  rintro e w1 ⟨rfl, rfl⟩
  go_wp2_with fail
  refine HA.out.mono ?_
  rintro e w1 ⟨rfl, hb1⟩
  rw [← HW.out] at hb1
  obtain ⟨W2, hW2⟩ : ∃ W2, W2 = w1.alloc (boxS fs) := ⟨_, rfl⟩
  obtain ⟨d1, d2, d3, hc⟩ := HT.out w1 W2 hb1 hW2
  have HC := Lib.hid hc
  have HW2 := Lib.hid hW2
  rw [hW2] at d1 d2 d3
  clear hc HT HF HA hb1 hW2
  simp only [boxS] at d1 d2 d3
  go_wp2
  have hc0 := HC.out
  rw [HW2.out] at hc0
  simp only [boxS, stepsOf, pt] at hc0
  have HC2 := Lib.hid hc0
  clear hc0 HC
  go_region_held3 (fun W => W.cell? ⟨w.heap.size, 0, none⟩ = some (.pointer (some ⟨q, 0, none⟩)) ∧ W.cell? ⟨w.heap.size + 1, 0, none⟩ = some (.slice A n c) ∧ W.cell? ⟨q, 0, none⟩ = some (.pointer (some ⟨p, 0, none⟩))) (go_keep) (first
    | (go_at_call 29; (with_reducible refine HC2.out.mono ?_); rintro e w3 ⟨rfl, ht, g1, g2, g3⟩; have HO3 := Lib.hid ht; clear ht))
  all_goals
    go_wp2
    go_ret
    exact ⟨rfl, HO3.out⟩
end Go.Proofs.Ytbjemekkpmbhhaa.Wp8
namespace Go.Proofs.Ytbjemekkpmbhhaa.Wr8
open Go Go.RowKit Go.Lib Go.Proofs.Ytbjemekkpmbhhaa.Dh Go.Proofs.Ytbjemekkpmbhhaa.Fm Go.Proofs.Ytbjemekkpmbhhaa.Dk Go.Proofs.Ytbjemekkpmbhhaa.St Go.Proofs.Ytbjemekkpmbhhaa.Fo8 Go.Proofs.Ytbjemekkpmbhhaa.Wl8 Go.Proofs.Ytbjemekkpmbhhaa.Wa8 Go.Proofs.Ytbjemekkpmbhhaa.Wp8
theorem rem_step {w : World} {S : Nat → Prop} {p q bw : Nat} {k : ByteArray} {D : St} {X : Wx} (h : Full w S p D) (hq : w.heap[q]? = some (walO p k X)) (hw : w.heap[bw]? = some (boxW q))
    (hk : k.size ≤ maxLen) (hlen : D.loose.length ≤ 1099511627776) :
    Calls Try.prog 53 #[pt bw] w fun e w' => e = .returned (.int .i64 (stRemove D k).1) ∧ To S w w' p (stRemove D k).2 := by
  have c0 : w.cell? ⟨q, 0, none⟩ = some (.pointer (some ⟨p, 0, none⟩)) := cell_of hq 0
  have c1 : w.cell? ⟨q, 1, none⟩ = some (.string k) := cell_of hq 1
  have c2 : w.cell? ⟨bw, 0, none⟩ = some (.pointer (some ⟨q, 0, none⟩)) := cell_of hw 0
  have HC := Lib.hid (Rn.remove_any (Full.drew h) k hk hlen)
  clear h hq hw
  go_enter Try.func53, Try.ntmps53
  go_wp2
  refine wp_region_still_tail 8 (by kernel_rfl) (by kernel_rfl) ?_
  simp only [List.take_succ_cons, List.take_zero, List.drop_succ_cons, List.drop_zero]
  change wpStill _ _ w.drew _ _ _
  repeat (with_reducible refine wpStill_step (fun K hK => ?_); go_simp; with_reducible refine hK _ ?_; clear hK K)
  with_reducible refine wpStill_nil ?_
  change wpList _ _ _ _ _ w.drew
  go_wp2_with (go_at_call 54; refine HC.out.mono ?_; rintro e w' ⟨rfl, hd⟩; have HD := Lib.hid hd; clear hd)
  go_ret
  exact ⟨rfl, HD.out.of_drew⟩
/-- What remove answers and leaves of the disk. -/
def remS (k : ByteArray) (D : St) : Int × St :=
  if (stRemove D k).1 ≠ 0 then (if (stRemove D k).1 = 3 then 0 else (stRemove D k).1, (stRemove D k).2)
  else (if (stSync (stRemove D k).2).1 = 3 then 0 else (stSync (stRemove D k).2).1, (stSync (stRemove D k).2).2)
theorem rem_loose (D : St) (k : ByteArray) : (stRemove D k).2.loose.length ≤ D.loose.length + 1 := by
  unfold stRemove
  split
  · simp
  · split
    · simp
    · split
      · simp
      · exact doing_loose D _
def remsOf (p bw : Nat) : Obj := .cells #[.func (.func 53) #[] #[pt bw], .func (.func 27) #[pt p] #[]] 73 (0, 0)
theorem rem_tail {W : World} {S : Nat → Prop} {p q bw bc : Nat} {k : ByteArray} {D : St} {X : Wx} (h : Full W S p D) (hq : W.heap[q]? = some (walO p k X))
    (hw : W.heap[bw]? = some (boxW q)) (hc : W.heap[bc]? = some (remsOf p bw)) (nc : ¬ S bc)
    (hk : k.size ≤ maxLen) (hlen : D.loose.length ≤ 1099511627000) :
    Calls Try.prog 22 #[.slice (some ⟨bc, 0, none⟩) 2 2] W fun e W' => ∃ r, e = .returned (.int .i64 r) ∧ (if r = 3 then 0 else r) = (remS k D).1 ∧ To S W W' p (remS k D).2 := by
  have hal := rem_loose D k
  unfold remS
  obtain ⟨a, ha⟩ : ∃ a, a = stRemove D k := ⟨_, rfl⟩
  rw [← ha] at hal ⊢
  obtain ⟨s, hsy⟩ : ∃ s, s = stSync a.2 := ⟨_, rfl⟩
  rw [← hsy]
  let Q : Nat → World → Prop := fun i V => match i with
    | 0 => V = W
    | 1 => a.1 = 0 ∧ To S W V p a.2
    | _ => a.1 = 0 ∧ s.1 = 0 ∧ To S W V p s.2
  let J : Int → World → Prop := fun r V => (r ≠ 0 ∧ a.1 = r ∧ To S W V p a.2) ∨ (r ≠ 0 ∧ a.1 = 0 ∧ s.1 = r ∧ To S W V p s.2)
  have hstep : ∀ i, i < 2 → ∀ V, Q i V → StepAt bc i (Q (i + 1)) J V := by
    intro i hi V hv
    rcases i with _ | _ | i
    · obtain rfl : V = W := hv
      refine ⟨_, _, _, (cell_of hc 0).trans rfl, fun _ _ => by go_simp, ?_⟩
      refine (rem_step h hq hw hk (by omega)).mono ?_
      rintro e V' ⟨rfl, ht⟩
      rw [← ha] at ht ⊢
      refine ⟨_, rfl, ?_⟩
      by_cases hz : a.1 = 0
      · exact .inl ⟨hz, hz, ht⟩
      · exact .inr ⟨hz, .inl ⟨hz, rfl, ht⟩⟩
    · obtain ⟨ha0, ht⟩ : a.1 = 0 ∧ To S W V p a.2 := hv
      refine ⟨_, _, _, (cell_of (To.keep ht hc nc) 1).trans rfl, fun _ _ => by go_simp, ?_⟩
      refine (Sy.sync_any ht.2 (by omega)).mono ?_
      rintro e V' ⟨rfl, ht2⟩
      rw [← hsy] at ht2 ⊢
      have ht3 := To.trans ht ht2
      refine ⟨_, rfl, ?_⟩
      by_cases hz : s.1 = 0
      · exact .inl ⟨hz, ha0, hz, ht3⟩
      · exact .inr ⟨hz, .inr ⟨hz, ha0, rfl, ht3⟩⟩
    · omega
  refine (follow_any 2 bc 2 (by omega) Q J hstep W rfl).mono ?_
  rintro e V ⟨r, rfl, ⟨rfl, hv⟩ | ⟨hr, hj⟩⟩
  · obtain ⟨ha0, hs0, ht⟩ : a.1 = 0 ∧ s.1 = 0 ∧ To S W V p s.2 := hv
    rw [if_neg (fun x => x ha0), hs0]
    exact ⟨0, rfl, rfl, ht⟩
  · rcases hj with ⟨hz, hra, ht⟩ | ⟨hz, ha0, hrs, ht⟩
    · subst hra
      rw [if_pos hz]
      exact ⟨_, rfl, rfl, ht⟩
    · subst hrs
      rw [if_neg (fun x => x ha0)]
      exact ⟨_, rfl, rfl, ht⟩
theorem to_pre {w W w' : World} {S : Nat → Prop} {p : Nat} {D' : St} (hb : Below w.heap.size w W) (ht : To S W w' p D') : To S w w' p D' := by
  have hs := hb.size
  refine ⟨(tread_below S hb).trans (ht.1.mono fun _ hb => .inl hb), ht.2.up ?_⟩
  rintro b (hb | hb)
  · exact .inl hb
  · exact .inr ⟨by omega, hb.2⟩
theorem remove_any {w : World} {S : Nat → Prop} {p q : Nat} {k : ByteArray} {D : St} {X : Wx} (h : WalAt w S p q k D X) (hk : k.size ≤ maxLen) (hD : D.loose.length ≤ 1099511627000) :
    Calls Try.prog 33 #[.pointer (some ⟨q, 0, none⟩)] w fun e w' => e = .returned (.int .i64 (remS k D).1) ∧ To S w w' p (remS k D).2 := by
  obtain ⟨W, hW⟩ : ∃ W, W = (w.alloc (boxW q)).alloc (remsOf p w.heap.size) := ⟨_, rfl⟩
  have hb : Below w.heap.size w W := by rw [hW]; exact sized w _ _
  have hwal := wal_below h hb
  have k1 : W.heap[w.heap.size]? = some (boxW q) := by rw [hW, heap_alloc _ _ _ (by rw [size_alloc]; omega)]; exact heap_new w _
  have k2 : W.heap[w.heap.size + 1]? = some (remsOf p w.heap.size) := by
    rw [hW]
    have := heap_new (w.alloc (boxW q)) (remsOf p w.heap.size)
    rw [size_alloc] at this; exact this
  have low := h.low
  have c0 : (w.alloc (boxW q)).cell? ⟨q, 0, none⟩ = some (.pointer (some ⟨p, 0, none⟩)) := cell_of ((heap_alloc w _ q h.lt).trans h.blk) 0
  have hT := (rem_tail hwal.full hwal.blk k1 k2 (fun hx => by have := low _ hx; omega) hk hD).mono fun e w' hx => (show ∃ r, e = .returned (.int .i64 r) ∧ (if r = 3 then 0 else r) = (remS k D).1 ∧ To S w w' p (remS k D).2 from by
    obtain ⟨r, e1, e2, e3⟩ := hx
    exact ⟨r, e1, e2, to_pre hb e3⟩)
  rw [hW] at hT
  simp only [boxW, remsOf, pt] at hT c0
  have HT := Lib.hid hT
  clear h hk hD hb hwal k1 k2 low hW hT
  go_enter Try.func33, Try.ntmps33
  go_wp2_with (go_at_call 22; (with_reducible refine HT.out.mono ?_); rintro e w3 ⟨r, rfl, hr, ht⟩; have HO3 := Lib.hid ht; have HR := Lib.hid hr; clear ht hr)
  all_goals
    have hr := HR.out
    have ho := HO3.out
    clear HT c0 HR HO3
    go_ret
    by_cases h3 : r = 3
    · rw [if_pos h3] at hr
      refine ⟨?_, ho⟩
      rw [← hr]
      first | rfl | (exfalso; simp_all; done)
    · rw [if_neg h3] at hr
      refine ⟨?_, ho⟩
      rw [← hr]
      first | rfl | (exfalso; simp_all; done)
set_option maxHeartbeats 1000000 in
theorem zero_step {w : World} {p q bw : Nat} {k : ByteArray} {X : Wx} (hq : w.heap[q]? = some (walO p k X)) (hw : w.heap[bw]? = some (boxW q)) :
    Calls Try.prog 34 #[pt bw] w fun e w' => e = .returned (.int .i64 0) ∧ w'.heap[q]? = some (walO p k ⟨0, 0, X.fault⟩) ∧ Tread (fun b => b = q) w w' := by
  have c2 : w.cell? ⟨q, 2, none⟩ = some (.int .i64 (X.cnt : Int)) := cell_of hq 2
  have c3 : w.cell? ⟨q, 3, none⟩ = some (.int .i64 (X.size : Int)) := cell_of hq 3
  have cw : w.cell? ⟨bw, 0, none⟩ = some (.pointer (some ⟨q, 0, none⟩)) := cell_of hw 0
  have f2 : w.frozen? ⟨q, 2, none⟩ = false := free_of hq 2
  have f3 : w.frozen? ⟨q, 3, none⟩ = false := free_of hq 3
  have HQ := Lib.hid hq
  clear hq hw
  go_enter Try.func34, Try.ntmps34
  go_wp2
  go_region
  go_wp2
  go_ret
  have h1 : ((w.setCell ⟨q, 2, none⟩ (.int .i64 0)).heap[q]? = some (walO p k ⟨0, X.size, X.fault⟩)) := by rw [setCell_heap HQ.out]; rfl
  refine ⟨rfl, ?_, ?_⟩
  · show ((w.setCell ⟨q, 2, none⟩ (.int .i64 0)).setCell ⟨q, 3, none⟩ (.int .i64 0)).heap[q]? = _
    rw [setCell_heap h1]; rfl
  · exact (((Tread.setCell (S := fun b => b = q) w ⟨q, 2, none⟩ (.int .i64 0) rfl).trans (Tread.setCell (w.setCell ⟨q, 2, none⟩ (.int .i64 0)) ⟨q, 3, none⟩ (.int .i64 0) (.inl rfl)))).drew
/-- What Reset answers and leaves, where it is not down. -/
def walReset (k : ByteArray) (D : St) (X : Wx) : Int × St × Wx :=
  if (remS k D).1 ≠ 0 then ((remS k D).1, (remS k D).2, downX X (remS k D).1) else (0, (remS k D).2, ⟨0, 0, X.fault⟩)
def resetsOf (q bw : Nat) : Obj := .cells #[.func (.func 33) #[pt q] #[], .func (.func 34) #[] #[pt bw]] 73 (0, 0)
theorem reset_tail {W : World} {S : Nat → Prop} {p q bw bc : Nat} {k : ByteArray} {D : St} {X : Wx} (h : WalAt W S p q k D X) (hw : W.heap[bw]? = some (boxW q)) (hc : W.heap[bc]? = some (resetsOf q bw)) (nw : ¬ S bw) (nc : ¬ S bc)
    (hk : k.size ≤ maxLen) (hD : D.loose.length ≤ 1099511627000) :
    Calls Try.prog 29 #[.pointer (some ⟨q, 0, none⟩), .slice (some ⟨bc, 0, none⟩) 2 2] W fun e W' => e = .returned (.int .i64 (walReset k D X).1) ∧ Wto S W W' p q k (walReset k D X).2.1 (walReset k D X).2.2 := by
  unfold walReset
  obtain ⟨a, ha⟩ : ∃ a, a = remS k D := ⟨_, rfl⟩
  rw [← ha]
  let Q : Nat → World → Prop := fun i V => match i with
    | 0 => V = W
    | 1 => a.1 = 0 ∧ To S W V p a.2
    | _ => a.1 = 0 ∧ Wto S W V p q k a.2 ⟨0, 0, X.fault⟩
  let J : Int → World → Prop := fun r V => r ≠ 0 ∧ a.1 = r ∧ To S W V p a.2
  have hstep : ∀ i, i < 2 → ∀ V, Q i V → StepAt bc i (Q (i + 1)) J V := by
    intro i hi V hv
    rcases i with _ | _ | i
    · obtain rfl : V = W := hv
      refine ⟨_, _, _, (cell_of hc 0).trans rfl, fun _ _ => by go_simp, ?_⟩
      refine (remove_any h hk hD).mono ?_
      rintro e V' ⟨rfl, ht⟩
      rw [← ha] at ht ⊢
      refine ⟨_, rfl, ?_⟩
      by_cases hz : a.1 = 0
      · exact .inl ⟨hz, hz, ht⟩
      · exact .inr ⟨hz, hz, rfl, ht⟩
    · obtain ⟨ha0, ht⟩ : a.1 = 0 ∧ To S W V p a.2 := hv
      refine ⟨_, _, _, (cell_of (To.keep ht hc nc) 1).trans rfl, fun _ _ => by go_simp, ?_⟩
      have hwt := wto_of_to h ht
      refine (zero_step hwt.2.blk (To.keep ht hw nw)).mono ?_
      rintro e V' ⟨rfl, hb, ht2⟩
      refine ⟨0, rfl, .inl ⟨rfl, ha0, ?_⟩⟩
      refine ⟨hwt.1.trans (ht2.mono fun b hb => .inl (.inr hb)), ?_, ?_, ?_, hb⟩
      · refine Full.up (full_size hwt.2.full fun b hb => ht2.block b (hwt.2.low b hb) (fun e => hwt.2.off (e ▸ hb))) ?_
        rintro b (hb | hb)
        · exact .inl hb
        · exact .inr ⟨hb.1, by have := ht2.size; omega⟩
      · exact grow_low h.low (by have := ht2.size; have := ht.1.size; omega)
      · exact grow_off h.off h.lt
    · omega
  refine (change_any q 2 bc 2 (by omega) Q J hstep ?_ W rfl).mono ?_
  · rintro r V ⟨_, _, ht⟩
    exact ⟨_, _, _, To.keep ht h.blk h.off⟩
  · rintro e V ⟨r, rfl, ⟨rfl, hv⟩ | ⟨hr, V1, ⟨hz, hra, ht⟩, hV⟩⟩
    · obtain ⟨ha0, ht⟩ : a.1 = 0 ∧ Wto S W V p q k a.2 ⟨0, 0, X.fault⟩ := hv
      rw [if_neg (fun x => x ha0)]
      exact ⟨rfl, ht⟩
    · subst hra
      rw [if_pos hz]
      exact ⟨rfl, downed h ht _ _ hV⟩
theorem reset_down {w : World} {S : Nat → Prop} {p q : Nat} {k : ByteArray} {D : St} {X : Wx} (h : WalAt w S p q k D X) (hf : X.fault ≠ 0) :
    Calls Try.prog 9 #[.pointer (some ⟨q, 0, none⟩)] w fun e w' => e = .returned (.int .i64 X.fault) ∧ Wto S w w' p q k D X := by
  have hb : Below w.heap.size w (w.alloc (boxW q)) := (Below.refl _ w).alloc (Nat.le_refl _) _
  have HF := Lib.hid (fault_any (wal_below h hb).blk)
  have HW := Lib.hid (wto_below h hb)
  have hz : (X.fault != 0) = true := by simpa using hf
  clear h hb hf
  go_enter Try.func9, Try.ntmps9
  go_wp2_with fail
  refine HF.out.mono ?_
  rintro e w1 ⟨rfl, rfl⟩
  go_wp2
  go_ret
  exact ⟨rfl, HW.out⟩
theorem reset_any {w : World} {S : Nat → Prop} {p q : Nat} {k : ByteArray} {D : St} {X : Wx} (h : WalAt w S p q k D X) (hf : X.fault = 0) (hk : k.size ≤ maxLen) (hD : D.loose.length ≤ 1099511627000) :
    Calls Try.prog 9 #[.pointer (some ⟨q, 0, none⟩)] w fun e w' => e = .returned (.int .i64 (walReset k D X).1) ∧ Wto S w w' p q k (walReset k D X).2.1 (walReset k D X).2.2 := by
  have hb1 : Below w.heap.size w (w.alloc (boxW q)) := (Below.refl _ w).alloc (Nat.le_refl _) _
  have hF := fault_any (wal_below h hb1).blk
  rw [hf] at hF
  obtain ⟨W, hW⟩ : ∃ W, W = (w.alloc (boxW q)).alloc (resetsOf q w.heap.size) := ⟨_, rfl⟩
  have hb : Below w.heap.size w W := by rw [hW]; exact sized w _ _
  have hwal := wal_below h hb
  have k1 : W.heap[w.heap.size]? = some (boxW q) := by rw [hW, heap_alloc _ _ _ (by rw [size_alloc]; omega)]; exact heap_new w _
  have k2 : W.heap[w.heap.size + 1]? = some (resetsOf q w.heap.size) := by
    rw [hW]
    have := heap_new (w.alloc (boxW q)) (resetsOf q w.heap.size)
    rw [size_alloc] at this; exact this
  have low := h.low
  have cw : (w.alloc (boxW q)).cell? ⟨w.heap.size, 0, none⟩ = some (.pointer (some ⟨q, 0, none⟩)) := cell_of (heap_new w _) 0
  have hT := (reset_tail hwal k1 k2 (fun hx => by have := low _ hx; omega) (fun hx => by have := low _ hx; omega) hk hD).mono fun e w' hx => (show e = .returned (.int .i64 (walReset k D X).1) ∧ Wto S w w' p q k (walReset k D X).2.1 (walReset k D X).2.2 from ⟨hx.1, wto_pre h hb hx.2⟩)
  rw [hW] at hT
  simp only [resetsOf, pt] at hT
  have HF := Lib.hid hF
  have HT := Lib.hid hT
  clear h hk hD hb hb1 hwal k1 k2 low hW hT hf hF
  go_enter Try.func9, Try.ntmps9
  go_wp2_with fail
  refine HF.out.mono ?_
  rintro e w1 ⟨rfl, rfl⟩
  go_wp2_with (go_at_call 29; (with_reducible refine HT.out.mono ?_); rintro e w3 ⟨rfl, ht⟩; have HO3 := Lib.hid ht; clear ht)
  go_ret
  exact ⟨rfl, HO3.out⟩
end Go.Proofs.Ytbjemekkpmbhhaa.Wr8
