/- frame.texts: what it hands back goes through the bytes, frame by frame, and at last says why none follows. -/
import Derived.Test.YtbjemekkpmbhhaaFf7
import Derived.Test.YtbjemekkpmbhhaaSh7
import Derived.RangeFuncNested
import Derived.RangeFuncBound
import Derived.RangeFuncCalls
import Derived.RangeFuncLeaves
import Derived.RangeFuncBox
import Derived.OwnWalkIn
import Derived.TacticsInMore
import Derived.LoopNIn
import Derived.LoopIn
import Derived.Maps.AppendAt
namespace Go.Proofs.Ytbjemekkpmbhhaa.Ft7
open Go Go.RowKit Go.Shelf Go.Proofs Go.Proofs.Ytbjemekkpmbhhaa.Wm Go.Proofs.Ytbjemekkpmbhhaa.Fl7 Go.Proofs.Ytbjemekkpmbhhaa.Sh7
attribute [local go_sem] Oper.semAt_some
theorem grown_of_below {w w' : World} (h : Below w.heap.size w w') : w.grownBy w' none := ⟨h.os, h.tape, h.output, h.size, fun k hk _ => h.block k hk⟩
theorem bs_drop (l : List UInt8) (n : Nat) : (bs l).extract n l.length = bs (l.drop n) := by
  have h : ((bs l).extract n l.length).data.toList = l.drop n := by
    rw [Ff7.ex_list, bs_list, List.take_length]
  rw [← bs_of ((bs l).extract n l.length), h]
/-- What is handed over: a text and why; the text is no longer than one may be. -/
abbrev El := { x : List UInt8 × Nat // x.1.length ≤ 4194304 }
def raw (l : List El) : List (List UInt8 × Nat) := l.map (·.1)
theorem raw_snoc (l : List El) (x : El) : raw (l ++ [x]) = raw l ++ [x.1] := by simp [raw]
theorem raw_len (l : List El) : (raw l).length = l.length := List.length_map ..
/-- What is handed over, as it is handed over. -/
def encs (x : El) : Array Value := #[.string (bs x.1.1), .int .i64 (x.1.2 : Int)]
/-- texts(b): b is boxed, the function value has the box. -/
theorem texts_any (n : Nat) (b : ByteArray) (w : World) :
    CallsIn Fence.wide n Try.prog 39 #[.string b] w fun e w' => e = .returned (.func (.func 58) #[] #[.pointer (some ⟨w.heap.size, 0, none⟩)]) ∧ w' = w.alloc (.cells #[.string b] 9) := by
  refine callsIn_of_wp Try.func39 rfl trivial ?_ rfl
  simp only [Try.ntmps39, List.size_toArray, List.length_cons, List.length_nil, Nat.reduceAdd, Nat.reduceSub, Array.replicate_succ, Array.replicate_zero, List.push_toArray, List.append_toArray, List.nil_append, List.cons_append]
  gi_wp2
  go_ret
  exact ⟨rfl, rfl⟩
set_option maxRecDepth 100000 in
set_option maxHeartbeats 2000000 in
theorem texts1_in (n : Nat) (hn : 1 ≤ n) (l Bn : Nat) (b : ByteArray) (hb : b.size ≤ maxLen) (J Jx : List El → World → Prop) (B : Nat) (hJ : AbidesFrom B J)
    (hY : ∀ pre x W, J pre W → pre.length < (seq b.data.toList).length → YieldAt Fence.wide (n - 1) Try.prog l (encs x) W fun e W' =>
      (e = .returned (.bool true) ∧ J (pre ++ [x]) W' ∧ True) ∨ (e = .returned (.bool false) ∧ Jx (pre ++ [x]) W'))
    (W : World) (hBn : W.cell? ⟨Bn, 0, none⟩ = some (.string b)) (h0 : J [] W) :
    CallsIn Fence.wide n Try.prog 58 #[.func (.yield l) #[] #[], .pointer (some ⟨Bn, 0, none⟩)] W fun e W' => (∃ v, e = .returned v) ∧
      ((∃ ys, raw ys = seq b.data.toList ∧ J ys W') ∨ (∃ pre, raw pre <+: seq b.data.toList ∧ Jx pre W')) := by
  refine callsIn_of_wp Try.func58 rfl trivial ?_ rfl
  simp only [Try.ntmps58, List.size_toArray, List.length_cons, List.length_nil, Nat.reduceAdd, Nat.reduceSub, Array.replicate_succ, Array.replicate_zero, List.push_toArray, List.append_toArray, List.nil_append, List.cons_append]
  gi_wp2
  gi_loopw [3, 4, 5] (fun p _ _ wr => ∃ (pre : List El) (r : List UInt8), p = .string (bs r) ∧ Hid (seq b.data.toList = raw pre ++ seq r) ∧ r.length ≤ b.size ∧ J pre wr)
    (fun p _ _ _ => match p with | .string s => s.size | _ => 0)
  case atStart =>
    exact ⟨[], b.data.toList, rfl, Lib.hid rfl, by simp, h0⟩
  case round =>
    obtain ⟨pre, r, rfl, hx, hl, hJs⟩ := hrel
    by_cases hr : r = []
    · subst hr
      have hz : (bs []).toList.isEmpty = true := by rw [ByteArray.toList_eq]; rfl
      have hfin : seq b.data.toList = raw pre := by rw [hx.out, seq_nil, List.append_nil]
      have HF := Lib.hid hfin
      clear hfin hx
      gi_wp2
      go_end0
      exact ⟨⟨_, rfl⟩, .inl ⟨pre, HF.out.symm, hJs⟩⟩
    · have hz : (bs r).toList.isEmpty = false := by
        rw [ByteArray.toList_eq, bs_list]
        cases r with
        | nil => exact absurd rfl hr
        | cons a t => rfl
      have hrl : (bs r).size = r.length := rfl
      have hf := Ff7.first_any (bs r) wr (by rw [hrl]; exact Nat.le_trans hl hb)
      rw [bs_list] at hf
      obtain ⟨t, ht⟩ : ∃ t, t = (first r).1 := ⟨_, rfl⟩
      obtain ⟨e0, he⟩ : ∃ e0, e0 = (first r).2 := ⟨_, rfl⟩
      rw [← ht, ← he] at hf
      have hfr : first r = (t, e0) := by rw [ht, he]
      have hlit : ((t, e0) : List UInt8 × Nat).1.length ≤ 4194304 := by show t.length ≤ _; rw [ht]; exact first_little r
      have HFR := Lib.hid hfr
      have HF := Lib.hid hf
      have hpl : pre.length < (seq b.data.toList).length := by
        rw [hx.out, List.length_append, raw_len]
        by_cases h0 : e0 = 0
        · rw [h0] at hfr; rw [seq_ok hr hfr]; simp
        · rw [seq_why hr hfr h0]; simp
      have HPL := Lib.hid hpl
      have HR := Lib.hid hr
      clear ht he hfr hf hpl hr
      gi_wp2_with (refine ⟨trivial, ?_⟩; gi_at_call 59; refine (callsIn_wide.2 HF.out).mono ?_; rintro e w1 ⟨rfl, hb1⟩)
      have hJ1 : J pre w1 := hJ pre wr w1 none hJs (grown_of_below hb1) (fun r h => by cases h)
      obtain ⟨fn, tmps, assign, body, hy, hR⟩ := hY pre ⟨(t, e0), hlit⟩ w1 hJ1 HPL.out
      dsimp only [encs] at hy
      clear hb1 hJs hJ1
      gi_wp2
      rw [hy]
      gi_wp2
      refine hR.mono ?_
      rintro e W3 (⟨rfl, hJ3, _⟩ | ⟨rfl, hJx3⟩)
      · by_cases h0 : e0 = 0
        · subst h0
          have hsq := seq_ok HR.out HFR.out
          have hfl := first_len r t HFR.out
          have hsm := first_small r t HFR.out
          obtain ⟨M, hM⟩ : ∃ M, M = 12 + t.length := ⟨_, rfl⟩
          have hz1 : 12 + (t.length : Int) ≤ (r.length : Int) := by omega
          have hMr : M ≤ r.length := by omega
          rw [← hM] at hsq
          have hx2 : seq b.data.toList = raw (pre ++ [⟨(t, 0), hlit⟩]) ++ seq (r.drop M) := by rw [hx.out, hsq, raw_snoc, List.append_assoc]; rfl
          have HX := Lib.hid hx2
          have hts : (bs t).size = t.length := rfl
          have hex : (bs r).extract M r.length = bs (r.drop M) := bs_drop r _
          have HM := Lib.hid hM
          clear hsq hx2 hfl hM hsm
          gi_wp2
          rw [show (bs r).extract (12 + t.length) r.length = bs (r.drop M) from by rw [← HM.out]; exact hex]
          refine ⟨⟨pre ++ [⟨(t, 0), hlit⟩], r.drop M, rfl, HX, by rw [List.length_drop]; omega, hJ3⟩, ?_⟩
          show (r.drop M).length < r.length
          rw [List.length_drop]
          have := HM.out
          omega
        · have hne : (((e0 : Nat) : Int) != 0) = true := by simpa using h0
          have hfin : seq b.data.toList = raw (pre ++ [⟨(t, e0), hlit⟩]) := by rw [hx.out, seq_why HR.out HFR.out h0, raw_snoc]
          have HFN := Lib.hid hfin
          clear hfin hx
          gi_wp2
          refine bodyPost_ret (results_none rfl _ _ _) rfl ?_
          exact ⟨⟨_, rfl⟩, .inl ⟨pre ++ [⟨(t, e0), hlit⟩], HFN.out.symm, hJ3⟩⟩
      · have hpre : raw (pre ++ [⟨(t, e0), hlit⟩]) <+: seq b.data.toList := by
          rw [hx.out, raw_snoc]
          by_cases h0 : e0 = 0
          · subst h0
            rw [seq_ok HR.out HFR.out]
            exact ⟨seq (r.drop (12 + t.length)), by rw [List.append_assoc]; rfl⟩
          · rw [seq_why HR.out HFR.out h0]
            exact List.prefix_refl _
        have HP := Lib.hid hpre
        clear hpre hx
        gi_wp2
        refine bodyPost_ret (results_none rfl _ _ _) rfl ?_
        exact ⟨⟨_, rfl⟩, .inr ⟨pre ++ [⟨(t, e0), hlit⟩], HP.out, hJx3⟩⟩
/-- What texts hands back, as the law of a range over a function asks for it. -/
theorem texts_stops (n : Nat) (hn : 1 ≤ n) (Bn : Nat) (b : ByteArray) (hb : b.size ≤ maxLen) (w : World) (hBn : Bn < w.heap.size) (hc : w.cell? ⟨Bn, 0, none⟩ = some (.string b)) :
    SeqStopsK Fence.wide n Try.prog 58 #[.pointer (some ⟨Bn, 0, none⟩)] encs (fun _ _ => True) (fun ys => raw ys = seq b.data.toList) (fun pre => raw pre <+: seq b.data.toList) (seq b.data.toList).length w := fun l J Jx W hW hJ _ hY h0 =>
  texts1_in n hn l Bn b hb J Jx W.heap.size hJ hY W ((hW.cell (p := ⟨Bn, 0, none⟩) hBn).trans hc) h0
end Go.Proofs.Ytbjemekkpmbhhaa.Ft7
