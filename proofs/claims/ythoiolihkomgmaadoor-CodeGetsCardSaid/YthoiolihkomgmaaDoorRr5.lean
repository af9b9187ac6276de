/- code.Get and code.GetRow: a reading that may give up, and what is told then. -/
import Derived.Test.YthoiolihkomgmaaDoorRx5
import Derived.Defers
import Derived.Recover
import Derived.Laws.Pointers
namespace Go.Proofs.YthoiolihkomgmaaDoor.Rr5
open Go Go.RowKit Go.Proofs Go.Proofs.YthoiolihkomgmaaDoor.Wm Go.Proofs.YthoiolihkomgmaaDoor.Vm Go.Proofs.YthoiolihkomgmaaDoor.Vr Go.Proofs.YthoiolihkomgmaaDoor.Vs Go.Proofs.YthoiolihkomgmaaDoor.Vc Go.Proofs.YthoiolihkomgmaaDoor.Vh Go.Proofs.YthoiolihkomgmaaDoor.Cm Go.Proofs.YthoiolihkomgmaaDoor.Sh5 Go.Proofs.YthoiolihkomgmaaDoor.Rd5 Go.Proofs.YthoiolihkomgmaaDoor.Tx5 Go.Proofs.YthoiolihkomgmaaDoor.Pv5 Go.Proofs.YthoiolihkomgmaaDoor.Rv5 Go.Proofs.YthoiolihkomgmaaDoor.Rx5
theorem idle_row (p : Addr) (w : World) :
    CallsD Tryd.prog 48 #[.pointer (some p)] .returning w fun e u' w' => e = .returned (.tuple #[]) ∧ u' = .returning ∧ w' = w := by
  refine callsD_of_wpS Tryd.func48 rfl fun c₀ cs hu => ?_
  apply wpS_seq
  apply wpS_region
  simp [wpOpsS, go_sem, recoverD, hu, Tryd.ntmps48, Exit.thenS]
  refine wpS_of_wp ?_
  have hnil : ∀ W : World, (binOp .eql 20 .nilIface .nilIface).run Tryd.prog W = .ok (.bool true) W := fun _ => by kernel_rfl
  simp only [show (#[Value.pointer (some p)] ++ (Array.replicate 11 undef).setIfInBounds 3 Value.nilIface : Array Value) = #[.pointer (some p), undef, undef, undef, .nilIface, undef, undef, undef, undef, undef, undef, undef] from rfl]
  go_wp2
  cases c₀
  simp_all [bodyPostS, results, Tryd.results48]
theorem catch_row (b : Nat) (c x : Int) (w : World) (hc : w.cell? ⟨b, 0, none⟩ = some (.int .i64 x)) (hz : w.frozen? ⟨b, 0, none⟩ = false) (hp : b < w.heap.size) :
    CallsD Tryd.prog 48 #[.pointer (some ⟨b, 0, none⟩)] (.panicking (gave c)) w fun e u' w' => e = .returned (.tuple #[]) ∧ u' = .panicking [{ v := .iface 70 (.agg #[.int .i64 c]), recovered := true }] ∧ w' = (w.setCell ⟨b, 0, none⟩ (.int .i64 c)).alloc (.cells #[.int .i64 c] 70) := by
  refine callsD_of_wpS Tryd.func48 rfl fun c₀ cs hu => ?_
  unfold gave at hu
  apply wpS_seq
  apply wpS_region
  simp [wpOpsS, go_sem, recoverD, hu, Tryd.ntmps48, Exit.thenS]
  refine wpS_of_wp ?_
  have hnil : ∀ W : World, (binOp .eql 20 (.iface 70 (.agg #[.int .i64 c])) .nilIface).run Tryd.prog W = .ok (.bool false) W := fun _ => by kernel_rfl
  simp only [show ∀ q : Value, (#[Value.pointer (some ⟨b, 0, none⟩)] ++ (Array.replicate 11 undef).setIfInBounds 3 q : Array Value) = #[.pointer (some ⟨b, 0, none⟩), undef, undef, undef, q, undef, undef, undef, undef, undef, undef, undef] from fun _ => rfl]
  have hta : ∀ W : World, (Instr.typeAssert (.iface 70 (.agg #[.int .i64 c])) 20 70 true).run Tryd.prog W = .ok (.tuple #[.agg #[.int .i64 c], .bool true]) W := fun _ => by kernel_rfl
  go_wp2
  cases c₀
  simp_all [bodyPostS, results, Tryd.results48]
theorem idle_value (p : Addr) (w : World) :
    CallsD Tryd.prog 39 #[.pointer (some p)] .returning w fun e u' w' => e = .returned (.tuple #[]) ∧ u' = .returning ∧ w' = w := by
  refine callsD_of_wpS Tryd.func39 rfl fun c₀ cs hu => ?_
  apply wpS_seq
  apply wpS_region
  simp [wpOpsS, go_sem, recoverD, hu, Tryd.ntmps39, Exit.thenS]
  refine wpS_of_wp ?_
  have hnil : ∀ W : World, (binOp .eql 20 .nilIface .nilIface).run Tryd.prog W = .ok (.bool true) W := fun _ => by kernel_rfl
  simp only [show (#[Value.pointer (some p)] ++ (Array.replicate 11 undef).setIfInBounds 3 Value.nilIface : Array Value) = #[.pointer (some p), undef, undef, undef, .nilIface, undef, undef, undef, undef, undef, undef, undef] from rfl]
  go_wp2
  cases c₀
  simp_all [bodyPostS, results, Tryd.results39]
theorem catch_value (b : Nat) (c x : Int) (w : World) (hc : w.cell? ⟨b, 0, none⟩ = some (.int .i64 x)) (hz : w.frozen? ⟨b, 0, none⟩ = false) (hp : b < w.heap.size) :
    CallsD Tryd.prog 39 #[.pointer (some ⟨b, 0, none⟩)] (.panicking (gave c)) w fun e u' w' => e = .returned (.tuple #[]) ∧ u' = .panicking [{ v := .iface 70 (.agg #[.int .i64 c]), recovered := true }] ∧ w' = (w.setCell ⟨b, 0, none⟩ (.int .i64 c)).alloc (.cells #[.int .i64 c] 70) := by
  refine callsD_of_wpS Tryd.func39 rfl fun c₀ cs hu => ?_
  unfold gave at hu
  apply wpS_seq
  apply wpS_region
  simp [wpOpsS, go_sem, recoverD, hu, Tryd.ntmps39, Exit.thenS]
  refine wpS_of_wp ?_
  have hnil : ∀ W : World, (binOp .eql 20 (.iface 70 (.agg #[.int .i64 c])) .nilIface).run Tryd.prog W = .ok (.bool false) W := fun _ => by kernel_rfl
  simp only [show ∀ q : Value, (#[Value.pointer (some ⟨b, 0, none⟩)] ++ (Array.replicate 11 undef).setIfInBounds 3 q : Array Value) = #[.pointer (some ⟨b, 0, none⟩), undef, undef, undef, q, undef, undef, undef, undef, undef, undef, undef] from fun _ => rfl]
  have hta : ∀ W : World, (Instr.typeAssert (.iface 70 (.agg #[.int .i64 c])) 20 70 true).run Tryd.prog W = .ok (.tuple #[.agg #[.int .i64 c], .bool true]) W := fun _ => by kernel_rfl
  go_wp2
  cases c₀
  simp_all [bodyPostS, results, Tryd.results39]
def RowGot (w : World) (s : List UInt8) (g : Got (List V)) (e : Ending) (w' : World) : Prop :=
  match g with
  | .ok l r => ∃ b c, e = .returned (.tuple #[.slice (some ⟨b, 0, none⟩) l.length c, .int .i64 ((s.length : Int) - (r.length : Int)), .int .i64 0]) ∧ Reads w' (some ⟨b, 0, none⟩) l ∧ Below w.heap.size w w'
  | .bad c => e = .returned (.tuple #[.slice none 0 0, .int .i64 0, .int .i64 c]) ∧ Below w.heap.size w w'
/-- The world in which the reading begins: the error's variable, the reader. -/
theorem begun (w : World) (s : List UInt8) : Rd ((w.alloc (.cells #[.int .i64 0] 29)).alloc (.cells #[.string (bs s)] 72)) (w.heap.size + 1) s := by
  have h := heap_alloc_new (w.alloc (.cells #[.int .i64 0] 29)) (.cells #[.string (bs s)] 72)
  have e : (w.alloc (.cells #[.int .i64 0] 29)).heap.size = w.heap.size + 1 := by simp
  rw [e] at h
  exact h
theorem many_rest : ∀ (n : Nat) (s : List UInt8) (l : List V) (r : List UInt8), many n s = .ok l r → r.length ≤ s.length
  | 0, s, l, r, h => by cases h; exact Nat.le_refl _
  | n + 1, s, l, r, h => by
    cases hv : Cm.value s with
    | bad c => simp only [many, hv] at h; cases h
    | ok v t =>
      simp only [many, hv] at h
      cases hm : many n t with
      | bad c => rw [hm] at h; cases h
      | ok m x =>
        rw [hm] at h
        cases h
        exact Nat.le_trans (many_rest n t m _ hm) (value_rest hv)
theorem row_rest {s : List UInt8} {l : List V} {r : List UInt8} (h : Cm.row s = .ok l r) : r.length ≤ s.length := by
  cases s with
  | nil => cases h
  | cons c t =>
    unfold Cm.row at h
    simp only at h
    split at h
    · have := many_rest _ _ _ _ h; simp only [List.length_cons]; omega
    · cases h
/-- The error's variable stands behind the reading. -/
theorem err_kept {w w1 : World} {s : List UInt8} (ho : Only (w.heap.size + 1) ((w.alloc (.cells #[.int .i64 0] 29)).alloc (.cells #[.string (bs s)] 72)) w1) : w1.heap[w.heap.size]? = some (.cells #[.int .i64 0] 29 (0, 0)) := by
  rw [ho.block w.heap.size (by simp; omega) (fun e => by have := Option.some.inj e; omega)]
  rw [Below.heap_alloc _ _ _ (by simp)]
  exact heap_alloc_new w _
theorem below_of {w w0 w1 : World} (hb : Below w.heap.size w w0) {B : Nat} (ho : Only B w0 w1) (hB : w.heap.size ≤ B := by omega) : Below w.heap.size w w1 :=
  hb.trans ⟨ho.os, ho.tape, ho.output, ho.size, fun k hk => ho.block k (by have := hb.size; omega) (fun e => by have := Option.some.inj e; omega)⟩
theorem read_row (s : List UInt8) (w : World) (hs : s.length ≤ 80000) (hT : Tabs w) (hw : 1 < w.heap.size) :
    Calls Tryd.prog 33 #[.string (bs s), .func (.func 34) #[] #[]] w (RowGot w s (Cm.row s)) := by
  have hmf : ∀ (fn : Fn) (first cap : Array Value) (w : World), (Instr.makeFunc fn first cap).run Tryd.prog w = .ok (.func fn first cap) w := fun _ _ _ _ => rfl
  have hb0 : Below w.heap.size w ((w.alloc (.cells #[.int .i64 0] 29)).alloc (.cells #[.string (bs s)] 72)) := ((Below.refl _ _).alloc (Nat.le_refl _) _).alloc (by simp) _
  have HR := Lib.hid (row_any (begun w s) hs (hT.keep hb0) (by omega))
  have hent : ∀ (args : Array Value) (W : World), (callFunc 34 args).run Tryd.prog W = .ok (.enter 34 args) W := fun _ _ => by kernel_rfl
  have HB := Lib.hid hb0
  clear hT hb0
  cases hq : Cm.row s with
  | bad c =>
    rw [hq] at HR
    clear hq
    go_enter_defers Tryd.func33, Tryd.ntmps33
    go_wp2_with fail
    with_reducible refine HR.out.mono ?_
    rintro e w1 ⟨rfl, ho⟩
    have he := err_kept ho
    have hlt := lt_of_block he
    have hc := cell_of_one he
    have hz := free_of_one he
    have HO := Lib.hid (below_of HB.out ho)
    refine leaves_cons (f := 48) (args := #[.pointer (some ⟨w.heap.size, 0, none⟩)]) (by simp) (by simp [go_sem]) ?_
    refine (catch_row w.heap.size c 0 w1 hc hz hlt).mono ?_
    rintro e u' w2 ⟨rfl, rfl, rfl⟩
    have hc2 : ((w1.setCell ⟨w.heap.size, 0, none⟩ (.int .i64 c)).alloc (.cells #[.int .i64 c] 70)).cell? ⟨w.heap.size, 0, none⟩ = some (.int .i64 c) := by
      rw [World.cell?_alloc_past _ _ _ (by simpa [World.setCell] using hlt)]
      exact cell_of_one (one_setCell he)
    simp [Leaves, settle, results, Tryd.results33, go_sem, hc2]
    exact ⟨rfl, (HO.out.setCell (Nat.le_refl _) _).alloc (by have := HO.out.size; simpa [World.setCell] using this) _⟩
  | ok l r =>
    rw [hq] at HR
    have HLE : Hid (r.length ≤ s.length) := Lib.hid (row_rest hq)
    clear hq
    go_enter_defers Tryd.func33, Tryd.ntmps33
    go_wp2_with fail
    with_reducible refine HR.out.mono ?_
    rintro e w1 ⟨b, c, rfl, hb, hrd, hr, ho⟩
    have he := err_kept ho
    have hlt := lt_of_block he
    have hc := cell_of_one he
    have hz := free_of_one he
    have hl := hr.cell
    have hs1 : (bs s).size = s.length := bs_size s
    have hs2 : (bs r).size = r.length := bs_size r
    have HO := Lib.hid (below_of HB.out ho)
    have HE := Lib.hid he; have HRD := Lib.hid hrd; have HW1 := Lib.hid (lt_of_block he)
    have HBW : Hid (w.heap.size < b) := Lib.hid (by have := HB.out.size; simp at hb; omega)
    clear he hrd hr ho hb hlt hent hmf
    go_wp2_with fail
    go_region
    all_goals
      go_wp2
      refine leaves_cons (f := 48) (args := #[.pointer (some ⟨w.heap.size, 0, none⟩)]) (by simp) (by simp [go_sem]) ?_
      refine (idle_row ⟨w.heap.size, 0, none⟩ _).mono ?_
      rintro e u' w2 ⟨rfl, rfl, rfl⟩
      have hc2 : ((w1.setCell ⟨w.heap.size, 0, none⟩ (.int .i64 0)).drew).cell? ⟨w.heap.size, 0, none⟩ = some (.int .i64 0) := cell_of_one (one_setCell HE.out)
      have hwr : wrap64 ((s.length : Int) - (r.length : Int)) = (s.length : Int) - (r.length : Int) := by have := HLE.out; unfold wrap64; omega
      simp [Leaves, settle, results, Tryd.results33, go_sem, hc2]
      rw [hwr]
      refine ⟨b, c, rfl, ?_, ((HO.out.setCell (Nat.le_refl _) _)).drew⟩
      intro hne
      obtain ⟨b', o', e1, e2, e3⟩ := HRD.out hne
      injection e1 with e1
      injection e1 with e1 e4
      subst e1; subst e4
      have hn := HBW.out
      refine ⟨b, 0, rfl, by simpa [World.setCell] using e2, fun k hk => ?_⟩
      obtain ⟨f0, f1, f2, f3⟩ := e3 k hk
      have q : ∀ o, ((w1.setCell ⟨w.heap.size, 0, none⟩ (.int .i64 0)).drew).cell? ⟨b, o, none⟩ = w1.cell? ⟨b, o, none⟩ := fun o => World.cell?_of_block (w := w1) (a := ⟨b, o, none⟩) (Below.heap_setCell w1 ⟨w.heap.size, 0, none⟩ _ b (by simp only; omega))
      exact ⟨(q _).trans f0, (q _).trans f1, (q _).trans f2, (q _).trans f3⟩
end Go.Proofs.YthoiolihkomgmaaDoor.Rr5
