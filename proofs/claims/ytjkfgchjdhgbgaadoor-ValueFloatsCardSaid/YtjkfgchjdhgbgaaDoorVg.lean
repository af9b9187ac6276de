/- The walks of ValueFloats, a way each. -/
import Derived.Test.YtjkfgchjdhgbgaaDoorVa
namespace Go.Proofs.YtjkfgchjdhgbgaaDoor.Vg
open Go Go.RowKit Go.Proofs.YtjkfgchjdhgbgaaDoor.Vm Go.Proofs.YtjkfgchjdhgbgaaDoor.Vl Go.Proofs.YtjkfgchjdhgbgaaDoor.Ve Go.Proofs.YtjkfgchjdhgbgaaDoor.Vr Go.Proofs.YtjkfgchjdhgbgaaDoor.Vs Go.Proofs.YtjkfgchjdhgbgaaDoor.Vc Go.Proofs.YtjkfgchjdhgbgaaDoor.Vk
attribute [local go_sem ↓] Go.wp_at_zero Go.wp_at_succ
theorem two_blocks (w W : World) (o o' : Obj) (h : Below ((w.alloc o).alloc o').heap.size ((w.alloc o).alloc o') W) : W.heap[w.heap.size]? = some o ∧ W.heap[w.heap.size + 1]? = some o' := by
  have s1 : (w.alloc o).heap.size = w.heap.size + 1 := by simp
  have s2 : ((w.alloc o).alloc o').heap.size = w.heap.size + 1 + 1 := by simp
  have e1 := h.block w.heap.size (by omega)
  have e2 := h.block (w.heap.size + 1) (by omega)
  have f2 := heap_alloc_new (w.alloc o) o'
  rw [s1] at f2
  have f1 : ((w.alloc o).alloc o').heap[w.heap.size]? = some o := (Below.heap_alloc (w.alloc o) o' w.heap.size (by omega)).trans (heap_alloc_new w o)
  exact ⟨e1.trans f1, e2.trans f2⟩
section
variable {P : Program} {md : Region.Mode} {ops : Array Oper} {Q : Exit → Act → World → Prop} {S : World → Prop}
/-- An operation that is not wanted. -/
theorem heldUn {i : Nat} {oi : Oper} {fuel : Nat} {listed : Array Bool} {a : Act} {w : World} (d : Option Tmp) (hi : ops[i]? = some oi) (hd : oi.dst = d) (hs : Region.noSelect ops = true) (hf : Region.free md ops listed i = true)
    (hr : (Region.ready md ops listed).contains i = true) (hQ : ∀ c a w, Q (.panic c) (a.put d undef) w → Q (.panic c) a w) (hw : Region.wanted oi (yielded ops a.tmps) = false) (hS : S w)
    (h : wpAnyH P md ops Q S fuel (listed.setIfInBounds i true) (a.put d undef) w) : wpAnyH P md ops Q S (fuel + 1) listed a w := by
  subst hd
  exact wpAnyH_take hi hs hf hr hQ (Or.inr ⟨hw, rfl⟩) hS h
/-- One that yields a value, whatever the world that meets S. -/
theorem heldIn {i : Nat} {oi : Oper} {fuel : Nat} {listed : Array Bool} {a : Act} {w : World} (d : Option Tmp) {v : Value} (hi : ops[i]? = some oi) (hd : oi.dst = d) (hs : Region.noSelect ops = true) (hf : Region.free md ops listed i = true)
    (hr : (Region.ready md ops listed).contains i = true) (hQ : ∀ c a w, Q (.panic c) (a.put d v) w → Q (.panic c) a w) (hw : Region.wanted oi (yielded ops a.tmps) = true) (hS : S w) (hy : ∀ w, S w → (execOp a.eval oi).run P w = .ok (.value v) w)
    (h : wpAnyH P md ops Q S fuel (listed.setIfInBounds i true) (a.put d v) w) : wpAnyH P md ops Q S (fuel + 1) listed a w := by
  subst hd
  exact wpAnyH_take hi hs hf hr hQ (Or.inl ⟨hw, hy⟩) hS h
end
set_option maxRecDepth 40000 in
set_option maxHeartbeats 2000000 in
theorem w_nn (f g : Nat) (c d : Nat) (w : World) (hT : Tabs w) (R1 : Hid (∀ W, Calls Tryd.prog 18 #[.float .f64 f] W fun e w' => e = .returned (.agg #[.int .u8 3, .int .i64 0, .int .u64 (c : Int), .string ⟨#[]⟩]) ∧ Below W.heap.size W w')) (R2 : Hid (∀ W, Calls Tryd.prog 18 #[.float .f64 g] W fun e w' => e = .returned (.agg #[.int .u8 3, .int .i64 0, .int .u64 (d : Int), .string ⟨#[]⟩]) ∧ Below W.heap.size W w')) (HL : Hid (∀ W, Calls Tryd.prog 24 #[.agg #[.int .u8 3, .int .i64 0, .int .u64 (c : Int), .string ⟨#[]⟩], .agg #[.int .u8 3, .int .i64 0, .int .u64 (d : Int), .string ⟨#[]⟩]] W fun e w' => e = .returned (.bool false) ∧ Below W.heap.size W w')) (AL : Hid (∀ W, Tabs W → Calls Tryd.prog 8 #[] W fun e w' => e = .returned (.bool true) ∧ Below W.heap.size W w')) (hE : eqI 3 0 c ⟨#[]⟩ 3 0 d ⟨#[]⟩ = true) (_n1 : (FloatKind.f64.format.order f f != some .eq) = true) (_n2 : (FloatKind.f64.format.order f f == some .eq) = false) (_n3 : (FloatKind.f64.format.order g g != some .eq) = true) (_n4 : (FloatKind.f64.format.order g g == some .eq) = false) :
    Calls Tryd.prog 6 #[.float .f64 f, .float .f64 g] w fun e w' => e = .returned (.bool true) ∧ Below w.heap.size w w' := by
  have HT := Lib.hid hT
  have he := run_eqI 3 0 c ⟨#[]⟩ 3 0 d ⟨#[]⟩
  have hn := run_neI 3 0 c ⟨#[]⟩ 3 0 d ⟨#[]⟩
  rw [hE] at he hn
  clear hE hT
  go_enter Tryd.func6, Tryd.ntmps6
  go_wp2_with fail
  refine (R1.out _).mono ?_
  rintro e w1 ⟨rfl, hb1⟩
  have G1 := Lib.hid hb1
  clear hb1
  go_wp2_with fail
  refine (R2.out _).mono ?_
  rintro e w2 ⟨rfl, hb2⟩
  have G2 := chain G1 hb2 (Below.refl _ _)
  have GA : Hid (Below w2.heap.size w2 ((w2.alloc (.cells #[.int .u8 3, .int .i64 0, .int .u64 (c : Int), .string ⟨#[]⟩] 24)).alloc (.cells #[.int .u8 3, .int .i64 0, .int .u64 (d : Int), .string ⟨#[]⟩] 24))) := Lib.hid (((Below.refl _ _).alloc (Nat.le_refl _) _).alloc (by simp) _)
  clear hb2 G1
  go_wp2_with fail
  refine (HL.out _).mono ?_
  rintro e w3 ⟨rfl, hb3⟩
  obtain ⟨hc3, _⟩ := bcell hb3
  have G3 := chain G2 hb3 GA.out
  clear hb3
  go_wp2_with fail
  refine (AL.out _ (HT.out.keep G3.out)).mono ?_
  rintro e w4 ⟨rfl, hb4⟩
  have G4 := chain G3 hb4 (Below.refl _ _)
  clear hb4
  go_wp2
  go_ret
  exact ⟨rfl, G4.out⟩
set_option maxRecDepth 40000 in
set_option maxHeartbeats 2000000 in
theorem w_nf (f g : Nat) (c d : Nat) (w : World) (hT : Tabs w) (R1 : Hid (∀ W, Calls Tryd.prog 18 #[.float .f64 f] W fun e w' => e = .returned (.agg #[.int .u8 3, .int .i64 0, .int .u64 (c : Int), .string ⟨#[]⟩]) ∧ Below W.heap.size W w')) (R2 : Hid (∀ W, Calls Tryd.prog 18 #[.float .f64 g] W fun e w' => e = .returned (.agg #[.int .u8 3, .int .i64 0, .int .u64 (d : Int), .string ⟨#[]⟩]) ∧ Below W.heap.size W w')) (HL : Hid (∀ W, Calls Tryd.prog 24 #[.agg #[.int .u8 3, .int .i64 0, .int .u64 (c : Int), .string ⟨#[]⟩], .agg #[.int .u8 3, .int .i64 0, .int .u64 (d : Int), .string ⟨#[]⟩]] W fun e w' => e = .returned (.bool false) ∧ Below W.heap.size W w')) (AL : Hid (∀ W, Tabs W → Calls Tryd.prog 8 #[] W fun e w' => e = .returned (.bool true) ∧ Below W.heap.size W w')) (hE : eqI 3 0 c ⟨#[]⟩ 3 0 d ⟨#[]⟩ = false) (_n1 : (FloatKind.f64.format.order f f != some .eq) = true) (_n2 : (FloatKind.f64.format.order f f == some .eq) = false) (_n3 : (FloatKind.f64.format.order g g != some .eq) = false) (_n4 : (FloatKind.f64.format.order g g == some .eq) = true) :
    Calls Tryd.prog 6 #[.float .f64 f, .float .f64 g] w fun e w' => e = .returned (.bool true) ∧ Below w.heap.size w w' := by
  have HT := Lib.hid hT
  have he := run_eqI 3 0 c ⟨#[]⟩ 3 0 d ⟨#[]⟩
  have hn := run_neI 3 0 c ⟨#[]⟩ 3 0 d ⟨#[]⟩
  rw [hE] at he hn
  clear hE hT
  go_enter Tryd.func6, Tryd.ntmps6
  go_wp2_with fail
  refine (R1.out _).mono ?_
  rintro e w1 ⟨rfl, hb1⟩
  have G1 := Lib.hid hb1
  clear hb1
  go_wp2_with fail
  refine (R2.out _).mono ?_
  rintro e w2 ⟨rfl, hb2⟩
  have G2 := chain G1 hb2 (Below.refl _ _)
  have GA : Hid (Below w2.heap.size w2 ((w2.alloc (.cells #[.int .u8 3, .int .i64 0, .int .u64 (c : Int), .string ⟨#[]⟩] 24)).alloc (.cells #[.int .u8 3, .int .i64 0, .int .u64 (d : Int), .string ⟨#[]⟩] 24))) := Lib.hid (((Below.refl _ _).alloc (Nat.le_refl _) _).alloc (by simp) _)
  clear hb2 G1
  go_wp2_with fail
  refine (HL.out _).mono ?_
  rintro e w3 ⟨rfl, hb3⟩
  obtain ⟨hc3, _⟩ := bcell hb3
  have G3 := chain G2 hb3 GA.out
  clear hb3
  go_wp2_with fail
  refine (AL.out _ (HT.out.keep G3.out)).mono ?_
  rintro e w4 ⟨rfl, hb4⟩
  have G4 := chain G3 hb4 (Below.refl _ _)
  clear hb4
  go_wp2
  go_ret
  exact ⟨rfl, G4.out⟩
set_option maxRecDepth 40000 in
set_option maxHeartbeats 2000000 in
theorem w_fn (f g : Nat) (c d : Nat) (w : World) (hT : Tabs w) (R1 : Hid (∀ W, Calls Tryd.prog 18 #[.float .f64 f] W fun e w' => e = .returned (.agg #[.int .u8 3, .int .i64 0, .int .u64 (c : Int), .string ⟨#[]⟩]) ∧ Below W.heap.size W w')) (R2 : Hid (∀ W, Calls Tryd.prog 18 #[.float .f64 g] W fun e w' => e = .returned (.agg #[.int .u8 3, .int .i64 0, .int .u64 (d : Int), .string ⟨#[]⟩]) ∧ Below W.heap.size W w')) (HL : Hid (∀ W, Calls Tryd.prog 24 #[.agg #[.int .u8 3, .int .i64 0, .int .u64 (c : Int), .string ⟨#[]⟩], .agg #[.int .u8 3, .int .i64 0, .int .u64 (d : Int), .string ⟨#[]⟩]] W fun e w' => e = .returned (.bool true) ∧ Below W.heap.size W w')) (AL : Hid (∀ W, Tabs W → Calls Tryd.prog 8 #[] W fun e w' => e = .returned (.bool true) ∧ Below W.heap.size W w')) (hE : eqI 3 0 c ⟨#[]⟩ 3 0 d ⟨#[]⟩ = false) (_n1 : (FloatKind.f64.format.order f f != some .eq) = false) (_n2 : (FloatKind.f64.format.order f f == some .eq) = true) (_n3 : (FloatKind.f64.format.order g g != some .eq) = true) (_n4 : (FloatKind.f64.format.order g g == some .eq) = false) :
    Calls Tryd.prog 6 #[.float .f64 f, .float .f64 g] w fun e w' => e = .returned (.bool true) ∧ Below w.heap.size w w' := by
  have HT := Lib.hid hT
  have he := run_eqI 3 0 c ⟨#[]⟩ 3 0 d ⟨#[]⟩
  have hn := run_neI 3 0 c ⟨#[]⟩ 3 0 d ⟨#[]⟩
  rw [hE] at he hn
  clear hE hT
  go_enter Tryd.func6, Tryd.ntmps6
  go_wp2_with fail
  refine (R1.out _).mono ?_
  rintro e w1 ⟨rfl, hb1⟩
  have G1 := Lib.hid hb1
  clear hb1
  go_wp2_with fail
  refine (R2.out _).mono ?_
  rintro e w2 ⟨rfl, hb2⟩
  have G2 := chain G1 hb2 (Below.refl _ _)
  have GA : Hid (Below w2.heap.size w2 ((w2.alloc (.cells #[.int .u8 3, .int .i64 0, .int .u64 (c : Int), .string ⟨#[]⟩] 24)).alloc (.cells #[.int .u8 3, .int .i64 0, .int .u64 (d : Int), .string ⟨#[]⟩] 24))) := Lib.hid (((Below.refl _ _).alloc (Nat.le_refl _) _).alloc (by simp) _)
  clear hb2 G1
  go_wp2_with fail
  refine (HL.out _).mono ?_
  rintro e w3 ⟨rfl, hb3⟩
  obtain ⟨hc3, _⟩ := bcell hb3
  have G3 := chain G2 hb3 GA.out
  clear hb3
  go_wp2_with fail
  refine (AL.out _ (HT.out.keep G3.out)).mono ?_
  rintro e w4 ⟨rfl, hb4⟩
  have G4 := chain G3 hb4 (Below.refl _ _)
  clear hb4
  go_wp2
  go_ret
  exact ⟨rfl, G4.out⟩
set_option maxRecDepth 40000 in
set_option maxHeartbeats 2000000 in
theorem w_gt (f g : Nat) (c d : Nat) (w : World) (hT : Tabs w) (R1 : Hid (∀ W, Calls Tryd.prog 18 #[.float .f64 f] W fun e w' => e = .returned (.agg #[.int .u8 3, .int .i64 0, .int .u64 (c : Int), .string ⟨#[]⟩]) ∧ Below W.heap.size W w')) (R2 : Hid (∀ W, Calls Tryd.prog 18 #[.float .f64 g] W fun e w' => e = .returned (.agg #[.int .u8 3, .int .i64 0, .int .u64 (d : Int), .string ⟨#[]⟩]) ∧ Below W.heap.size W w')) (HL : Hid (∀ W, Calls Tryd.prog 24 #[.agg #[.int .u8 3, .int .i64 0, .int .u64 (c : Int), .string ⟨#[]⟩], .agg #[.int .u8 3, .int .i64 0, .int .u64 (d : Int), .string ⟨#[]⟩]] W fun e w' => e = .returned (.bool false) ∧ Below W.heap.size W w')) (AL : Hid (∀ W, Tabs W → Calls Tryd.prog 8 #[] W fun e w' => e = .returned (.bool true) ∧ Below W.heap.size W w')) (hE : eqI 3 0 c ⟨#[]⟩ 3 0 d ⟨#[]⟩ = false) (_n1 : (FloatKind.f64.format.order f f != some .eq) = false) (_n2 : (FloatKind.f64.format.order f f == some .eq) = true) (_n3 : (FloatKind.f64.format.order g g != some .eq) = false) (_n4 : (FloatKind.f64.format.order g g == some .eq) = true) (o1 : (FloatKind.f64.format.order f g == some .eq) = false) (o2 : (FloatKind.f64.format.order f g == some .lt) = false) :
    Calls Tryd.prog 6 #[.float .f64 f, .float .f64 g] w fun e w' => e = .returned (.bool true) ∧ Below w.heap.size w w' := by
  have HT := Lib.hid hT
  have he := run_eqI 3 0 c ⟨#[]⟩ 3 0 d ⟨#[]⟩
  have hn := run_neI 3 0 c ⟨#[]⟩ 3 0 d ⟨#[]⟩
  rw [hE] at he hn
  clear hE hT
  go_enter Tryd.func6, Tryd.ntmps6
  go_wp2_with fail
  refine (R1.out _).mono ?_
  rintro e w1 ⟨rfl, hb1⟩
  have G1 := Lib.hid hb1
  clear hb1
  go_wp2_with fail
  refine (R2.out _).mono ?_
  rintro e w2 ⟨rfl, hb2⟩
  have G2 := chain G1 hb2 (Below.refl _ _)
  have GA : Hid (Below w2.heap.size w2 ((w2.alloc (.cells #[.int .u8 3, .int .i64 0, .int .u64 (c : Int), .string ⟨#[]⟩] 24)).alloc (.cells #[.int .u8 3, .int .i64 0, .int .u64 (d : Int), .string ⟨#[]⟩] 24))) := Lib.hid (((Below.refl _ _).alloc (Nat.le_refl _) _).alloc (by simp) _)
  clear hb2 G1
  go_wp2_with fail
  refine (HL.out _).mono ?_
  rintro e w3 ⟨rfl, hb3⟩
  obtain ⟨hc3, _⟩ := bcell hb3
  have G3 := chain G2 hb3 GA.out
  clear hb3
  go_wp2_with fail
  refine (AL.out _ (HT.out.keep G3.out)).mono ?_
  rintro e w4 ⟨rfl, hb4⟩
  have G4 := chain G3 hb4 (Below.refl _ _)
  clear hb4
  go_wp2
  go_ret
  exact ⟨rfl, G4.out⟩
set_option maxRecDepth 40000 in
set_option maxHeartbeats 2000000 in
theorem w_lt (f g : Nat) (c d : Nat) (w : World) (hT : Tabs w) (R1 : Hid (∀ W, Calls Tryd.prog 18 #[.float .f64 f] W fun e w' => e = .returned (.agg #[.int .u8 3, .int .i64 0, .int .u64 (c : Int), .string ⟨#[]⟩]) ∧ Below W.heap.size W w')) (R2 : Hid (∀ W, Calls Tryd.prog 18 #[.float .f64 g] W fun e w' => e = .returned (.agg #[.int .u8 3, .int .i64 0, .int .u64 (d : Int), .string ⟨#[]⟩]) ∧ Below W.heap.size W w')) (HL : Hid (∀ W, Calls Tryd.prog 24 #[.agg #[.int .u8 3, .int .i64 0, .int .u64 (c : Int), .string ⟨#[]⟩], .agg #[.int .u8 3, .int .i64 0, .int .u64 (d : Int), .string ⟨#[]⟩]] W fun e w' => e = .returned (.bool true) ∧ Below W.heap.size W w')) (AL : Hid (∀ W, Tabs W → Calls Tryd.prog 8 #[] W fun e w' => e = .returned (.bool true) ∧ Below W.heap.size W w')) (hE : eqI 3 0 c ⟨#[]⟩ 3 0 d ⟨#[]⟩ = false) (_n1 : (FloatKind.f64.format.order f f != some .eq) = false) (_n2 : (FloatKind.f64.format.order f f == some .eq) = true) (_n3 : (FloatKind.f64.format.order g g != some .eq) = false) (_n4 : (FloatKind.f64.format.order g g == some .eq) = true) (o1 : (FloatKind.f64.format.order f g == some .eq) = false) (o2 : (FloatKind.f64.format.order f g == some .lt) = true) :
    Calls Tryd.prog 6 #[.float .f64 f, .float .f64 g] w fun e w' => e = .returned (.bool true) ∧ Below w.heap.size w w' := by
  have HT := Lib.hid hT
  have he := run_eqI 3 0 c ⟨#[]⟩ 3 0 d ⟨#[]⟩
  have hn := run_neI 3 0 c ⟨#[]⟩ 3 0 d ⟨#[]⟩
  rw [hE] at he hn
  clear hE hT
  go_enter Tryd.func6, Tryd.ntmps6
  go_wp2_with fail
  refine (R1.out _).mono ?_
  rintro e w1 ⟨rfl, hb1⟩
  have G1 := Lib.hid hb1
  clear hb1
  go_wp2_with fail
  refine (R2.out _).mono ?_
  rintro e w2 ⟨rfl, hb2⟩
  have G2 := chain G1 hb2 (Below.refl _ _)
  have GA : Hid (Below w2.heap.size w2 ((w2.alloc (.cells #[.int .u8 3, .int .i64 0, .int .u64 (c : Int), .string ⟨#[]⟩] 24)).alloc (.cells #[.int .u8 3, .int .i64 0, .int .u64 (d : Int), .string ⟨#[]⟩] 24))) := Lib.hid (((Below.refl _ _).alloc (Nat.le_refl _) _).alloc (by simp) _)
  clear hb2 G1
  go_wp2_with fail
  refine (HL.out _).mono ?_
  rintro e w3 ⟨rfl, hb3⟩
  obtain ⟨hc3, _⟩ := bcell hb3
  have G3 := chain G2 hb3 GA.out
  clear hb3
  go_wp2_with fail
  refine (AL.out _ (HT.out.keep G3.out)).mono ?_
  rintro e w4 ⟨rfl, hb4⟩
  have G4 := chain G3 hb4 (Below.refl _ _)
  clear hb4
  go_wp2
  go_ret
  exact ⟨rfl, G4.out⟩
set_option maxRecDepth 40000 in
set_option maxHeartbeats 2000000 in
theorem w_00 (f g : Nat) (c d : Nat) (w : World) (hT : Tabs w) (R1 : Hid (∀ W, Calls Tryd.prog 18 #[.float .f64 f] W fun e w' => e = .returned (.agg #[.int .u8 3, .int .i64 0, .int .u64 (c : Int), .string ⟨#[]⟩]) ∧ Below W.heap.size W w')) (R2 : Hid (∀ W, Calls Tryd.prog 18 #[.float .f64 g] W fun e w' => e = .returned (.agg #[.int .u8 3, .int .i64 0, .int .u64 (d : Int), .string ⟨#[]⟩]) ∧ Below W.heap.size W w')) (HL : Hid (∀ W, Calls Tryd.prog 24 #[.agg #[.int .u8 3, .int .i64 0, .int .u64 (c : Int), .string ⟨#[]⟩], .agg #[.int .u8 3, .int .i64 0, .int .u64 (d : Int), .string ⟨#[]⟩]] W fun e w' => e = .returned (.bool false) ∧ Below W.heap.size W w')) (AL : Hid (∀ W, Tabs W → Calls Tryd.prog 8 #[] W fun e w' => e = .returned (.bool true) ∧ Below W.heap.size W w')) (hE : eqI 3 0 c ⟨#[]⟩ 3 0 d ⟨#[]⟩ = true) (_n1 : (FloatKind.f64.format.order f f != some .eq) = false) (_n2 : (FloatKind.f64.format.order f f == some .eq) = true) (_n3 : (FloatKind.f64.format.order g g != some .eq) = false) (_n4 : (FloatKind.f64.format.order g g == some .eq) = true) (o1 : (FloatKind.f64.format.order f g == some .eq) = true) (S1 : Hid (∀ W, Calls Tryd.prog 27 #[.float .f64 f] W fun e w' => e = .returned (.bool false) ∧ W = w')) (S2 : Hid (∀ W, Calls Tryd.prog 27 #[.float .f64 g] W fun e w' => e = .returned (.bool false) ∧ W = w')) :
    Calls Tryd.prog 6 #[.float .f64 f, .float .f64 g] w fun e w' => e = .returned (.bool true) ∧ Below w.heap.size w w' := by
  have HT := Lib.hid hT
  have he := run_eqI 3 0 c ⟨#[]⟩ 3 0 d ⟨#[]⟩
  have hn := run_neI 3 0 c ⟨#[]⟩ 3 0 d ⟨#[]⟩
  rw [hE] at he hn
  clear hE hT
  go_enter Tryd.func6, Tryd.ntmps6
  go_wp2_with fail
  refine (R1.out _).mono ?_
  rintro e w1 ⟨rfl, hb1⟩
  have G1 := Lib.hid hb1
  clear hb1
  go_wp2_with fail
  refine (R2.out _).mono ?_
  rintro e w2 ⟨rfl, hb2⟩
  have G2 := chain G1 hb2 (Below.refl _ _)
  have GA : Hid (Below w2.heap.size w2 ((w2.alloc (.cells #[.int .u8 3, .int .i64 0, .int .u64 (c : Int), .string ⟨#[]⟩] 24)).alloc (.cells #[.int .u8 3, .int .i64 0, .int .u64 (d : Int), .string ⟨#[]⟩] 24))) := Lib.hid (((Below.refl _ _).alloc (Nat.le_refl _) _).alloc (by simp) _)
  clear hb2 G1
  go_wp2_with fail
  have HK : Hid (∀ W, Below ((w2.alloc (.cells #[.int .u8 3, .int .i64 0, .int .u64 (c : Int), .string ⟨#[]⟩] 24)).alloc (.cells #[.int .u8 3, .int .i64 0, .int .u64 (d : Int), .string ⟨#[]⟩] 24)).heap.size ((w2.alloc (.cells #[.int .u8 3, .int .i64 0, .int .u64 (c : Int), .string ⟨#[]⟩] 24)).alloc (.cells #[.int .u8 3, .int .i64 0, .int .u64 (d : Int), .string ⟨#[]⟩] 24)) W → (fun W => W.cell? ⟨w2.heap.size, 0, none⟩ = some (.int .u8 3) ∧ W.cell? ⟨w2.heap.size, 1, none⟩ = some (.int .i64 0) ∧ W.cell? ⟨w2.heap.size, 2, none⟩ = some (.int .u64 (c : Int)) ∧ W.cell? ⟨w2.heap.size, 3, none⟩ = some (.string ⟨#[]⟩) ∧ W.cell? ⟨w2.heap.size + 1, 0, none⟩ = some (.int .u8 3) ∧ W.cell? ⟨w2.heap.size + 1, 1, none⟩ = some (.int .i64 0) ∧ W.cell? ⟨w2.heap.size + 1, 2, none⟩ = some (.int .u64 (d : Int)) ∧ W.cell? ⟨w2.heap.size + 1, 3, none⟩ = some (.string ⟨#[]⟩)) W) := Lib.hid fun W hW => by
    obtain ⟨e1, e2⟩ := two_blocks w2 W (.cells #[.int .u8 3, .int .i64 0, .int .u64 (c : Int), .string ⟨#[]⟩] 24) (.cells #[.int .u8 3, .int .i64 0, .int .u64 (d : Int), .string ⟨#[]⟩] 24) hW
    refine ⟨?_, ?_, ?_, ?_, ?_, ?_, ?_, ?_⟩ <;> (unfold World.cell?; first | (rw [e1]; rfl) | (rw [e2]; rfl))
  have GP : Hid (Below w.heap.size w ((w2.alloc (.cells #[.int .u8 3, .int .i64 0, .int .u64 (c : Int), .string ⟨#[]⟩] 24)).alloc (.cells #[.int .u8 3, .int .i64 0, .int .u64 (d : Int), .string ⟨#[]⟩] 24))) := chain G2 GA.out (Below.refl _ _)
  have TB : Hid (∀ W, Below ((w2.alloc (.cells #[.int .u8 3, .int .i64 0, .int .u64 (c : Int), .string ⟨#[]⟩] 24)).alloc (.cells #[.int .u8 3, .int .i64 0, .int .u64 (d : Int), .string ⟨#[]⟩] 24)).heap.size ((w2.alloc (.cells #[.int .u8 3, .int .i64 0, .int .u64 (c : Int), .string ⟨#[]⟩] 24)).alloc (.cells #[.int .u8 3, .int .i64 0, .int .u64 (d : Int), .string ⟨#[]⟩] 24)) W → Tabs W) := Lib.hid fun W h => HT.out.keep (chain GP h (Below.refl _ _)).out
  refine wp_region_held_drew (S := fun W => W.cell? ⟨w2.heap.size, 0, none⟩ = some (.int .u8 3) ∧ W.cell? ⟨w2.heap.size, 1, none⟩ = some (.int .i64 0) ∧ W.cell? ⟨w2.heap.size, 2, none⟩ = some (.int .u64 (c : Int)) ∧ W.cell? ⟨w2.heap.size, 3, none⟩ = some (.string ⟨#[]⟩) ∧ W.cell? ⟨w2.heap.size + 1, 0, none⟩ = some (.int .u8 3) ∧ W.cell? ⟨w2.heap.size + 1, 1, none⟩ = some (.int .i64 0) ∧ W.cell? ⟨w2.heap.size + 1, 2, none⟩ = some (.int .u64 (d : Int)) ∧ W.cell? ⟨w2.heap.size + 1, 3, none⟩ = some (.string ⟨#[]⟩)) (by kernel_rfl) ?_ (fun hHeld => ?_)
  · exact HK.out _ ⟨rfl, rfl, rfl, Nat.le_refl _, fun _ _ => rfl⟩
  refine heldIn (i := 0) (some 51) (v := ?_) rfl rfl (by kernel_rfl) (by kernel_rfl) (by kernel_rfl) (fun _ _ _ h => h) (by rfl) (by assumption) ?_ ?_
  rotate_left
  · intro w hSw
    try dsimp only at hSw
    go_simp
    try with_reducible rfl
  try simp only [Act.put, List.setIfInBounds_toArray, List.set_cons_zero, List.set_cons_succ]
  refine heldIn (i := 1) (some 52) (v := ?_) rfl rfl (by kernel_rfl) (by kernel_rfl) (by kernel_rfl) (fun _ _ _ h => h) (by rfl) (by assumption) ?_ ?_
  rotate_left
  · intro w hSw
    try dsimp only at hSw
    go_simp
    try with_reducible rfl
  try simp only [Act.put, List.setIfInBounds_toArray, List.set_cons_zero, List.set_cons_succ]
  refine heldIn (i := 2) (some 53) (v := ?_) rfl rfl (by kernel_rfl) (by kernel_rfl) (by kernel_rfl) (fun _ _ _ h => h) (by rfl) (by assumption) ?_ ?_
  rotate_left
  · intro w hSw
    try dsimp only at hSw
    go_simp
    try with_reducible rfl
  try simp only [Act.put, List.setIfInBounds_toArray, List.set_cons_zero, List.set_cons_succ]
  refine heldIn (i := 3) (some 54) (v := ?_) rfl rfl (by kernel_rfl) (by kernel_rfl) (by kernel_rfl) (fun _ _ _ h => h) (by rfl) (by assumption) ?_ ?_
  rotate_left
  · intro w hSw
    try dsimp only at hSw
    go_simp
    try with_reducible rfl
  try simp only [Act.put, List.setIfInBounds_toArray, List.set_cons_zero, List.set_cons_succ]
  refine heldIn (i := 5) (some 56) (v := ?_) rfl rfl (by kernel_rfl) (by kernel_rfl) (by kernel_rfl) (fun _ _ _ h => h) (by rfl) (by assumption) ?_ ?_
  rotate_left
  · intro w hSw
    try dsimp only at hSw
    go_simp
    try with_reducible rfl
  try simp only [Act.put, List.setIfInBounds_toArray, List.set_cons_zero, List.set_cons_succ]
  refine wpAnyH_ready (rs := [4]) (by kernel_rfl) (by simp) ?_
  refine AllReadyH.cons rfl (fun K hK => ?_) AllReadyH.nil
  go_simp
  with_reducible refine (S1.out _).mono ?_
  rintro e wx ⟨rfl, rfl⟩
  go_wp2_with fail
  refine hK.out _ _ ?_ (fun hHeld => ?_)
  · assumption
  clear hK K
  try simp only [Act.put, List.setIfInBounds_toArray, List.set_cons_zero, List.set_cons_succ]
  refine wpAnyH_ready (rs := [6]) (by kernel_rfl) (by simp) ?_
  refine AllReadyH.cons rfl (fun K hK => ?_) AllReadyH.nil
  go_simp
  with_reducible refine (S2.out _).mono ?_
  rintro e wx ⟨rfl, rfl⟩
  go_wp2_with fail
  refine hK.out _ _ ?_ (fun hHeld => ?_)
  · assumption
  clear hK K
  try simp only [Act.put, List.setIfInBounds_toArray, List.set_cons_zero, List.set_cons_succ]
  refine heldIn (i := 7) (some 58) (v := ?_) rfl rfl (by kernel_rfl) (by kernel_rfl) (by kernel_rfl) (fun _ _ _ h => h) (by rfl) (by assumption) ?_ ?_
  rotate_left
  · intro w hSw
    try dsimp only at hSw
    go_simp
    try with_reducible rfl
  try simp only [Act.put, List.setIfInBounds_toArray, List.set_cons_zero, List.set_cons_succ]
  refine heldIn (i := 8) (some 59) (v := ?_) rfl rfl (by kernel_rfl) (by kernel_rfl) (by kernel_rfl) (fun _ _ _ h => h) (by rfl) (by assumption) ?_ ?_
  rotate_left
  · intro w hSw
    try dsimp only at hSw
    go_simp
    try with_reducible rfl
  try simp only [Act.put, List.setIfInBounds_toArray, List.set_cons_zero, List.set_cons_succ]
  refine heldIn (i := 9) (some 60) (v := ?_) rfl rfl (by kernel_rfl) (by kernel_rfl) (by kernel_rfl) (fun _ _ _ h => h) (by rfl) (by assumption) ?_ ?_
  rotate_left
  · intro w hSw
    try dsimp only at hSw
    go_simp
    try with_reducible rfl
  try simp only [Act.put, List.setIfInBounds_toArray, List.set_cons_zero, List.set_cons_succ]
  refine heldIn (i := 10) (some 61) (v := ?_) rfl rfl (by kernel_rfl) (by kernel_rfl) (by kernel_rfl) (fun _ _ _ h => h) (by rfl) (by assumption) ?_ ?_
  rotate_left
  · intro w hSw
    try dsimp only at hSw
    go_simp
    try with_reducible rfl
  try simp only [Act.put, List.setIfInBounds_toArray, List.set_cons_zero, List.set_cons_succ]
  refine heldIn (i := 11) (some 62) (v := ?_) rfl rfl (by kernel_rfl) (by kernel_rfl) (by kernel_rfl) (fun _ _ _ h => h) (by rfl) (by assumption) ?_ ?_
  rotate_left
  · intro w hSw
    try dsimp only at hSw
    go_simp
    try with_reducible rfl
  try simp only [Act.put, List.setIfInBounds_toArray, List.set_cons_zero, List.set_cons_succ]
  refine heldIn (i := 13) (some 64) (v := ?_) rfl rfl (by kernel_rfl) (by kernel_rfl) (by kernel_rfl) (fun _ _ _ h => h) (by rfl) (by assumption) ?_ ?_
  rotate_left
  · intro w hSw
    try dsimp only at hSw
    go_simp
    try with_reducible rfl
  try simp only [Act.put, List.setIfInBounds_toArray, List.set_cons_zero, List.set_cons_succ]
  refine wpAnyH_ready (rs := [12]) (by kernel_rfl) (by simp) ?_
  refine AllReadyH.cons rfl (fun K hK => ?_) AllReadyH.nil
  go_simp
  with_reducible refine (HL.out _).mono ?_
  rintro e w3 ⟨rfl, hb3⟩
  have HM := chain (Lib.hid (Below.refl ((w2.alloc (.cells #[.int .u8 3, .int .i64 0, .int .u64 (c : Int), .string ⟨#[]⟩] 24)).alloc (.cells #[.int .u8 3, .int .i64 0, .int .u64 (d : Int), .string ⟨#[]⟩] 24)).heap.size ((w2.alloc (.cells #[.int .u8 3, .int .i64 0, .int .u64 (c : Int), .string ⟨#[]⟩] 24)).alloc (.cells #[.int .u8 3, .int .i64 0, .int .u64 (d : Int), .string ⟨#[]⟩] 24)))) hb3 ⟨rfl, rfl, rfl, Nat.le_refl _, fun _ _ => rfl⟩
  clear hb3
  go_wp2_with fail
  refine hK.out _ _ ?_ (fun hHeld => ?_)
  · exact HK.out _ HM.out
  clear hK K
  try simp only [Act.put, List.setIfInBounds_toArray, List.set_cons_zero, List.set_cons_succ]
  refine wpAnyH_ready (rs := [14]) (by kernel_rfl) (by simp) ?_
  refine AllReadyH.cons rfl (fun K hK => ?_) AllReadyH.nil
  go_simp
  with_reducible refine (S1.out _).mono ?_
  rintro e wx ⟨rfl, rfl⟩
  go_wp2_with fail
  refine hK.out _ _ ?_ (fun hHeld => ?_)
  · assumption
  clear hK K
  try simp only [Act.put, List.setIfInBounds_toArray, List.set_cons_zero, List.set_cons_succ]
  refine heldIn (i := 15) (some 66) (v := ?_) rfl rfl (by kernel_rfl) (by kernel_rfl) (by kernel_rfl) (fun _ _ _ h => h) (by rfl) (by assumption) ?_ ?_
  rotate_left
  · intro w hSw
    try dsimp only at hSw
    go_simp
    try with_reducible rfl
  try simp only [Act.put, List.setIfInBounds_toArray, List.set_cons_zero, List.set_cons_succ]
  refine heldUn (i := 16) (some 67) rfl rfl (by kernel_rfl) (by kernel_rfl) (by kernel_rfl) (fun _ _ _ h => h) ?_ (by assumption) ?_
  · go_simp
  try simp only [Act.put, List.setIfInBounds_toArray, List.set_cons_zero, List.set_cons_succ]
  refine heldUn (i := 17) (some 68) rfl rfl (by kernel_rfl) (by kernel_rfl) (by kernel_rfl) (fun _ _ _ h => h) ?_ (by assumption) ?_
  · go_simp
  try simp only [Act.put, List.setIfInBounds_toArray, List.set_cons_zero, List.set_cons_succ]
  refine heldUn (i := 18) (some 69) rfl rfl (by kernel_rfl) (by kernel_rfl) (by kernel_rfl) (fun _ _ _ h => h) ?_ (by assumption) ?_
  · go_simp
  try simp only [Act.put, List.setIfInBounds_toArray, List.set_cons_zero, List.set_cons_succ]
  refine heldIn (i := 19) (some 70) (v := ?_) rfl rfl (by kernel_rfl) (by kernel_rfl) (by kernel_rfl) (fun _ _ _ h => h) (by rfl) (by assumption) ?_ ?_
  rotate_left
  · intro w hSw
    try dsimp only at hSw
    go_simp
    try with_reducible rfl
  try simp only [Act.put, List.setIfInBounds_toArray, List.set_cons_zero, List.set_cons_succ]
  refine heldIn (i := 20) (some 71) (v := ?_) rfl rfl (by kernel_rfl) (by kernel_rfl) (by kernel_rfl) (fun _ _ _ h => h) (by rfl) (by assumption) ?_ ?_
  rotate_left
  · intro w hSw
    try dsimp only at hSw
    go_simp
    try with_reducible rfl
  try simp only [Act.put, List.setIfInBounds_toArray, List.set_cons_zero, List.set_cons_succ]
  refine heldIn (i := 21) (some 72) (v := ?_) rfl rfl (by kernel_rfl) (by kernel_rfl) (by kernel_rfl) (fun _ _ _ h => h) (by rfl) (by assumption) ?_ ?_
  rotate_left
  · intro w hSw
    try dsimp only at hSw
    go_simp
    try with_reducible rfl
  try simp only [Act.put, List.setIfInBounds_toArray, List.set_cons_zero, List.set_cons_succ]
  refine heldIn (i := 22) (some 73) (v := ?_) rfl rfl (by kernel_rfl) (by kernel_rfl) (by kernel_rfl) (fun _ _ _ h => h) (by rfl) (by assumption) ?_ ?_
  rotate_left
  · intro w hSw
    try dsimp only at hSw
    go_simp
    try with_reducible rfl
  try simp only [Act.put, List.setIfInBounds_toArray, List.set_cons_zero, List.set_cons_succ]
  refine wpAnyH_ready (rs := [23]) (by kernel_rfl) (by simp) ?_
  refine AllReadyH.cons rfl (fun K hK => ?_) AllReadyH.nil
  go_simp
  with_reducible refine (AL.out _ (TB.out _ HM.out)).mono ?_
  rintro e w4 ⟨rfl, hb4⟩
  have HN := chain HM hb4 (Below.refl _ _)
  clear hb4
  go_wp2_with fail
  refine hK.out _ _ ?_ (fun hHeld => ?_)
  · exact HK.out _ HN.out
  clear hK K
  try simp only [Act.put, List.setIfInBounds_toArray, List.set_cons_zero, List.set_cons_succ]
  refine heldIn (i := 24) (some 75) (v := ?_) rfl rfl (by kernel_rfl) (by kernel_rfl) (by kernel_rfl) (fun _ _ _ h => h) (by rfl) (by assumption) ?_ ?_
  rotate_left
  · intro w hSw
    try dsimp only at hSw
    go_simp
    try with_reducible rfl
  try simp only [Act.put, List.setIfInBounds_toArray, List.set_cons_zero, List.set_cons_succ]
  refine heldIn (i := 25) (some 4) (v := ?_) rfl rfl (by kernel_rfl) (by kernel_rfl) (by kernel_rfl) (fun _ _ _ h => h) (by rfl) (by assumption) ?_ ?_
  rotate_left
  · intro w hSw
    try dsimp only at hSw
    go_simp
    try with_reducible rfl
  try simp only [Act.put, List.setIfInBounds_toArray, List.set_cons_zero, List.set_cons_succ]
  refine wpAnyH_done (by kernel_rfl) ?_ _
  go_wp2
  go_ret
  exact ⟨rfl, (chain GP HN.out (Below.refl _ _)).out⟩
set_option maxRecDepth 40000 in
set_option maxHeartbeats 2000000 in
theorem w_11 (f g : Nat) (c d : Nat) (w : World) (hT : Tabs w) (R1 : Hid (∀ W, Calls Tryd.prog 18 #[.float .f64 f] W fun e w' => e = .returned (.agg #[.int .u8 3, .int .i64 0, .int .u64 (c : Int), .string ⟨#[]⟩]) ∧ Below W.heap.size W w')) (R2 : Hid (∀ W, Calls Tryd.prog 18 #[.float .f64 g] W fun e w' => e = .returned (.agg #[.int .u8 3, .int .i64 0, .int .u64 (d : Int), .string ⟨#[]⟩]) ∧ Below W.heap.size W w')) (HL : Hid (∀ W, Calls Tryd.prog 24 #[.agg #[.int .u8 3, .int .i64 0, .int .u64 (c : Int), .string ⟨#[]⟩], .agg #[.int .u8 3, .int .i64 0, .int .u64 (d : Int), .string ⟨#[]⟩]] W fun e w' => e = .returned (.bool false) ∧ Below W.heap.size W w')) (AL : Hid (∀ W, Tabs W → Calls Tryd.prog 8 #[] W fun e w' => e = .returned (.bool true) ∧ Below W.heap.size W w')) (hE : eqI 3 0 c ⟨#[]⟩ 3 0 d ⟨#[]⟩ = true) (_n1 : (FloatKind.f64.format.order f f != some .eq) = false) (_n2 : (FloatKind.f64.format.order f f == some .eq) = true) (_n3 : (FloatKind.f64.format.order g g != some .eq) = false) (_n4 : (FloatKind.f64.format.order g g == some .eq) = true) (o1 : (FloatKind.f64.format.order f g == some .eq) = true) (S1 : Hid (∀ W, Calls Tryd.prog 27 #[.float .f64 f] W fun e w' => e = .returned (.bool true) ∧ W = w')) (S2 : Hid (∀ W, Calls Tryd.prog 27 #[.float .f64 g] W fun e w' => e = .returned (.bool true) ∧ W = w')) :
    Calls Tryd.prog 6 #[.float .f64 f, .float .f64 g] w fun e w' => e = .returned (.bool true) ∧ Below w.heap.size w w' := by
  have HT := Lib.hid hT
  have he := run_eqI 3 0 c ⟨#[]⟩ 3 0 d ⟨#[]⟩
  have hn := run_neI 3 0 c ⟨#[]⟩ 3 0 d ⟨#[]⟩
  rw [hE] at he hn
  clear hE hT
  go_enter Tryd.func6, Tryd.ntmps6
  go_wp2_with fail
  refine (R1.out _).mono ?_
  rintro e w1 ⟨rfl, hb1⟩
  have G1 := Lib.hid hb1
  clear hb1
  go_wp2_with fail
  refine (R2.out _).mono ?_
  rintro e w2 ⟨rfl, hb2⟩
  have G2 := chain G1 hb2 (Below.refl _ _)
  have GA : Hid (Below w2.heap.size w2 ((w2.alloc (.cells #[.int .u8 3, .int .i64 0, .int .u64 (c : Int), .string ⟨#[]⟩] 24)).alloc (.cells #[.int .u8 3, .int .i64 0, .int .u64 (d : Int), .string ⟨#[]⟩] 24))) := Lib.hid (((Below.refl _ _).alloc (Nat.le_refl _) _).alloc (by simp) _)
  clear hb2 G1
  go_wp2_with fail
  have HK : Hid (∀ W, Below ((w2.alloc (.cells #[.int .u8 3, .int .i64 0, .int .u64 (c : Int), .string ⟨#[]⟩] 24)).alloc (.cells #[.int .u8 3, .int .i64 0, .int .u64 (d : Int), .string ⟨#[]⟩] 24)).heap.size ((w2.alloc (.cells #[.int .u8 3, .int .i64 0, .int .u64 (c : Int), .string ⟨#[]⟩] 24)).alloc (.cells #[.int .u8 3, .int .i64 0, .int .u64 (d : Int), .string ⟨#[]⟩] 24)) W → (fun W => W.cell? ⟨w2.heap.size, 0, none⟩ = some (.int .u8 3) ∧ W.cell? ⟨w2.heap.size, 1, none⟩ = some (.int .i64 0) ∧ W.cell? ⟨w2.heap.size, 2, none⟩ = some (.int .u64 (c : Int)) ∧ W.cell? ⟨w2.heap.size, 3, none⟩ = some (.string ⟨#[]⟩) ∧ W.cell? ⟨w2.heap.size + 1, 0, none⟩ = some (.int .u8 3) ∧ W.cell? ⟨w2.heap.size + 1, 1, none⟩ = some (.int .i64 0) ∧ W.cell? ⟨w2.heap.size + 1, 2, none⟩ = some (.int .u64 (d : Int)) ∧ W.cell? ⟨w2.heap.size + 1, 3, none⟩ = some (.string ⟨#[]⟩)) W) := Lib.hid fun W hW => by
    obtain ⟨e1, e2⟩ := two_blocks w2 W (.cells #[.int .u8 3, .int .i64 0, .int .u64 (c : Int), .string ⟨#[]⟩] 24) (.cells #[.int .u8 3, .int .i64 0, .int .u64 (d : Int), .string ⟨#[]⟩] 24) hW
    refine ⟨?_, ?_, ?_, ?_, ?_, ?_, ?_, ?_⟩ <;> (unfold World.cell?; first | (rw [e1]; rfl) | (rw [e2]; rfl))
  have GP : Hid (Below w.heap.size w ((w2.alloc (.cells #[.int .u8 3, .int .i64 0, .int .u64 (c : Int), .string ⟨#[]⟩] 24)).alloc (.cells #[.int .u8 3, .int .i64 0, .int .u64 (d : Int), .string ⟨#[]⟩] 24))) := chain G2 GA.out (Below.refl _ _)
  have TB : Hid (∀ W, Below ((w2.alloc (.cells #[.int .u8 3, .int .i64 0, .int .u64 (c : Int), .string ⟨#[]⟩] 24)).alloc (.cells #[.int .u8 3, .int .i64 0, .int .u64 (d : Int), .string ⟨#[]⟩] 24)).heap.size ((w2.alloc (.cells #[.int .u8 3, .int .i64 0, .int .u64 (c : Int), .string ⟨#[]⟩] 24)).alloc (.cells #[.int .u8 3, .int .i64 0, .int .u64 (d : Int), .string ⟨#[]⟩] 24)) W → Tabs W) := Lib.hid fun W h => HT.out.keep (chain GP h (Below.refl _ _)).out
  refine wp_region_held_drew (S := fun W => W.cell? ⟨w2.heap.size, 0, none⟩ = some (.int .u8 3) ∧ W.cell? ⟨w2.heap.size, 1, none⟩ = some (.int .i64 0) ∧ W.cell? ⟨w2.heap.size, 2, none⟩ = some (.int .u64 (c : Int)) ∧ W.cell? ⟨w2.heap.size, 3, none⟩ = some (.string ⟨#[]⟩) ∧ W.cell? ⟨w2.heap.size + 1, 0, none⟩ = some (.int .u8 3) ∧ W.cell? ⟨w2.heap.size + 1, 1, none⟩ = some (.int .i64 0) ∧ W.cell? ⟨w2.heap.size + 1, 2, none⟩ = some (.int .u64 (d : Int)) ∧ W.cell? ⟨w2.heap.size + 1, 3, none⟩ = some (.string ⟨#[]⟩)) (by kernel_rfl) ?_ (fun hHeld => ?_)
  · exact HK.out _ ⟨rfl, rfl, rfl, Nat.le_refl _, fun _ _ => rfl⟩
  refine heldIn (i := 0) (some 51) (v := ?_) rfl rfl (by kernel_rfl) (by kernel_rfl) (by kernel_rfl) (fun _ _ _ h => h) (by rfl) (by assumption) ?_ ?_
  rotate_left
  · intro w hSw
    try dsimp only at hSw
    go_simp
    try with_reducible rfl
  try simp only [Act.put, List.setIfInBounds_toArray, List.set_cons_zero, List.set_cons_succ]
  refine heldIn (i := 1) (some 52) (v := ?_) rfl rfl (by kernel_rfl) (by kernel_rfl) (by kernel_rfl) (fun _ _ _ h => h) (by rfl) (by assumption) ?_ ?_
  rotate_left
  · intro w hSw
    try dsimp only at hSw
    go_simp
    try with_reducible rfl
  try simp only [Act.put, List.setIfInBounds_toArray, List.set_cons_zero, List.set_cons_succ]
  refine heldIn (i := 2) (some 53) (v := ?_) rfl rfl (by kernel_rfl) (by kernel_rfl) (by kernel_rfl) (fun _ _ _ h => h) (by rfl) (by assumption) ?_ ?_
  rotate_left
  · intro w hSw
    try dsimp only at hSw
    go_simp
    try with_reducible rfl
  try simp only [Act.put, List.setIfInBounds_toArray, List.set_cons_zero, List.set_cons_succ]
  refine heldIn (i := 3) (some 54) (v := ?_) rfl rfl (by kernel_rfl) (by kernel_rfl) (by kernel_rfl) (fun _ _ _ h => h) (by rfl) (by assumption) ?_ ?_
  rotate_left
  · intro w hSw
    try dsimp only at hSw
    go_simp
    try with_reducible rfl
  try simp only [Act.put, List.setIfInBounds_toArray, List.set_cons_zero, List.set_cons_succ]
  refine heldIn (i := 5) (some 56) (v := ?_) rfl rfl (by kernel_rfl) (by kernel_rfl) (by kernel_rfl) (fun _ _ _ h => h) (by rfl) (by assumption) ?_ ?_
  rotate_left
  · intro w hSw
    try dsimp only at hSw
    go_simp
    try with_reducible rfl
  try simp only [Act.put, List.setIfInBounds_toArray, List.set_cons_zero, List.set_cons_succ]
  refine wpAnyH_ready (rs := [4]) (by kernel_rfl) (by simp) ?_
  refine AllReadyH.cons rfl (fun K hK => ?_) AllReadyH.nil
  go_simp
  with_reducible refine (S1.out _).mono ?_
  rintro e wx ⟨rfl, rfl⟩
  go_wp2_with fail
  refine hK.out _ _ ?_ (fun hHeld => ?_)
  · assumption
  clear hK K
  try simp only [Act.put, List.setIfInBounds_toArray, List.set_cons_zero, List.set_cons_succ]
  refine wpAnyH_ready (rs := [6]) (by kernel_rfl) (by simp) ?_
  refine AllReadyH.cons rfl (fun K hK => ?_) AllReadyH.nil
  go_simp
  with_reducible refine (S2.out _).mono ?_
  rintro e wx ⟨rfl, rfl⟩
  go_wp2_with fail
  refine hK.out _ _ ?_ (fun hHeld => ?_)
  · assumption
  clear hK K
  try simp only [Act.put, List.setIfInBounds_toArray, List.set_cons_zero, List.set_cons_succ]
  refine heldIn (i := 7) (some 58) (v := ?_) rfl rfl (by kernel_rfl) (by kernel_rfl) (by kernel_rfl) (fun _ _ _ h => h) (by rfl) (by assumption) ?_ ?_
  rotate_left
  · intro w hSw
    try dsimp only at hSw
    go_simp
    try with_reducible rfl
  try simp only [Act.put, List.setIfInBounds_toArray, List.set_cons_zero, List.set_cons_succ]
  refine heldIn (i := 8) (some 59) (v := ?_) rfl rfl (by kernel_rfl) (by kernel_rfl) (by kernel_rfl) (fun _ _ _ h => h) (by rfl) (by assumption) ?_ ?_
  rotate_left
  · intro w hSw
    try dsimp only at hSw
    go_simp
    try with_reducible rfl
  try simp only [Act.put, List.setIfInBounds_toArray, List.set_cons_zero, List.set_cons_succ]
  refine heldIn (i := 9) (some 60) (v := ?_) rfl rfl (by kernel_rfl) (by kernel_rfl) (by kernel_rfl) (fun _ _ _ h => h) (by rfl) (by assumption) ?_ ?_
  rotate_left
  · intro w hSw
    try dsimp only at hSw
    go_simp
    try with_reducible rfl
  try simp only [Act.put, List.setIfInBounds_toArray, List.set_cons_zero, List.set_cons_succ]
  refine heldIn (i := 10) (some 61) (v := ?_) rfl rfl (by kernel_rfl) (by kernel_rfl) (by kernel_rfl) (fun _ _ _ h => h) (by rfl) (by assumption) ?_ ?_
  rotate_left
  · intro w hSw
    try dsimp only at hSw
    go_simp
    try with_reducible rfl
  try simp only [Act.put, List.setIfInBounds_toArray, List.set_cons_zero, List.set_cons_succ]
  refine heldIn (i := 11) (some 62) (v := ?_) rfl rfl (by kernel_rfl) (by kernel_rfl) (by kernel_rfl) (fun _ _ _ h => h) (by rfl) (by assumption) ?_ ?_
  rotate_left
  · intro w hSw
    try dsimp only at hSw
    go_simp
    try with_reducible rfl
  try simp only [Act.put, List.setIfInBounds_toArray, List.set_cons_zero, List.set_cons_succ]
  refine heldIn (i := 13) (some 64) (v := ?_) rfl rfl (by kernel_rfl) (by kernel_rfl) (by kernel_rfl) (fun _ _ _ h => h) (by rfl) (by assumption) ?_ ?_
  rotate_left
  · intro w hSw
    try dsimp only at hSw
    go_simp
    try with_reducible rfl
  try simp only [Act.put, List.setIfInBounds_toArray, List.set_cons_zero, List.set_cons_succ]
  refine wpAnyH_ready (rs := [12]) (by kernel_rfl) (by simp) ?_
  refine AllReadyH.cons rfl (fun K hK => ?_) AllReadyH.nil
  go_simp
  with_reducible refine (HL.out _).mono ?_
  rintro e w3 ⟨rfl, hb3⟩
  have HM := chain (Lib.hid (Below.refl ((w2.alloc (.cells #[.int .u8 3, .int .i64 0, .int .u64 (c : Int), .string ⟨#[]⟩] 24)).alloc (.cells #[.int .u8 3, .int .i64 0, .int .u64 (d : Int), .string ⟨#[]⟩] 24)).heap.size ((w2.alloc (.cells #[.int .u8 3, .int .i64 0, .int .u64 (c : Int), .string ⟨#[]⟩] 24)).alloc (.cells #[.int .u8 3, .int .i64 0, .int .u64 (d : Int), .string ⟨#[]⟩] 24)))) hb3 ⟨rfl, rfl, rfl, Nat.le_refl _, fun _ _ => rfl⟩
  clear hb3
  go_wp2_with fail
  refine hK.out _ _ ?_ (fun hHeld => ?_)
  · exact HK.out _ HM.out
  clear hK K
  try simp only [Act.put, List.setIfInBounds_toArray, List.set_cons_zero, List.set_cons_succ]
  refine wpAnyH_ready (rs := [14]) (by kernel_rfl) (by simp) ?_
  refine AllReadyH.cons rfl (fun K hK => ?_) AllReadyH.nil
  go_simp
  with_reducible refine (S1.out _).mono ?_
  rintro e wx ⟨rfl, rfl⟩
  go_wp2_with fail
  refine hK.out _ _ ?_ (fun hHeld => ?_)
  · assumption
  clear hK K
  try simp only [Act.put, List.setIfInBounds_toArray, List.set_cons_zero, List.set_cons_succ]
  refine heldIn (i := 15) (some 66) (v := ?_) rfl rfl (by kernel_rfl) (by kernel_rfl) (by kernel_rfl) (fun _ _ _ h => h) (by rfl) (by assumption) ?_ ?_
  rotate_left
  · intro w hSw
    try dsimp only at hSw
    go_simp
    try with_reducible rfl
  try simp only [Act.put, List.setIfInBounds_toArray, List.set_cons_zero, List.set_cons_succ]
  refine heldIn (i := 16) (some 67) (v := ?_) rfl rfl (by kernel_rfl) (by kernel_rfl) (by kernel_rfl) (fun _ _ _ h => h) (by rfl) (by assumption) ?_ ?_
  rotate_left
  · intro w hSw
    try dsimp only at hSw
    go_simp
    try with_reducible rfl
  try simp only [Act.put, List.setIfInBounds_toArray, List.set_cons_zero, List.set_cons_succ]
  refine wpAnyH_ready (rs := [17]) (by kernel_rfl) (by simp) ?_
  refine AllReadyH.cons rfl (fun K hK => ?_) AllReadyH.nil
  go_simp
  with_reducible refine (S2.out _).mono ?_
  rintro e wx ⟨rfl, rfl⟩
  go_wp2_with fail
  refine hK.out _ _ ?_ (fun hHeld => ?_)
  · assumption
  clear hK K
  try simp only [Act.put, List.setIfInBounds_toArray, List.set_cons_zero, List.set_cons_succ]
  refine heldIn (i := 18) (some 69) (v := ?_) rfl rfl (by kernel_rfl) (by kernel_rfl) (by kernel_rfl) (fun _ _ _ h => h) (by rfl) (by assumption) ?_ ?_
  rotate_left
  · intro w hSw
    try dsimp only at hSw
    go_simp
    try with_reducible rfl
  try simp only [Act.put, List.setIfInBounds_toArray, List.set_cons_zero, List.set_cons_succ]
  refine heldIn (i := 19) (some 70) (v := ?_) rfl rfl (by kernel_rfl) (by kernel_rfl) (by kernel_rfl) (fun _ _ _ h => h) (by rfl) (by assumption) ?_ ?_
  rotate_left
  · intro w hSw
    try dsimp only at hSw
    go_simp
    try with_reducible rfl
  try simp only [Act.put, List.setIfInBounds_toArray, List.set_cons_zero, List.set_cons_succ]
  refine heldIn (i := 20) (some 71) (v := ?_) rfl rfl (by kernel_rfl) (by kernel_rfl) (by kernel_rfl) (fun _ _ _ h => h) (by rfl) (by assumption) ?_ ?_
  rotate_left
  · intro w hSw
    try dsimp only at hSw
    go_simp
    try with_reducible rfl
  try simp only [Act.put, List.setIfInBounds_toArray, List.set_cons_zero, List.set_cons_succ]
  refine heldIn (i := 21) (some 72) (v := ?_) rfl rfl (by kernel_rfl) (by kernel_rfl) (by kernel_rfl) (fun _ _ _ h => h) (by rfl) (by assumption) ?_ ?_
  rotate_left
  · intro w hSw
    try dsimp only at hSw
    go_simp
    try with_reducible rfl
  try simp only [Act.put, List.setIfInBounds_toArray, List.set_cons_zero, List.set_cons_succ]
  refine heldIn (i := 22) (some 73) (v := ?_) rfl rfl (by kernel_rfl) (by kernel_rfl) (by kernel_rfl) (fun _ _ _ h => h) (by rfl) (by assumption) ?_ ?_
  rotate_left
  · intro w hSw
    try dsimp only at hSw
    go_simp
    try with_reducible rfl
  try simp only [Act.put, List.setIfInBounds_toArray, List.set_cons_zero, List.set_cons_succ]
  refine wpAnyH_ready (rs := [23]) (by kernel_rfl) (by simp) ?_
  refine AllReadyH.cons rfl (fun K hK => ?_) AllReadyH.nil
  go_simp
  with_reducible refine (AL.out _ (TB.out _ HM.out)).mono ?_
  rintro e w4 ⟨rfl, hb4⟩
  have HN := chain HM hb4 (Below.refl _ _)
  clear hb4
  go_wp2_with fail
  refine hK.out _ _ ?_ (fun hHeld => ?_)
  · exact HK.out _ HN.out
  clear hK K
  try simp only [Act.put, List.setIfInBounds_toArray, List.set_cons_zero, List.set_cons_succ]
  refine heldIn (i := 24) (some 75) (v := ?_) rfl rfl (by kernel_rfl) (by kernel_rfl) (by kernel_rfl) (fun _ _ _ h => h) (by rfl) (by assumption) ?_ ?_
  rotate_left
  · intro w hSw
    try dsimp only at hSw
    go_simp
    try with_reducible rfl
  try simp only [Act.put, List.setIfInBounds_toArray, List.set_cons_zero, List.set_cons_succ]
  refine heldIn (i := 25) (some 4) (v := ?_) rfl rfl (by kernel_rfl) (by kernel_rfl) (by kernel_rfl) (fun _ _ _ h => h) (by rfl) (by assumption) ?_ ?_
  rotate_left
  · intro w hSw
    try dsimp only at hSw
    go_simp
    try with_reducible rfl
  try simp only [Act.put, List.setIfInBounds_toArray, List.set_cons_zero, List.set_cons_succ]
  refine wpAnyH_done (by kernel_rfl) ?_ _
  go_wp2
  go_ret
  exact ⟨rfl, (chain GP HN.out (Below.refl _ _)).out⟩
set_option maxRecDepth 40000 in
set_option maxHeartbeats 2000000 in
theorem w_01 (f g : Nat) (c d : Nat) (w : World) (hT : Tabs w) (R1 : Hid (∀ W, Calls Tryd.prog 18 #[.float .f64 f] W fun e w' => e = .returned (.agg #[.int .u8 3, .int .i64 0, .int .u64 (c : Int), .string ⟨#[]⟩]) ∧ Below W.heap.size W w')) (R2 : Hid (∀ W, Calls Tryd.prog 18 #[.float .f64 g] W fun e w' => e = .returned (.agg #[.int .u8 3, .int .i64 0, .int .u64 (d : Int), .string ⟨#[]⟩]) ∧ Below W.heap.size W w')) (HL : Hid (∀ W, Calls Tryd.prog 24 #[.agg #[.int .u8 3, .int .i64 0, .int .u64 (c : Int), .string ⟨#[]⟩], .agg #[.int .u8 3, .int .i64 0, .int .u64 (d : Int), .string ⟨#[]⟩]] W fun e w' => e = .returned (.bool false) ∧ Below W.heap.size W w')) (AL : Hid (∀ W, Tabs W → Calls Tryd.prog 8 #[] W fun e w' => e = .returned (.bool true) ∧ Below W.heap.size W w')) (hE : eqI 3 0 c ⟨#[]⟩ 3 0 d ⟨#[]⟩ = false) (_n1 : (FloatKind.f64.format.order f f != some .eq) = false) (_n2 : (FloatKind.f64.format.order f f == some .eq) = true) (_n3 : (FloatKind.f64.format.order g g != some .eq) = false) (_n4 : (FloatKind.f64.format.order g g == some .eq) = true) (o1 : (FloatKind.f64.format.order f g == some .eq) = true) (S1 : Hid (∀ W, Calls Tryd.prog 27 #[.float .f64 f] W fun e w' => e = .returned (.bool false) ∧ W = w')) (S2 : Hid (∀ W, Calls Tryd.prog 27 #[.float .f64 g] W fun e w' => e = .returned (.bool true) ∧ W = w')) :
    Calls Tryd.prog 6 #[.float .f64 f, .float .f64 g] w fun e w' => e = .returned (.bool true) ∧ Below w.heap.size w w' := by
  have HT := Lib.hid hT
  have he := run_eqI 3 0 c ⟨#[]⟩ 3 0 d ⟨#[]⟩
  have hn := run_neI 3 0 c ⟨#[]⟩ 3 0 d ⟨#[]⟩
  rw [hE] at he hn
  clear hE hT
  go_enter Tryd.func6, Tryd.ntmps6
  go_wp2_with fail
  refine (R1.out _).mono ?_
  rintro e w1 ⟨rfl, hb1⟩
  have G1 := Lib.hid hb1
  clear hb1
  go_wp2_with fail
  refine (R2.out _).mono ?_
  rintro e w2 ⟨rfl, hb2⟩
  have G2 := chain G1 hb2 (Below.refl _ _)
  have GA : Hid (Below w2.heap.size w2 ((w2.alloc (.cells #[.int .u8 3, .int .i64 0, .int .u64 (c : Int), .string ⟨#[]⟩] 24)).alloc (.cells #[.int .u8 3, .int .i64 0, .int .u64 (d : Int), .string ⟨#[]⟩] 24))) := Lib.hid (((Below.refl _ _).alloc (Nat.le_refl _) _).alloc (by simp) _)
  clear hb2 G1
  go_wp2_with fail
  have HK : Hid (∀ W, Below ((w2.alloc (.cells #[.int .u8 3, .int .i64 0, .int .u64 (c : Int), .string ⟨#[]⟩] 24)).alloc (.cells #[.int .u8 3, .int .i64 0, .int .u64 (d : Int), .string ⟨#[]⟩] 24)).heap.size ((w2.alloc (.cells #[.int .u8 3, .int .i64 0, .int .u64 (c : Int), .string ⟨#[]⟩] 24)).alloc (.cells #[.int .u8 3, .int .i64 0, .int .u64 (d : Int), .string ⟨#[]⟩] 24)) W → (fun W => W.cell? ⟨w2.heap.size, 0, none⟩ = some (.int .u8 3) ∧ W.cell? ⟨w2.heap.size, 1, none⟩ = some (.int .i64 0) ∧ W.cell? ⟨w2.heap.size, 2, none⟩ = some (.int .u64 (c : Int)) ∧ W.cell? ⟨w2.heap.size, 3, none⟩ = some (.string ⟨#[]⟩) ∧ W.cell? ⟨w2.heap.size + 1, 0, none⟩ = some (.int .u8 3) ∧ W.cell? ⟨w2.heap.size + 1, 1, none⟩ = some (.int .i64 0) ∧ W.cell? ⟨w2.heap.size + 1, 2, none⟩ = some (.int .u64 (d : Int)) ∧ W.cell? ⟨w2.heap.size + 1, 3, none⟩ = some (.string ⟨#[]⟩)) W) := Lib.hid fun W hW => by
    obtain ⟨e1, e2⟩ := two_blocks w2 W (.cells #[.int .u8 3, .int .i64 0, .int .u64 (c : Int), .string ⟨#[]⟩] 24) (.cells #[.int .u8 3, .int .i64 0, .int .u64 (d : Int), .string ⟨#[]⟩] 24) hW
    refine ⟨?_, ?_, ?_, ?_, ?_, ?_, ?_, ?_⟩ <;> (unfold World.cell?; first | (rw [e1]; rfl) | (rw [e2]; rfl))
  have GP : Hid (Below w.heap.size w ((w2.alloc (.cells #[.int .u8 3, .int .i64 0, .int .u64 (c : Int), .string ⟨#[]⟩] 24)).alloc (.cells #[.int .u8 3, .int .i64 0, .int .u64 (d : Int), .string ⟨#[]⟩] 24))) := chain G2 GA.out (Below.refl _ _)
  have TB : Hid (∀ W, Below ((w2.alloc (.cells #[.int .u8 3, .int .i64 0, .int .u64 (c : Int), .string ⟨#[]⟩] 24)).alloc (.cells #[.int .u8 3, .int .i64 0, .int .u64 (d : Int), .string ⟨#[]⟩] 24)).heap.size ((w2.alloc (.cells #[.int .u8 3, .int .i64 0, .int .u64 (c : Int), .string ⟨#[]⟩] 24)).alloc (.cells #[.int .u8 3, .int .i64 0, .int .u64 (d : Int), .string ⟨#[]⟩] 24)) W → Tabs W) := Lib.hid fun W h => HT.out.keep (chain GP h (Below.refl _ _)).out
  refine wp_region_held_drew (S := fun W => W.cell? ⟨w2.heap.size, 0, none⟩ = some (.int .u8 3) ∧ W.cell? ⟨w2.heap.size, 1, none⟩ = some (.int .i64 0) ∧ W.cell? ⟨w2.heap.size, 2, none⟩ = some (.int .u64 (c : Int)) ∧ W.cell? ⟨w2.heap.size, 3, none⟩ = some (.string ⟨#[]⟩) ∧ W.cell? ⟨w2.heap.size + 1, 0, none⟩ = some (.int .u8 3) ∧ W.cell? ⟨w2.heap.size + 1, 1, none⟩ = some (.int .i64 0) ∧ W.cell? ⟨w2.heap.size + 1, 2, none⟩ = some (.int .u64 (d : Int)) ∧ W.cell? ⟨w2.heap.size + 1, 3, none⟩ = some (.string ⟨#[]⟩)) (by kernel_rfl) ?_ (fun hHeld => ?_)
  · exact HK.out _ ⟨rfl, rfl, rfl, Nat.le_refl _, fun _ _ => rfl⟩
  refine heldIn (i := 0) (some 51) (v := ?_) rfl rfl (by kernel_rfl) (by kernel_rfl) (by kernel_rfl) (fun _ _ _ h => h) (by rfl) (by assumption) ?_ ?_
  rotate_left
  · intro w hSw
    try dsimp only at hSw
    go_simp
    try with_reducible rfl
  try simp only [Act.put, List.setIfInBounds_toArray, List.set_cons_zero, List.set_cons_succ]
  refine heldIn (i := 1) (some 52) (v := ?_) rfl rfl (by kernel_rfl) (by kernel_rfl) (by kernel_rfl) (fun _ _ _ h => h) (by rfl) (by assumption) ?_ ?_
  rotate_left
  · intro w hSw
    try dsimp only at hSw
    go_simp
    try with_reducible rfl
  try simp only [Act.put, List.setIfInBounds_toArray, List.set_cons_zero, List.set_cons_succ]
  refine heldIn (i := 2) (some 53) (v := ?_) rfl rfl (by kernel_rfl) (by kernel_rfl) (by kernel_rfl) (fun _ _ _ h => h) (by rfl) (by assumption) ?_ ?_
  rotate_left
  · intro w hSw
    try dsimp only at hSw
    go_simp
    try with_reducible rfl
  try simp only [Act.put, List.setIfInBounds_toArray, List.set_cons_zero, List.set_cons_succ]
  refine heldIn (i := 3) (some 54) (v := ?_) rfl rfl (by kernel_rfl) (by kernel_rfl) (by kernel_rfl) (fun _ _ _ h => h) (by rfl) (by assumption) ?_ ?_
  rotate_left
  · intro w hSw
    try dsimp only at hSw
    go_simp
    try with_reducible rfl
  try simp only [Act.put, List.setIfInBounds_toArray, List.set_cons_zero, List.set_cons_succ]
  refine heldIn (i := 5) (some 56) (v := ?_) rfl rfl (by kernel_rfl) (by kernel_rfl) (by kernel_rfl) (fun _ _ _ h => h) (by rfl) (by assumption) ?_ ?_
  rotate_left
  · intro w hSw
    try dsimp only at hSw
    go_simp
    try with_reducible rfl
  try simp only [Act.put, List.setIfInBounds_toArray, List.set_cons_zero, List.set_cons_succ]
  refine wpAnyH_ready (rs := [4]) (by kernel_rfl) (by simp) ?_
  refine AllReadyH.cons rfl (fun K hK => ?_) AllReadyH.nil
  go_simp
  with_reducible refine (S1.out _).mono ?_
  rintro e wx ⟨rfl, rfl⟩
  go_wp2_with fail
  refine hK.out _ _ ?_ (fun hHeld => ?_)
  · assumption
  clear hK K
  try simp only [Act.put, List.setIfInBounds_toArray, List.set_cons_zero, List.set_cons_succ]
  refine wpAnyH_ready (rs := [6]) (by kernel_rfl) (by simp) ?_
  refine AllReadyH.cons rfl (fun K hK => ?_) AllReadyH.nil
  go_simp
  with_reducible refine (S2.out _).mono ?_
  rintro e wx ⟨rfl, rfl⟩
  go_wp2_with fail
  refine hK.out _ _ ?_ (fun hHeld => ?_)
  · assumption
  clear hK K
  try simp only [Act.put, List.setIfInBounds_toArray, List.set_cons_zero, List.set_cons_succ]
  refine heldIn (i := 7) (some 58) (v := ?_) rfl rfl (by kernel_rfl) (by kernel_rfl) (by kernel_rfl) (fun _ _ _ h => h) (by rfl) (by assumption) ?_ ?_
  rotate_left
  · intro w hSw
    try dsimp only at hSw
    go_simp
    try with_reducible rfl
  try simp only [Act.put, List.setIfInBounds_toArray, List.set_cons_zero, List.set_cons_succ]
  refine heldIn (i := 8) (some 59) (v := ?_) rfl rfl (by kernel_rfl) (by kernel_rfl) (by kernel_rfl) (fun _ _ _ h => h) (by rfl) (by assumption) ?_ ?_
  rotate_left
  · intro w hSw
    try dsimp only at hSw
    go_simp
    try with_reducible rfl
  try simp only [Act.put, List.setIfInBounds_toArray, List.set_cons_zero, List.set_cons_succ]
  refine heldIn (i := 9) (some 60) (v := ?_) rfl rfl (by kernel_rfl) (by kernel_rfl) (by kernel_rfl) (fun _ _ _ h => h) (by rfl) (by assumption) ?_ ?_
  rotate_left
  · intro w hSw
    try dsimp only at hSw
    go_simp
    try with_reducible rfl
  try simp only [Act.put, List.setIfInBounds_toArray, List.set_cons_zero, List.set_cons_succ]
  refine heldIn (i := 10) (some 61) (v := ?_) rfl rfl (by kernel_rfl) (by kernel_rfl) (by kernel_rfl) (fun _ _ _ h => h) (by rfl) (by assumption) ?_ ?_
  rotate_left
  · intro w hSw
    try dsimp only at hSw
    go_simp
    try with_reducible rfl
  try simp only [Act.put, List.setIfInBounds_toArray, List.set_cons_zero, List.set_cons_succ]
  refine heldIn (i := 11) (some 62) (v := ?_) rfl rfl (by kernel_rfl) (by kernel_rfl) (by kernel_rfl) (fun _ _ _ h => h) (by rfl) (by assumption) ?_ ?_
  rotate_left
  · intro w hSw
    try dsimp only at hSw
    go_simp
    try with_reducible rfl
  try simp only [Act.put, List.setIfInBounds_toArray, List.set_cons_zero, List.set_cons_succ]
  refine heldIn (i := 13) (some 64) (v := ?_) rfl rfl (by kernel_rfl) (by kernel_rfl) (by kernel_rfl) (fun _ _ _ h => h) (by rfl) (by assumption) ?_ ?_
  rotate_left
  · intro w hSw
    try dsimp only at hSw
    go_simp
    try with_reducible rfl
  try simp only [Act.put, List.setIfInBounds_toArray, List.set_cons_zero, List.set_cons_succ]
  refine wpAnyH_ready (rs := [12]) (by kernel_rfl) (by simp) ?_
  refine AllReadyH.cons rfl (fun K hK => ?_) AllReadyH.nil
  go_simp
  with_reducible refine (HL.out _).mono ?_
  rintro e w3 ⟨rfl, hb3⟩
  have HM := chain (Lib.hid (Below.refl ((w2.alloc (.cells #[.int .u8 3, .int .i64 0, .int .u64 (c : Int), .string ⟨#[]⟩] 24)).alloc (.cells #[.int .u8 3, .int .i64 0, .int .u64 (d : Int), .string ⟨#[]⟩] 24)).heap.size ((w2.alloc (.cells #[.int .u8 3, .int .i64 0, .int .u64 (c : Int), .string ⟨#[]⟩] 24)).alloc (.cells #[.int .u8 3, .int .i64 0, .int .u64 (d : Int), .string ⟨#[]⟩] 24)))) hb3 ⟨rfl, rfl, rfl, Nat.le_refl _, fun _ _ => rfl⟩
  clear hb3
  go_wp2_with fail
  refine hK.out _ _ ?_ (fun hHeld => ?_)
  · exact HK.out _ HM.out
  clear hK K
  try simp only [Act.put, List.setIfInBounds_toArray, List.set_cons_zero, List.set_cons_succ]
  refine wpAnyH_ready (rs := [14]) (by kernel_rfl) (by simp) ?_
  refine AllReadyH.cons rfl (fun K hK => ?_) AllReadyH.nil
  go_simp
  with_reducible refine (S1.out _).mono ?_
  rintro e wx ⟨rfl, rfl⟩
  go_wp2_with fail
  refine hK.out _ _ ?_ (fun hHeld => ?_)
  · assumption
  clear hK K
  try simp only [Act.put, List.setIfInBounds_toArray, List.set_cons_zero, List.set_cons_succ]
  refine heldIn (i := 15) (some 66) (v := ?_) rfl rfl (by kernel_rfl) (by kernel_rfl) (by kernel_rfl) (fun _ _ _ h => h) (by rfl) (by assumption) ?_ ?_
  rotate_left
  · intro w hSw
    try dsimp only at hSw
    go_simp
    try with_reducible rfl
  try simp only [Act.put, List.setIfInBounds_toArray, List.set_cons_zero, List.set_cons_succ]
  refine heldUn (i := 16) (some 67) rfl rfl (by kernel_rfl) (by kernel_rfl) (by kernel_rfl) (fun _ _ _ h => h) ?_ (by assumption) ?_
  · go_simp
  try simp only [Act.put, List.setIfInBounds_toArray, List.set_cons_zero, List.set_cons_succ]
  refine heldUn (i := 17) (some 68) rfl rfl (by kernel_rfl) (by kernel_rfl) (by kernel_rfl) (fun _ _ _ h => h) ?_ (by assumption) ?_
  · go_simp
  try simp only [Act.put, List.setIfInBounds_toArray, List.set_cons_zero, List.set_cons_succ]
  refine heldUn (i := 18) (some 69) rfl rfl (by kernel_rfl) (by kernel_rfl) (by kernel_rfl) (fun _ _ _ h => h) ?_ (by assumption) ?_
  · go_simp
  try simp only [Act.put, List.setIfInBounds_toArray, List.set_cons_zero, List.set_cons_succ]
  refine heldIn (i := 19) (some 70) (v := ?_) rfl rfl (by kernel_rfl) (by kernel_rfl) (by kernel_rfl) (fun _ _ _ h => h) (by rfl) (by assumption) ?_ ?_
  rotate_left
  · intro w hSw
    try dsimp only at hSw
    go_simp
    try with_reducible rfl
  try simp only [Act.put, List.setIfInBounds_toArray, List.set_cons_zero, List.set_cons_succ]
  refine heldIn (i := 20) (some 71) (v := ?_) rfl rfl (by kernel_rfl) (by kernel_rfl) (by kernel_rfl) (fun _ _ _ h => h) (by rfl) (by assumption) ?_ ?_
  rotate_left
  · intro w hSw
    try dsimp only at hSw
    go_simp
    try with_reducible rfl
  try simp only [Act.put, List.setIfInBounds_toArray, List.set_cons_zero, List.set_cons_succ]
  refine heldIn (i := 21) (some 72) (v := ?_) rfl rfl (by kernel_rfl) (by kernel_rfl) (by kernel_rfl) (fun _ _ _ h => h) (by rfl) (by assumption) ?_ ?_
  rotate_left
  · intro w hSw
    try dsimp only at hSw
    go_simp
    try with_reducible rfl
  try simp only [Act.put, List.setIfInBounds_toArray, List.set_cons_zero, List.set_cons_succ]
  refine heldIn (i := 22) (some 73) (v := ?_) rfl rfl (by kernel_rfl) (by kernel_rfl) (by kernel_rfl) (fun _ _ _ h => h) (by rfl) (by assumption) ?_ ?_
  rotate_left
  · intro w hSw
    try dsimp only at hSw
    go_simp
    try with_reducible rfl
  try simp only [Act.put, List.setIfInBounds_toArray, List.set_cons_zero, List.set_cons_succ]
  refine wpAnyH_ready (rs := [23]) (by kernel_rfl) (by simp) ?_
  refine AllReadyH.cons rfl (fun K hK => ?_) AllReadyH.nil
  go_simp
  with_reducible refine (AL.out _ (TB.out _ HM.out)).mono ?_
  rintro e w4 ⟨rfl, hb4⟩
  have HN := chain HM hb4 (Below.refl _ _)
  clear hb4
  go_wp2_with fail
  refine hK.out _ _ ?_ (fun hHeld => ?_)
  · exact HK.out _ HN.out
  clear hK K
  try simp only [Act.put, List.setIfInBounds_toArray, List.set_cons_zero, List.set_cons_succ]
  refine heldIn (i := 24) (some 75) (v := ?_) rfl rfl (by kernel_rfl) (by kernel_rfl) (by kernel_rfl) (fun _ _ _ h => h) (by rfl) (by assumption) ?_ ?_
  rotate_left
  · intro w hSw
    try dsimp only at hSw
    go_simp
    try with_reducible rfl
  try simp only [Act.put, List.setIfInBounds_toArray, List.set_cons_zero, List.set_cons_succ]
  refine heldIn (i := 25) (some 4) (v := ?_) rfl rfl (by kernel_rfl) (by kernel_rfl) (by kernel_rfl) (fun _ _ _ h => h) (by rfl) (by assumption) ?_ ?_
  rotate_left
  · intro w hSw
    try dsimp only at hSw
    go_simp
    try with_reducible rfl
  try simp only [Act.put, List.setIfInBounds_toArray, List.set_cons_zero, List.set_cons_succ]
  refine wpAnyH_done (by kernel_rfl) ?_ _
  go_wp2
  go_ret
  exact ⟨rfl, (chain GP HN.out (Below.refl _ _)).out⟩
set_option maxRecDepth 40000 in
set_option maxHeartbeats 2000000 in
theorem w_10 (f g : Nat) (c d : Nat) (w : World) (hT : Tabs w) (R1 : Hid (∀ W, Calls Tryd.prog 18 #[.float .f64 f] W fun e w' => e = .returned (.agg #[.int .u8 3, .int .i64 0, .int .u64 (c : Int), .string ⟨#[]⟩]) ∧ Below W.heap.size W w')) (R2 : Hid (∀ W, Calls Tryd.prog 18 #[.float .f64 g] W fun e w' => e = .returned (.agg #[.int .u8 3, .int .i64 0, .int .u64 (d : Int), .string ⟨#[]⟩]) ∧ Below W.heap.size W w')) (HL : Hid (∀ W, Calls Tryd.prog 24 #[.agg #[.int .u8 3, .int .i64 0, .int .u64 (c : Int), .string ⟨#[]⟩], .agg #[.int .u8 3, .int .i64 0, .int .u64 (d : Int), .string ⟨#[]⟩]] W fun e w' => e = .returned (.bool true) ∧ Below W.heap.size W w')) (AL : Hid (∀ W, Tabs W → Calls Tryd.prog 8 #[] W fun e w' => e = .returned (.bool true) ∧ Below W.heap.size W w')) (hE : eqI 3 0 c ⟨#[]⟩ 3 0 d ⟨#[]⟩ = false) (_n1 : (FloatKind.f64.format.order f f != some .eq) = false) (_n2 : (FloatKind.f64.format.order f f == some .eq) = true) (_n3 : (FloatKind.f64.format.order g g != some .eq) = false) (_n4 : (FloatKind.f64.format.order g g == some .eq) = true) (o1 : (FloatKind.f64.format.order f g == some .eq) = true) (S1 : Hid (∀ W, Calls Tryd.prog 27 #[.float .f64 f] W fun e w' => e = .returned (.bool true) ∧ W = w')) (S2 : Hid (∀ W, Calls Tryd.prog 27 #[.float .f64 g] W fun e w' => e = .returned (.bool false) ∧ W = w')) :
    Calls Tryd.prog 6 #[.float .f64 f, .float .f64 g] w fun e w' => e = .returned (.bool true) ∧ Below w.heap.size w w' := by
  have HT := Lib.hid hT
  have he := run_eqI 3 0 c ⟨#[]⟩ 3 0 d ⟨#[]⟩
  have hn := run_neI 3 0 c ⟨#[]⟩ 3 0 d ⟨#[]⟩
  rw [hE] at he hn
  clear hE hT
  go_enter Tryd.func6, Tryd.ntmps6
  go_wp2_with fail
  refine (R1.out _).mono ?_
  rintro e w1 ⟨rfl, hb1⟩
  have G1 := Lib.hid hb1
  clear hb1
  go_wp2_with fail
  refine (R2.out _).mono ?_
  rintro e w2 ⟨rfl, hb2⟩
  have G2 := chain G1 hb2 (Below.refl _ _)
  have GA : Hid (Below w2.heap.size w2 ((w2.alloc (.cells #[.int .u8 3, .int .i64 0, .int .u64 (c : Int), .string ⟨#[]⟩] 24)).alloc (.cells #[.int .u8 3, .int .i64 0, .int .u64 (d : Int), .string ⟨#[]⟩] 24))) := Lib.hid (((Below.refl _ _).alloc (Nat.le_refl _) _).alloc (by simp) _)
  clear hb2 G1
  go_wp2_with fail
  have HK : Hid (∀ W, Below ((w2.alloc (.cells #[.int .u8 3, .int .i64 0, .int .u64 (c : Int), .string ⟨#[]⟩] 24)).alloc (.cells #[.int .u8 3, .int .i64 0, .int .u64 (d : Int), .string ⟨#[]⟩] 24)).heap.size ((w2.alloc (.cells #[.int .u8 3, .int .i64 0, .int .u64 (c : Int), .string ⟨#[]⟩] 24)).alloc (.cells #[.int .u8 3, .int .i64 0, .int .u64 (d : Int), .string ⟨#[]⟩] 24)) W → (fun W => W.cell? ⟨w2.heap.size, 0, none⟩ = some (.int .u8 3) ∧ W.cell? ⟨w2.heap.size, 1, none⟩ = some (.int .i64 0) ∧ W.cell? ⟨w2.heap.size, 2, none⟩ = some (.int .u64 (c : Int)) ∧ W.cell? ⟨w2.heap.size, 3, none⟩ = some (.string ⟨#[]⟩) ∧ W.cell? ⟨w2.heap.size + 1, 0, none⟩ = some (.int .u8 3) ∧ W.cell? ⟨w2.heap.size + 1, 1, none⟩ = some (.int .i64 0) ∧ W.cell? ⟨w2.heap.size + 1, 2, none⟩ = some (.int .u64 (d : Int)) ∧ W.cell? ⟨w2.heap.size + 1, 3, none⟩ = some (.string ⟨#[]⟩)) W) := Lib.hid fun W hW => by
    obtain ⟨e1, e2⟩ := two_blocks w2 W (.cells #[.int .u8 3, .int .i64 0, .int .u64 (c : Int), .string ⟨#[]⟩] 24) (.cells #[.int .u8 3, .int .i64 0, .int .u64 (d : Int), .string ⟨#[]⟩] 24) hW
    refine ⟨?_, ?_, ?_, ?_, ?_, ?_, ?_, ?_⟩ <;> (unfold World.cell?; first | (rw [e1]; rfl) | (rw [e2]; rfl))
  have GP : Hid (Below w.heap.size w ((w2.alloc (.cells #[.int .u8 3, .int .i64 0, .int .u64 (c : Int), .string ⟨#[]⟩] 24)).alloc (.cells #[.int .u8 3, .int .i64 0, .int .u64 (d : Int), .string ⟨#[]⟩] 24))) := chain G2 GA.out (Below.refl _ _)
  have TB : Hid (∀ W, Below ((w2.alloc (.cells #[.int .u8 3, .int .i64 0, .int .u64 (c : Int), .string ⟨#[]⟩] 24)).alloc (.cells #[.int .u8 3, .int .i64 0, .int .u64 (d : Int), .string ⟨#[]⟩] 24)).heap.size ((w2.alloc (.cells #[.int .u8 3, .int .i64 0, .int .u64 (c : Int), .string ⟨#[]⟩] 24)).alloc (.cells #[.int .u8 3, .int .i64 0, .int .u64 (d : Int), .string ⟨#[]⟩] 24)) W → Tabs W) := Lib.hid fun W h => HT.out.keep (chain GP h (Below.refl _ _)).out
  refine wp_region_held_drew (S := fun W => W.cell? ⟨w2.heap.size, 0, none⟩ = some (.int .u8 3) ∧ W.cell? ⟨w2.heap.size, 1, none⟩ = some (.int .i64 0) ∧ W.cell? ⟨w2.heap.size, 2, none⟩ = some (.int .u64 (c : Int)) ∧ W.cell? ⟨w2.heap.size, 3, none⟩ = some (.string ⟨#[]⟩) ∧ W.cell? ⟨w2.heap.size + 1, 0, none⟩ = some (.int .u8 3) ∧ W.cell? ⟨w2.heap.size + 1, 1, none⟩ = some (.int .i64 0) ∧ W.cell? ⟨w2.heap.size + 1, 2, none⟩ = some (.int .u64 (d : Int)) ∧ W.cell? ⟨w2.heap.size + 1, 3, none⟩ = some (.string ⟨#[]⟩)) (by kernel_rfl) ?_ (fun hHeld => ?_)
  · exact HK.out _ ⟨rfl, rfl, rfl, Nat.le_refl _, fun _ _ => rfl⟩
  refine heldIn (i := 0) (some 51) (v := ?_) rfl rfl (by kernel_rfl) (by kernel_rfl) (by kernel_rfl) (fun _ _ _ h => h) (by rfl) (by assumption) ?_ ?_
  rotate_left
  · intro w hSw
    try dsimp only at hSw
    go_simp
    try with_reducible rfl
  try simp only [Act.put, List.setIfInBounds_toArray, List.set_cons_zero, List.set_cons_succ]
  refine heldIn (i := 1) (some 52) (v := ?_) rfl rfl (by kernel_rfl) (by kernel_rfl) (by kernel_rfl) (fun _ _ _ h => h) (by rfl) (by assumption) ?_ ?_
  rotate_left
  · intro w hSw
    try dsimp only at hSw
    go_simp
    try with_reducible rfl
  try simp only [Act.put, List.setIfInBounds_toArray, List.set_cons_zero, List.set_cons_succ]
  refine heldIn (i := 2) (some 53) (v := ?_) rfl rfl (by kernel_rfl) (by kernel_rfl) (by kernel_rfl) (fun _ _ _ h => h) (by rfl) (by assumption) ?_ ?_
  rotate_left
  · intro w hSw
    try dsimp only at hSw
    go_simp
    try with_reducible rfl
  try simp only [Act.put, List.setIfInBounds_toArray, List.set_cons_zero, List.set_cons_succ]
  refine heldIn (i := 3) (some 54) (v := ?_) rfl rfl (by kernel_rfl) (by kernel_rfl) (by kernel_rfl) (fun _ _ _ h => h) (by rfl) (by assumption) ?_ ?_
  rotate_left
  · intro w hSw
    try dsimp only at hSw
    go_simp
    try with_reducible rfl
  try simp only [Act.put, List.setIfInBounds_toArray, List.set_cons_zero, List.set_cons_succ]
  refine heldIn (i := 5) (some 56) (v := ?_) rfl rfl (by kernel_rfl) (by kernel_rfl) (by kernel_rfl) (fun _ _ _ h => h) (by rfl) (by assumption) ?_ ?_
  rotate_left
  · intro w hSw
    try dsimp only at hSw
    go_simp
    try with_reducible rfl
  try simp only [Act.put, List.setIfInBounds_toArray, List.set_cons_zero, List.set_cons_succ]
  refine wpAnyH_ready (rs := [4]) (by kernel_rfl) (by simp) ?_
  refine AllReadyH.cons rfl (fun K hK => ?_) AllReadyH.nil
  go_simp
  with_reducible refine (S1.out _).mono ?_
  rintro e wx ⟨rfl, rfl⟩
  go_wp2_with fail
  refine hK.out _ _ ?_ (fun hHeld => ?_)
  · assumption
  clear hK K
  try simp only [Act.put, List.setIfInBounds_toArray, List.set_cons_zero, List.set_cons_succ]
  refine wpAnyH_ready (rs := [6]) (by kernel_rfl) (by simp) ?_
  refine AllReadyH.cons rfl (fun K hK => ?_) AllReadyH.nil
  go_simp
  with_reducible refine (S2.out _).mono ?_
  rintro e wx ⟨rfl, rfl⟩
  go_wp2_with fail
  refine hK.out _ _ ?_ (fun hHeld => ?_)
  · assumption
  clear hK K
  try simp only [Act.put, List.setIfInBounds_toArray, List.set_cons_zero, List.set_cons_succ]
  refine heldIn (i := 7) (some 58) (v := ?_) rfl rfl (by kernel_rfl) (by kernel_rfl) (by kernel_rfl) (fun _ _ _ h => h) (by rfl) (by assumption) ?_ ?_
  rotate_left
  · intro w hSw
    try dsimp only at hSw
    go_simp
    try with_reducible rfl
  try simp only [Act.put, List.setIfInBounds_toArray, List.set_cons_zero, List.set_cons_succ]
  refine heldIn (i := 8) (some 59) (v := ?_) rfl rfl (by kernel_rfl) (by kernel_rfl) (by kernel_rfl) (fun _ _ _ h => h) (by rfl) (by assumption) ?_ ?_
  rotate_left
  · intro w hSw
    try dsimp only at hSw
    go_simp
    try with_reducible rfl
  try simp only [Act.put, List.setIfInBounds_toArray, List.set_cons_zero, List.set_cons_succ]
  refine heldIn (i := 9) (some 60) (v := ?_) rfl rfl (by kernel_rfl) (by kernel_rfl) (by kernel_rfl) (fun _ _ _ h => h) (by rfl) (by assumption) ?_ ?_
  rotate_left
  · intro w hSw
    try dsimp only at hSw
    go_simp
    try with_reducible rfl
  try simp only [Act.put, List.setIfInBounds_toArray, List.set_cons_zero, List.set_cons_succ]
  refine heldIn (i := 10) (some 61) (v := ?_) rfl rfl (by kernel_rfl) (by kernel_rfl) (by kernel_rfl) (fun _ _ _ h => h) (by rfl) (by assumption) ?_ ?_
  rotate_left
  · intro w hSw
    try dsimp only at hSw
    go_simp
    try with_reducible rfl
  try simp only [Act.put, List.setIfInBounds_toArray, List.set_cons_zero, List.set_cons_succ]
  refine heldIn (i := 11) (some 62) (v := ?_) rfl rfl (by kernel_rfl) (by kernel_rfl) (by kernel_rfl) (fun _ _ _ h => h) (by rfl) (by assumption) ?_ ?_
  rotate_left
  · intro w hSw
    try dsimp only at hSw
    go_simp
    try with_reducible rfl
  try simp only [Act.put, List.setIfInBounds_toArray, List.set_cons_zero, List.set_cons_succ]
  refine heldIn (i := 13) (some 64) (v := ?_) rfl rfl (by kernel_rfl) (by kernel_rfl) (by kernel_rfl) (fun _ _ _ h => h) (by rfl) (by assumption) ?_ ?_
  rotate_left
  · intro w hSw
    try dsimp only at hSw
    go_simp
    try with_reducible rfl
  try simp only [Act.put, List.setIfInBounds_toArray, List.set_cons_zero, List.set_cons_succ]
  refine wpAnyH_ready (rs := [12]) (by kernel_rfl) (by simp) ?_
  refine AllReadyH.cons rfl (fun K hK => ?_) AllReadyH.nil
  go_simp
  with_reducible refine (HL.out _).mono ?_
  rintro e w3 ⟨rfl, hb3⟩
  have HM := chain (Lib.hid (Below.refl ((w2.alloc (.cells #[.int .u8 3, .int .i64 0, .int .u64 (c : Int), .string ⟨#[]⟩] 24)).alloc (.cells #[.int .u8 3, .int .i64 0, .int .u64 (d : Int), .string ⟨#[]⟩] 24)).heap.size ((w2.alloc (.cells #[.int .u8 3, .int .i64 0, .int .u64 (c : Int), .string ⟨#[]⟩] 24)).alloc (.cells #[.int .u8 3, .int .i64 0, .int .u64 (d : Int), .string ⟨#[]⟩] 24)))) hb3 ⟨rfl, rfl, rfl, Nat.le_refl _, fun _ _ => rfl⟩
  clear hb3
  go_wp2_with fail
  refine hK.out _ _ ?_ (fun hHeld => ?_)
  · exact HK.out _ HM.out
  clear hK K
  try simp only [Act.put, List.setIfInBounds_toArray, List.set_cons_zero, List.set_cons_succ]
  refine wpAnyH_ready (rs := [14]) (by kernel_rfl) (by simp) ?_
  refine AllReadyH.cons rfl (fun K hK => ?_) AllReadyH.nil
  go_simp
  with_reducible refine (S1.out _).mono ?_
  rintro e wx ⟨rfl, rfl⟩
  go_wp2_with fail
  refine hK.out _ _ ?_ (fun hHeld => ?_)
  · assumption
  clear hK K
  try simp only [Act.put, List.setIfInBounds_toArray, List.set_cons_zero, List.set_cons_succ]
  refine heldIn (i := 15) (some 66) (v := ?_) rfl rfl (by kernel_rfl) (by kernel_rfl) (by kernel_rfl) (fun _ _ _ h => h) (by rfl) (by assumption) ?_ ?_
  rotate_left
  · intro w hSw
    try dsimp only at hSw
    go_simp
    try with_reducible rfl
  try simp only [Act.put, List.setIfInBounds_toArray, List.set_cons_zero, List.set_cons_succ]
  refine heldIn (i := 16) (some 67) (v := ?_) rfl rfl (by kernel_rfl) (by kernel_rfl) (by kernel_rfl) (fun _ _ _ h => h) (by rfl) (by assumption) ?_ ?_
  rotate_left
  · intro w hSw
    try dsimp only at hSw
    go_simp
    try with_reducible rfl
  try simp only [Act.put, List.setIfInBounds_toArray, List.set_cons_zero, List.set_cons_succ]
  refine wpAnyH_ready (rs := [17]) (by kernel_rfl) (by simp) ?_
  refine AllReadyH.cons rfl (fun K hK => ?_) AllReadyH.nil
  go_simp
  with_reducible refine (S2.out _).mono ?_
  rintro e wx ⟨rfl, rfl⟩
  go_wp2_with fail
  refine hK.out _ _ ?_ (fun hHeld => ?_)
  · assumption
  clear hK K
  try simp only [Act.put, List.setIfInBounds_toArray, List.set_cons_zero, List.set_cons_succ]
  refine heldIn (i := 18) (some 69) (v := ?_) rfl rfl (by kernel_rfl) (by kernel_rfl) (by kernel_rfl) (fun _ _ _ h => h) (by rfl) (by assumption) ?_ ?_
  rotate_left
  · intro w hSw
    try dsimp only at hSw
    go_simp
    try with_reducible rfl
  try simp only [Act.put, List.setIfInBounds_toArray, List.set_cons_zero, List.set_cons_succ]
  refine heldIn (i := 19) (some 70) (v := ?_) rfl rfl (by kernel_rfl) (by kernel_rfl) (by kernel_rfl) (fun _ _ _ h => h) (by rfl) (by assumption) ?_ ?_
  rotate_left
  · intro w hSw
    try dsimp only at hSw
    go_simp
    try with_reducible rfl
  try simp only [Act.put, List.setIfInBounds_toArray, List.set_cons_zero, List.set_cons_succ]
  refine heldIn (i := 20) (some 71) (v := ?_) rfl rfl (by kernel_rfl) (by kernel_rfl) (by kernel_rfl) (fun _ _ _ h => h) (by rfl) (by assumption) ?_ ?_
  rotate_left
  · intro w hSw
    try dsimp only at hSw
    go_simp
    try with_reducible rfl
  try simp only [Act.put, List.setIfInBounds_toArray, List.set_cons_zero, List.set_cons_succ]
  refine heldIn (i := 21) (some 72) (v := ?_) rfl rfl (by kernel_rfl) (by kernel_rfl) (by kernel_rfl) (fun _ _ _ h => h) (by rfl) (by assumption) ?_ ?_
  rotate_left
  · intro w hSw
    try dsimp only at hSw
    go_simp
    try with_reducible rfl
  try simp only [Act.put, List.setIfInBounds_toArray, List.set_cons_zero, List.set_cons_succ]
  refine heldIn (i := 22) (some 73) (v := ?_) rfl rfl (by kernel_rfl) (by kernel_rfl) (by kernel_rfl) (fun _ _ _ h => h) (by rfl) (by assumption) ?_ ?_
  rotate_left
  · intro w hSw
    try dsimp only at hSw
    go_simp
    try with_reducible rfl
  try simp only [Act.put, List.setIfInBounds_toArray, List.set_cons_zero, List.set_cons_succ]
  refine wpAnyH_ready (rs := [23]) (by kernel_rfl) (by simp) ?_
  refine AllReadyH.cons rfl (fun K hK => ?_) AllReadyH.nil
  go_simp
  with_reducible refine (AL.out _ (TB.out _ HM.out)).mono ?_
  rintro e w4 ⟨rfl, hb4⟩
  have HN := chain HM hb4 (Below.refl _ _)
  clear hb4
  go_wp2_with fail
  refine hK.out _ _ ?_ (fun hHeld => ?_)
  · exact HK.out _ HN.out
  clear hK K
  try simp only [Act.put, List.setIfInBounds_toArray, List.set_cons_zero, List.set_cons_succ]
  refine heldIn (i := 24) (some 75) (v := ?_) rfl rfl (by kernel_rfl) (by kernel_rfl) (by kernel_rfl) (fun _ _ _ h => h) (by rfl) (by assumption) ?_ ?_
  rotate_left
  · intro w hSw
    try dsimp only at hSw
    go_simp
    try with_reducible rfl
  try simp only [Act.put, List.setIfInBounds_toArray, List.set_cons_zero, List.set_cons_succ]
  refine heldIn (i := 25) (some 4) (v := ?_) rfl rfl (by kernel_rfl) (by kernel_rfl) (by kernel_rfl) (fun _ _ _ h => h) (by rfl) (by assumption) ?_ ?_
  rotate_left
  · intro w hSw
    try dsimp only at hSw
    go_simp
    try with_reducible rfl
  try simp only [Act.put, List.setIfInBounds_toArray, List.set_cons_zero, List.set_cons_succ]
  refine wpAnyH_done (by kernel_rfl) ?_ _
  go_wp2
  go_ret
  exact ⟨rfl, (chain GP HN.out (Below.refl _ _)).out⟩
end Go.Proofs.YtjkfgchjdhgbgaaDoor.Vg
