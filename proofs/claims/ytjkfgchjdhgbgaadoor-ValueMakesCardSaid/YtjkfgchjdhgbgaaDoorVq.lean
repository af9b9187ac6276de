/- The walks of ValueMakes, a way each. -/
import Derived.Test.YtjkfgchjdhgbgaaDoorVh
import Derived.Deep.DrawnRows
namespace Go.Proofs.YtjkfgchjdhgbgaaDoor.Vq
open Go Go.RowKit Go.Proofs.YtjkfgchjdhgbgaaDoor.Vm Go.Proofs.YtjkfgchjdhgbgaaDoor.Vl Go.Proofs.YtjkfgchjdhgbgaaDoor.Ve Go.Proofs.YtjkfgchjdhgbgaaDoor.Vr Go.Proofs.YtjkfgchjdhgbgaaDoor.Vs Go.Proofs.YtjkfgchjdhgbgaaDoor.Vc Go.Proofs.YtjkfgchjdhgbgaaDoor.Vk
theorem self_eq (k n R : Int) (s : ByteArray) (w : World) : (binOp .eql 24 (.agg #[.int .u8 k, .int .i64 n, .int .u64 R, .string s]) (.agg #[.int .u8 k, .int .i64 n, .int .u64 R, .string s])).run Tryd.prog w = .ok (.bool true) w := by
  rw [run_eqI]; simp [eqI]
theorem self_ne (k n R : Int) (s : ByteArray) (w : World) : (binOp .neq 24 (.agg #[.int .u8 k, .int .i64 n, .int .u64 R, .string s]) (.agg #[.int .u8 k, .int .i64 n, .int .u64 R, .string s])).run Tryd.prog w = .ok (.bool false) w := by
  rw [run_neI]; simp [eqI]
set_option maxRecDepth 40000 in
set_option maxHeartbeats 2000000 in
theorem w_long_f (n c : Int) (f : Nat) (s : ByteArray) (w : World) (hT : Tabs w) (H0 : Hid (∀ W, Calls Tryd.prog 15 #[] W fun e w' => e = .returned (.agg #[.int .u8 0, .int .i64 0, .int .u64 0, .string ⟨#[]⟩]) ∧ Below W.heap.size W w')) (H2 : Hid (∀ W, Calls Tryd.prog 17 #[.int .i64 n] W fun e w' => e = .returned (.agg #[.int .u8 2, .int .i64 n, .int .u64 0, .string ⟨#[]⟩]) ∧ Below W.heap.size W w')) (H3 : Hid (∀ W, Calls Tryd.prog 18 #[.float .f64 f] W fun e w' => e = .returned (.agg #[.int .u8 3, .int .i64 0, .int .u64 c, .string ⟨#[]⟩]) ∧ Below W.heap.size W w')) (HC : Hid (∀ W, Calls Tryd.prog 19 #[.int .u64 (f : Int)] W fun e w' => e = .returned (.int .u64 c) ∧ W = w')) (AL : Hid (∀ W, Tabs W → Calls Tryd.prog 8 #[] W fun e w' => e = .returned (.bool true) ∧ Below W.heap.size W w')) (H1 : Hid (∀ W, Calls Tryd.prog 16 #[.bool false] W fun e w' => e = .returned (.agg #[.int .u8 1, .int .i64 0, .int .u64 0, .string ⟨#[]⟩]) ∧ Below W.heap.size W w')) (HB : Hid (∀ W, Calls Tryd.prog 21 #[.string s] W fun e w' => e = .returned (.tuple #[.agg #[.int .u8 0, .int .i64 0, .int .u64 0, .string ⟨#[]⟩], .int .i64 5]) ∧ Below W.heap.size W w')) (HS : Hid (∀ W, Tabs W → Calls Tryd.prog 22 #[.string s] W fun e w' => e = .returned (.tuple #[.agg #[.int .u8 0, .int .i64 0, .int .u64 0, .string ⟨#[]⟩], .int .i64 5]) ∧ Below W.heap.size W w')) (h1 : ¬ (16384 : Int) < (s.size : Int)) (h2 : (100 : Int) < (s.size : Int)) :
    Calls Tryd.prog 4 #[.bool false, .int .i64 n, .float .f64 f, .string s] w fun e w' => e = .returned (.bool true) ∧ Below w.heap.size w w' := by
  have HT := Lib.hid hT
  have hse := self_eq
  have hsn := self_ne
  have hfb := fun W => to_bits f W
  clear hT
  go_enter Tryd.func4, Tryd.ntmps4
  have P0 : Hid (Below w.heap.size w w) := Lib.hid (Below.refl _ _)
  go_wp2_with fail
  refine (H0.out _).mono ?_
  rintro e w1 ⟨rfl, hbx⟩
  have P1 := chain P0 hbx (Below.refl _ _)
  obtain ⟨hc1, _⟩ := bcell hbx
  clear hbx
  clear hc1
  go_wp2_with fail
  refine (H1.out _).mono ?_
  rintro e w2 ⟨rfl, hbx⟩
  have P2 := chain P1 hbx (Below.refl _ _)
  obtain ⟨hc2, _⟩ := bcell hbx
  clear hbx
  clear hc2
  go_wp2_with fail
  refine (H2.out _).mono ?_
  rintro e w3 ⟨rfl, hbx⟩
  have P3 := chain P2 hbx (Below.refl _ _)
  obtain ⟨hc3, _⟩ := bcell hbx
  clear hbx
  clear hc3
  go_wp2_with fail
  refine (H3.out _).mono ?_
  rintro e w4 ⟨rfl, hbx⟩
  have P4 := chain P3 hbx (Below.refl _ _)
  obtain ⟨hc4, _⟩ := bcell hbx
  clear hbx
  clear hc4
  go_wp2_with fail
  refine (HC.out _).mono ?_
  rintro e wx ⟨rfl, rfl⟩
  go_wp2_with fail
  refine (HB.out _).mono ?_
  rintro e w5 ⟨rfl, hbx⟩
  have P5 := chain P4 hbx (Below.refl _ _)
  obtain ⟨hc5, _⟩ := bcell hbx
  clear hbx
  clear hc5
  have T5 : Hid (Tabs (w5.alloc (.cells #[.int .u8 0, .int .i64 0, .int .u64 0, .string ⟨#[]⟩] 24))) := Lib.hid ((HT.out.keep P5.out).keep ((Below.refl _ _).alloc (Nat.le_refl _) _))
  go_wp2_with fail
  refine (HS.out _ T5.out).mono ?_
  rintro e w6 ⟨rfl, hbx⟩
  have P6 := chain P5 hbx ((Below.refl _ _).alloc (Nat.le_refl _) _)
  have z6 : w5.heap.size < w6.heap.size := by have := hbx.size; simp at this; omega
  have e6 : w6.heap[w5.heap.size]? = some (.cells #[.int .u8 0, .int .i64 0, .int .u64 0, .string ⟨#[]⟩] 24) := (hbx.block _ (by simp)).trans (heap_alloc_new w5 _)
  have MK : Hid (∀ W, Below (w6.alloc (.cells #[.int .u8 0, .int .i64 0, .int .u64 0, .string ⟨#[]⟩] 24)).heap.size (w6.alloc (.cells #[.int .u8 0, .int .i64 0, .int .u64 0, .string ⟨#[]⟩] 24)) W → (W.cell? ⟨w5.heap.size, 0, none⟩ = some (.int .u8 0) ∧ W.cell? ⟨w5.heap.size, 1, none⟩ = some (.int .i64 0) ∧ W.cell? ⟨w5.heap.size, 2, none⟩ = some (.int .u64 0) ∧ W.cell? ⟨w5.heap.size, 3, none⟩ = some (.string ⟨#[]⟩)) ∧ (W.cell? ⟨w6.heap.size, 0, none⟩ = some (.int .u8 0) ∧ W.cell? ⟨w6.heap.size, 1, none⟩ = some (.int .i64 0) ∧ W.cell? ⟨w6.heap.size, 2, none⟩ = some (.int .u64 0) ∧ W.cell? ⟨w6.heap.size, 3, none⟩ = some (.string ⟨#[]⟩))) := Lib.hid fun W hW => by
    have s6 : (w6.alloc (.cells #[.int .u8 0, .int .i64 0, .int .u64 0, .string ⟨#[]⟩] 24)).heap.size = w6.heap.size + 1 := by simp
    have f5 : W.heap[w5.heap.size]? = some (.cells #[.int .u8 0, .int .i64 0, .int .u64 0, .string ⟨#[]⟩] 24) := (hW.block _ (by omega)).trans ((Below.heap_alloc w6 _ _ z6).trans e6)
    have f6 : W.heap[w6.heap.size]? = some (.cells #[.int .u8 0, .int .i64 0, .int .u64 0, .string ⟨#[]⟩] 24) := (hW.block _ (by omega)).trans (heap_alloc_new w6 _)
    refine ⟨⟨?_, ?_, ?_, ?_⟩, ?_, ?_, ?_, ?_⟩ <;> (unfold World.cell?; first | (rw [f5]; rfl) | (rw [f6]; rfl))
  have P6a := chain P6 (Below.refl _ _) ((Below.refl w6.heap.size w6).alloc (Nat.le_refl _) (.cells #[.int .u8 0, .int .i64 0, .int .u64 0, .string ⟨#[]⟩] 24))
  have M6 : Hid (Below (w6.alloc (.cells #[.int .u8 0, .int .i64 0, .int .u64 0, .string ⟨#[]⟩] 24)).heap.size (w6.alloc (.cells #[.int .u8 0, .int .i64 0, .int .u64 0, .string ⟨#[]⟩] 24)) (w6.alloc (.cells #[.int .u8 0, .int .i64 0, .int .u64 0, .string ⟨#[]⟩] 24))) := Lib.hid (Below.refl _ _)
  obtain ⟨⟨b0, b1, b2, b3⟩, t0, t1, t2, t3⟩ := MK.out _ M6.out
  have T6 : Hid (Tabs (w6.alloc (.cells #[.int .u8 0, .int .i64 0, .int .u64 0, .string ⟨#[]⟩] 24))) := Lib.hid (HT.out.keep P6a.out)
  clear e6 z6
  clear hbx
  go_wp2_with fail
  refine (AL.out _ T6.out).mono ?_
  rintro e w7 ⟨rfl, hbx⟩
  have P7 := chain P6a hbx (Below.refl _ _)
  have M7 := chain M6 hbx (Below.refl _ _)
  clear b0 b1 b2 b3 t0 t1 t2 t3
  obtain ⟨⟨b0, b1, b2, b3⟩, t0, t1, t2, t3⟩ := MK.out _ M7.out
  have T7 : Hid (Tabs w7) := Lib.hid (HT.out.keep P7.out)
  clear hbx
  go_wp2
  go_ret
  exact ⟨rfl, P7.out⟩
set_option maxRecDepth 40000 in
set_option maxHeartbeats 2000000 in
theorem w_bad_f (n c : Int) (f : Nat) (s : ByteArray) (w : World) (hT : Tabs w) (H0 : Hid (∀ W, Calls Tryd.prog 15 #[] W fun e w' => e = .returned (.agg #[.int .u8 0, .int .i64 0, .int .u64 0, .string ⟨#[]⟩]) ∧ Below W.heap.size W w')) (H2 : Hid (∀ W, Calls Tryd.prog 17 #[.int .i64 n] W fun e w' => e = .returned (.agg #[.int .u8 2, .int .i64 n, .int .u64 0, .string ⟨#[]⟩]) ∧ Below W.heap.size W w')) (H3 : Hid (∀ W, Calls Tryd.prog 18 #[.float .f64 f] W fun e w' => e = .returned (.agg #[.int .u8 3, .int .i64 0, .int .u64 c, .string ⟨#[]⟩]) ∧ Below W.heap.size W w')) (HC : Hid (∀ W, Calls Tryd.prog 19 #[.int .u64 (f : Int)] W fun e w' => e = .returned (.int .u64 c) ∧ W = w')) (AL : Hid (∀ W, Tabs W → Calls Tryd.prog 8 #[] W fun e w' => e = .returned (.bool true) ∧ Below W.heap.size W w')) (H1 : Hid (∀ W, Calls Tryd.prog 16 #[.bool false] W fun e w' => e = .returned (.agg #[.int .u8 1, .int .i64 0, .int .u64 0, .string ⟨#[]⟩]) ∧ Below W.heap.size W w')) (HB : Hid (∀ W, Calls Tryd.prog 21 #[.string s] W fun e w' => e = .returned (.tuple #[.agg #[.int .u8 4, .int .i64 0, .int .u64 0, .string s], .int .i64 0]) ∧ Below W.heap.size W w')) (HS : Hid (∀ W, Tabs W → Calls Tryd.prog 22 #[.string s] W fun e w' => e = .returned (.tuple #[.agg #[.int .u8 0, .int .i64 0, .int .u64 0, .string ⟨#[]⟩], .int .i64 7]) ∧ Below W.heap.size W w')) (h1 : ¬ (16384 : Int) < (s.size : Int)) (h2 : ¬ (100 : Int) < (s.size : Int)) (HV : Hid (∀ W, Tabs W → Calls Tryd.prog 23 #[.string s] W fun e w' => e = .returned (.bool false) ∧ Below W.heap.size W w')) :
    Calls Tryd.prog 4 #[.bool false, .int .i64 n, .float .f64 f, .string s] w fun e w' => e = .returned (.bool true) ∧ Below w.heap.size w w' := by
  have HT := Lib.hid hT
  have hse := self_eq
  have hsn := self_ne
  have hfb := fun W => to_bits f W
  clear hT
  go_enter Tryd.func4, Tryd.ntmps4
  have P0 : Hid (Below w.heap.size w w) := Lib.hid (Below.refl _ _)
  go_wp2_with fail
  refine (H0.out _).mono ?_
  rintro e w1 ⟨rfl, hbx⟩
  have P1 := chain P0 hbx (Below.refl _ _)
  obtain ⟨hc1, _⟩ := bcell hbx
  clear hbx
  clear hc1
  go_wp2_with fail
  refine (H1.out _).mono ?_
  rintro e w2 ⟨rfl, hbx⟩
  have P2 := chain P1 hbx (Below.refl _ _)
  obtain ⟨hc2, _⟩ := bcell hbx
  clear hbx
  clear hc2
  go_wp2_with fail
  refine (H2.out _).mono ?_
  rintro e w3 ⟨rfl, hbx⟩
  have P3 := chain P2 hbx (Below.refl _ _)
  obtain ⟨hc3, _⟩ := bcell hbx
  clear hbx
  clear hc3
  go_wp2_with fail
  refine (H3.out _).mono ?_
  rintro e w4 ⟨rfl, hbx⟩
  have P4 := chain P3 hbx (Below.refl _ _)
  obtain ⟨hc4, _⟩ := bcell hbx
  clear hbx
  clear hc4
  go_wp2_with fail
  refine (HC.out _).mono ?_
  rintro e wx ⟨rfl, rfl⟩
  go_wp2_with fail
  refine (HB.out _).mono ?_
  rintro e w5 ⟨rfl, hbx⟩
  have P5 := chain P4 hbx (Below.refl _ _)
  obtain ⟨hc5, _⟩ := bcell hbx
  clear hbx
  clear hc5
  have T5 : Hid (Tabs (w5.alloc (.cells #[.int .u8 4, .int .i64 0, .int .u64 0, .string s] 24))) := Lib.hid ((HT.out.keep P5.out).keep ((Below.refl _ _).alloc (Nat.le_refl _) _))
  go_wp2_with fail
  refine (HS.out _ T5.out).mono ?_
  rintro e w6 ⟨rfl, hbx⟩
  have P6 := chain P5 hbx ((Below.refl _ _).alloc (Nat.le_refl _) _)
  have z6 : w5.heap.size < w6.heap.size := by have := hbx.size; simp at this; omega
  have e6 : w6.heap[w5.heap.size]? = some (.cells #[.int .u8 4, .int .i64 0, .int .u64 0, .string s] 24) := (hbx.block _ (by simp)).trans (heap_alloc_new w5 _)
  have MK : Hid (∀ W, Below (w6.alloc (.cells #[.int .u8 0, .int .i64 0, .int .u64 0, .string ⟨#[]⟩] 24)).heap.size (w6.alloc (.cells #[.int .u8 0, .int .i64 0, .int .u64 0, .string ⟨#[]⟩] 24)) W → (W.cell? ⟨w5.heap.size, 0, none⟩ = some (.int .u8 4) ∧ W.cell? ⟨w5.heap.size, 1, none⟩ = some (.int .i64 0) ∧ W.cell? ⟨w5.heap.size, 2, none⟩ = some (.int .u64 0) ∧ W.cell? ⟨w5.heap.size, 3, none⟩ = some (.string s)) ∧ (W.cell? ⟨w6.heap.size, 0, none⟩ = some (.int .u8 0) ∧ W.cell? ⟨w6.heap.size, 1, none⟩ = some (.int .i64 0) ∧ W.cell? ⟨w6.heap.size, 2, none⟩ = some (.int .u64 0) ∧ W.cell? ⟨w6.heap.size, 3, none⟩ = some (.string ⟨#[]⟩))) := Lib.hid fun W hW => by
    have s6 : (w6.alloc (.cells #[.int .u8 0, .int .i64 0, .int .u64 0, .string ⟨#[]⟩] 24)).heap.size = w6.heap.size + 1 := by simp
    have f5 : W.heap[w5.heap.size]? = some (.cells #[.int .u8 4, .int .i64 0, .int .u64 0, .string s] 24) := (hW.block _ (by omega)).trans ((Below.heap_alloc w6 _ _ z6).trans e6)
    have f6 : W.heap[w6.heap.size]? = some (.cells #[.int .u8 0, .int .i64 0, .int .u64 0, .string ⟨#[]⟩] 24) := (hW.block _ (by omega)).trans (heap_alloc_new w6 _)
    refine ⟨⟨?_, ?_, ?_, ?_⟩, ?_, ?_, ?_, ?_⟩ <;> (unfold World.cell?; first | (rw [f5]; rfl) | (rw [f6]; rfl))
  have P6a := chain P6 (Below.refl _ _) ((Below.refl w6.heap.size w6).alloc (Nat.le_refl _) (.cells #[.int .u8 0, .int .i64 0, .int .u64 0, .string ⟨#[]⟩] 24))
  have M6 : Hid (Below (w6.alloc (.cells #[.int .u8 0, .int .i64 0, .int .u64 0, .string ⟨#[]⟩] 24)).heap.size (w6.alloc (.cells #[.int .u8 0, .int .i64 0, .int .u64 0, .string ⟨#[]⟩] 24)) (w6.alloc (.cells #[.int .u8 0, .int .i64 0, .int .u64 0, .string ⟨#[]⟩] 24))) := Lib.hid (Below.refl _ _)
  obtain ⟨⟨b0, b1, b2, b3⟩, t0, t1, t2, t3⟩ := MK.out _ M6.out
  have T6 : Hid (Tabs (w6.alloc (.cells #[.int .u8 0, .int .i64 0, .int .u64 0, .string ⟨#[]⟩] 24))) := Lib.hid (HT.out.keep P6a.out)
  clear e6 z6
  clear hbx
  go_wp2_with fail
  refine (HV.out _ T6.out).mono ?_
  rintro e w7 ⟨rfl, hbx⟩
  have P7 := chain P6a hbx (Below.refl _ _)
  have M7 := chain M6 hbx (Below.refl _ _)
  clear b0 b1 b2 b3 t0 t1 t2 t3
  obtain ⟨⟨b0, b1, b2, b3⟩, t0, t1, t2, t3⟩ := MK.out _ M7.out
  have T7 : Hid (Tabs w7) := Lib.hid (HT.out.keep P7.out)
  clear hbx
  go_wp2_with fail
  refine (AL.out _ T7.out).mono ?_
  rintro e w8 ⟨rfl, hbx⟩
  have P8 := chain P7 hbx (Below.refl _ _)
  have M8 := chain M7 hbx (Below.refl _ _)
  clear b0 b1 b2 b3 t0 t1 t2 t3
  obtain ⟨⟨b0, b1, b2, b3⟩, t0, t1, t2, t3⟩ := MK.out _ M8.out
  have T8 : Hid (Tabs w8) := Lib.hid (HT.out.keep P8.out)
  clear hbx
  go_wp2
  go_ret
  exact ⟨rfl, P8.out⟩
set_option maxRecDepth 40000 in
set_option maxHeartbeats 2000000 in
theorem w_good_f (n c : Int) (f : Nat) (s : ByteArray) (w : World) (hT : Tabs w) (H0 : Hid (∀ W, Calls Tryd.prog 15 #[] W fun e w' => e = .returned (.agg #[.int .u8 0, .int .i64 0, .int .u64 0, .string ⟨#[]⟩]) ∧ Below W.heap.size W w')) (H2 : Hid (∀ W, Calls Tryd.prog 17 #[.int .i64 n] W fun e w' => e = .returned (.agg #[.int .u8 2, .int .i64 n, .int .u64 0, .string ⟨#[]⟩]) ∧ Below W.heap.size W w')) (H3 : Hid (∀ W, Calls Tryd.prog 18 #[.float .f64 f] W fun e w' => e = .returned (.agg #[.int .u8 3, .int .i64 0, .int .u64 c, .string ⟨#[]⟩]) ∧ Below W.heap.size W w')) (HC : Hid (∀ W, Calls Tryd.prog 19 #[.int .u64 (f : Int)] W fun e w' => e = .returned (.int .u64 c) ∧ W = w')) (AL : Hid (∀ W, Tabs W → Calls Tryd.prog 8 #[] W fun e w' => e = .returned (.bool true) ∧ Below W.heap.size W w')) (H1 : Hid (∀ W, Calls Tryd.prog 16 #[.bool false] W fun e w' => e = .returned (.agg #[.int .u8 1, .int .i64 0, .int .u64 0, .string ⟨#[]⟩]) ∧ Below W.heap.size W w')) (HB : Hid (∀ W, Calls Tryd.prog 21 #[.string s] W fun e w' => e = .returned (.tuple #[.agg #[.int .u8 4, .int .i64 0, .int .u64 0, .string s], .int .i64 0]) ∧ Below W.heap.size W w')) (HS : Hid (∀ W, Tabs W → Calls Tryd.prog 22 #[.string s] W fun e w' => e = .returned (.tuple #[.agg #[.int .u8 5, .int .i64 0, .int .u64 0, .string s], .int .i64 0]) ∧ Below W.heap.size W w')) (h1 : ¬ (16384 : Int) < (s.size : Int)) (h2 : ¬ (100 : Int) < (s.size : Int)) (HV : Hid (∀ W, Tabs W → Calls Tryd.prog 23 #[.string s] W fun e w' => e = .returned (.bool true) ∧ Below W.heap.size W w')) (K4 : Hid (∀ W, Tabs W → Calls Tryd.prog 10 #[.agg #[.int .u8 4, .int .i64 0, .int .u64 0, .string s]] W fun e w' => e = .returned (.int .i64 0) ∧ Below W.heap.size W w')) (K5 : Hid (∀ W, Tabs W → Calls Tryd.prog 10 #[.agg #[.int .u8 5, .int .i64 0, .int .u64 0, .string s]] W fun e w' => e = .returned (.int .i64 0) ∧ Below W.heap.size W w')) (K3 : Hid (∀ W, Tabs W → Calls Tryd.prog 10 #[.agg #[.int .u8 3, .int .i64 0, .int .u64 c, .string ⟨#[]⟩]] W fun e w' => e = .returned (.int .i64 0) ∧ Below W.heap.size W w')) :
    Calls Tryd.prog 4 #[.bool false, .int .i64 n, .float .f64 f, .string s] w fun e w' => e = .returned (.bool true) ∧ Below w.heap.size w w' := by
  have HT := Lib.hid hT
  have hse := self_eq
  have hsn := self_ne
  have hfb := fun W => to_bits f W
  clear hT
  go_enter Tryd.func4, Tryd.ntmps4
  have P0 : Hid (Below w.heap.size w w) := Lib.hid (Below.refl _ _)
  go_wp2_with fail
  refine (H0.out _).mono ?_
  rintro e w1 ⟨rfl, hbx⟩
  have P1 := chain P0 hbx (Below.refl _ _)
  obtain ⟨hc1, _⟩ := bcell hbx
  clear hbx
  clear hc1
  go_wp2_with fail
  refine (H1.out _).mono ?_
  rintro e w2 ⟨rfl, hbx⟩
  have P2 := chain P1 hbx (Below.refl _ _)
  obtain ⟨hc2, _⟩ := bcell hbx
  clear hbx
  clear hc2
  go_wp2_with fail
  refine (H2.out _).mono ?_
  rintro e w3 ⟨rfl, hbx⟩
  have P3 := chain P2 hbx (Below.refl _ _)
  obtain ⟨hc3, _⟩ := bcell hbx
  clear hbx
  clear hc3
  go_wp2_with fail
  refine (H3.out _).mono ?_
  rintro e w4 ⟨rfl, hbx⟩
  have P4 := chain P3 hbx (Below.refl _ _)
  obtain ⟨hc4, _⟩ := bcell hbx
  clear hbx
  clear hc4
  go_wp2_with fail
  refine (HC.out _).mono ?_
  rintro e wx ⟨rfl, rfl⟩
  go_wp2_with fail
  refine (HB.out _).mono ?_
  rintro e w5 ⟨rfl, hbx⟩
  have P5 := chain P4 hbx (Below.refl _ _)
  obtain ⟨hc5, _⟩ := bcell hbx
  clear hbx
  clear hc5
  have T5 : Hid (Tabs (w5.alloc (.cells #[.int .u8 4, .int .i64 0, .int .u64 0, .string s] 24))) := Lib.hid ((HT.out.keep P5.out).keep ((Below.refl _ _).alloc (Nat.le_refl _) _))
  go_wp2_with fail
  refine (HS.out _ T5.out).mono ?_
  rintro e w6 ⟨rfl, hbx⟩
  have P6 := chain P5 hbx ((Below.refl _ _).alloc (Nat.le_refl _) _)
  have z6 : w5.heap.size < w6.heap.size := by have := hbx.size; simp at this; omega
  have e6 : w6.heap[w5.heap.size]? = some (.cells #[.int .u8 4, .int .i64 0, .int .u64 0, .string s] 24) := (hbx.block _ (by simp)).trans (heap_alloc_new w5 _)
  have MK : Hid (∀ W, Below (w6.alloc (.cells #[.int .u8 5, .int .i64 0, .int .u64 0, .string s] 24)).heap.size (w6.alloc (.cells #[.int .u8 5, .int .i64 0, .int .u64 0, .string s] 24)) W → (W.cell? ⟨w5.heap.size, 0, none⟩ = some (.int .u8 4) ∧ W.cell? ⟨w5.heap.size, 1, none⟩ = some (.int .i64 0) ∧ W.cell? ⟨w5.heap.size, 2, none⟩ = some (.int .u64 0) ∧ W.cell? ⟨w5.heap.size, 3, none⟩ = some (.string s)) ∧ (W.cell? ⟨w6.heap.size, 0, none⟩ = some (.int .u8 5) ∧ W.cell? ⟨w6.heap.size, 1, none⟩ = some (.int .i64 0) ∧ W.cell? ⟨w6.heap.size, 2, none⟩ = some (.int .u64 0) ∧ W.cell? ⟨w6.heap.size, 3, none⟩ = some (.string s))) := Lib.hid fun W hW => by
    have s6 : (w6.alloc (.cells #[.int .u8 5, .int .i64 0, .int .u64 0, .string s] 24)).heap.size = w6.heap.size + 1 := by simp
    have f5 : W.heap[w5.heap.size]? = some (.cells #[.int .u8 4, .int .i64 0, .int .u64 0, .string s] 24) := (hW.block _ (by omega)).trans ((Below.heap_alloc w6 _ _ z6).trans e6)
    have f6 : W.heap[w6.heap.size]? = some (.cells #[.int .u8 5, .int .i64 0, .int .u64 0, .string s] 24) := (hW.block _ (by omega)).trans (heap_alloc_new w6 _)
    refine ⟨⟨?_, ?_, ?_, ?_⟩, ?_, ?_, ?_, ?_⟩ <;> (unfold World.cell?; first | (rw [f5]; rfl) | (rw [f6]; rfl))
  have P6a := chain P6 (Below.refl _ _) ((Below.refl w6.heap.size w6).alloc (Nat.le_refl _) (.cells #[.int .u8 5, .int .i64 0, .int .u64 0, .string s] 24))
  have M6 : Hid (Below (w6.alloc (.cells #[.int .u8 5, .int .i64 0, .int .u64 0, .string s] 24)).heap.size (w6.alloc (.cells #[.int .u8 5, .int .i64 0, .int .u64 0, .string s] 24)) (w6.alloc (.cells #[.int .u8 5, .int .i64 0, .int .u64 0, .string s] 24))) := Lib.hid (Below.refl _ _)
  obtain ⟨⟨b0, b1, b2, b3⟩, t0, t1, t2, t3⟩ := MK.out _ M6.out
  have T6 : Hid (Tabs (w6.alloc (.cells #[.int .u8 5, .int .i64 0, .int .u64 0, .string s] 24))) := Lib.hid (HT.out.keep P6a.out)
  clear e6 z6
  clear hbx
  go_wp2_with fail
  refine (HV.out _ T6.out).mono ?_
  rintro e w7 ⟨rfl, hbx⟩
  have P7 := chain P6a hbx (Below.refl _ _)
  have M7 := chain M6 hbx (Below.refl _ _)
  clear b0 b1 b2 b3 t0 t1 t2 t3
  obtain ⟨⟨b0, b1, b2, b3⟩, t0, t1, t2, t3⟩ := MK.out _ M7.out
  have T7 : Hid (Tabs w7) := Lib.hid (HT.out.keep P7.out)
  clear hbx
  go_wp2_with fail
  refine (K4.out _ T7.out).mono ?_
  rintro e w8 ⟨rfl, hbx⟩
  have P8 := chain P7 hbx (Below.refl _ _)
  have M8 := chain M7 hbx (Below.refl _ _)
  clear b0 b1 b2 b3 t0 t1 t2 t3
  obtain ⟨⟨b0, b1, b2, b3⟩, t0, t1, t2, t3⟩ := MK.out _ M8.out
  have T8 : Hid (Tabs w8) := Lib.hid (HT.out.keep P8.out)
  clear hbx
  go_wp2_with fail
  refine (K5.out _ T8.out).mono ?_
  rintro e w9 ⟨rfl, hbx⟩
  have P9 := chain P8 hbx (Below.refl _ _)
  have M9 := chain M8 hbx (Below.refl _ _)
  clear b0 b1 b2 b3 t0 t1 t2 t3
  obtain ⟨⟨b0, b1, b2, b3⟩, t0, t1, t2, t3⟩ := MK.out _ M9.out
  have T9 : Hid (Tabs w9) := Lib.hid (HT.out.keep P9.out)
  clear hbx
  go_wp2_with fail
  refine (H3.out _).mono ?_
  rintro e w10 ⟨rfl, hbx⟩
  have P10 := chain P9 hbx (Below.refl _ _)
  have M10 := chain M9 hbx (Below.refl _ _)
  clear b0 b1 b2 b3 t0 t1 t2 t3
  obtain ⟨⟨b0, b1, b2, b3⟩, t0, t1, t2, t3⟩ := MK.out _ M10.out
  have T10 : Hid (Tabs w10) := Lib.hid (HT.out.keep P10.out)
  clear hbx
  go_wp2_with fail
  refine (K3.out _ T10.out).mono ?_
  rintro e w11 ⟨rfl, hbx⟩
  have P11 := chain P10 hbx (Below.refl _ _)
  have M11 := chain M10 hbx (Below.refl _ _)
  clear b0 b1 b2 b3 t0 t1 t2 t3
  obtain ⟨⟨b0, b1, b2, b3⟩, t0, t1, t2, t3⟩ := MK.out _ M11.out
  have T11 : Hid (Tabs w11) := Lib.hid (HT.out.keep P11.out)
  clear hbx
  go_wp2_with fail
  refine (AL.out _ T11.out).mono ?_
  rintro e w12 ⟨rfl, hbx⟩
  have P12 := chain P11 hbx (Below.refl _ _)
  have M12 := chain M11 hbx (Below.refl _ _)
  clear b0 b1 b2 b3 t0 t1 t2 t3
  obtain ⟨⟨b0, b1, b2, b3⟩, t0, t1, t2, t3⟩ := MK.out _ M12.out
  have T12 : Hid (Tabs w12) := Lib.hid (HT.out.keep P12.out)
  clear hbx
  go_wp2
  go_ret
  exact ⟨rfl, P12.out⟩
set_option maxRecDepth 40000 in
set_option maxHeartbeats 2000000 in
theorem w_long_t (n c : Int) (f : Nat) (s : ByteArray) (w : World) (hT : Tabs w) (H0 : Hid (∀ W, Calls Tryd.prog 15 #[] W fun e w' => e = .returned (.agg #[.int .u8 0, .int .i64 0, .int .u64 0, .string ⟨#[]⟩]) ∧ Below W.heap.size W w')) (H2 : Hid (∀ W, Calls Tryd.prog 17 #[.int .i64 n] W fun e w' => e = .returned (.agg #[.int .u8 2, .int .i64 n, .int .u64 0, .string ⟨#[]⟩]) ∧ Below W.heap.size W w')) (H3 : Hid (∀ W, Calls Tryd.prog 18 #[.float .f64 f] W fun e w' => e = .returned (.agg #[.int .u8 3, .int .i64 0, .int .u64 c, .string ⟨#[]⟩]) ∧ Below W.heap.size W w')) (HC : Hid (∀ W, Calls Tryd.prog 19 #[.int .u64 (f : Int)] W fun e w' => e = .returned (.int .u64 c) ∧ W = w')) (AL : Hid (∀ W, Tabs W → Calls Tryd.prog 8 #[] W fun e w' => e = .returned (.bool true) ∧ Below W.heap.size W w')) (H1 : Hid (∀ W, Calls Tryd.prog 16 #[.bool true] W fun e w' => e = .returned (.agg #[.int .u8 1, .int .i64 1, .int .u64 0, .string ⟨#[]⟩]) ∧ Below W.heap.size W w')) (HB : Hid (∀ W, Calls Tryd.prog 21 #[.string s] W fun e w' => e = .returned (.tuple #[.agg #[.int .u8 0, .int .i64 0, .int .u64 0, .string ⟨#[]⟩], .int .i64 5]) ∧ Below W.heap.size W w')) (HS : Hid (∀ W, Tabs W → Calls Tryd.prog 22 #[.string s] W fun e w' => e = .returned (.tuple #[.agg #[.int .u8 0, .int .i64 0, .int .u64 0, .string ⟨#[]⟩], .int .i64 5]) ∧ Below W.heap.size W w')) (h1 : ¬ (16384 : Int) < (s.size : Int)) (h2 : (100 : Int) < (s.size : Int)) :
    Calls Tryd.prog 4 #[.bool true, .int .i64 n, .float .f64 f, .string s] w fun e w' => e = .returned (.bool true) ∧ Below w.heap.size w w' := by
  have HT := Lib.hid hT
  have hse := self_eq
  have hsn := self_ne
  have hfb := fun W => to_bits f W
  clear hT
  go_enter Tryd.func4, Tryd.ntmps4
  have P0 : Hid (Below w.heap.size w w) := Lib.hid (Below.refl _ _)
  go_wp2_with fail
  refine (H0.out _).mono ?_
  rintro e w1 ⟨rfl, hbx⟩
  have P1 := chain P0 hbx (Below.refl _ _)
  obtain ⟨hc1, _⟩ := bcell hbx
  clear hbx
  clear hc1
  go_wp2_with fail
  refine (H1.out _).mono ?_
  rintro e w2 ⟨rfl, hbx⟩
  have P2 := chain P1 hbx (Below.refl _ _)
  obtain ⟨hc2, _⟩ := bcell hbx
  clear hbx
  clear hc2
  go_wp2_with fail
  refine (H2.out _).mono ?_
  rintro e w3 ⟨rfl, hbx⟩
  have P3 := chain P2 hbx (Below.refl _ _)
  obtain ⟨hc3, _⟩ := bcell hbx
  clear hbx
  clear hc3
  go_wp2_with fail
  refine (H3.out _).mono ?_
  rintro e w4 ⟨rfl, hbx⟩
  have P4 := chain P3 hbx (Below.refl _ _)
  obtain ⟨hc4, _⟩ := bcell hbx
  clear hbx
  clear hc4
  go_wp2_with fail
  refine (HC.out _).mono ?_
  rintro e wx ⟨rfl, rfl⟩
  go_wp2_with fail
  refine (HB.out _).mono ?_
  rintro e w5 ⟨rfl, hbx⟩
  have P5 := chain P4 hbx (Below.refl _ _)
  obtain ⟨hc5, _⟩ := bcell hbx
  clear hbx
  clear hc5
  have T5 : Hid (Tabs (w5.alloc (.cells #[.int .u8 0, .int .i64 0, .int .u64 0, .string ⟨#[]⟩] 24))) := Lib.hid ((HT.out.keep P5.out).keep ((Below.refl _ _).alloc (Nat.le_refl _) _))
  go_wp2_with fail
  refine (HS.out _ T5.out).mono ?_
  rintro e w6 ⟨rfl, hbx⟩
  have P6 := chain P5 hbx ((Below.refl _ _).alloc (Nat.le_refl _) _)
  have z6 : w5.heap.size < w6.heap.size := by have := hbx.size; simp at this; omega
  have e6 : w6.heap[w5.heap.size]? = some (.cells #[.int .u8 0, .int .i64 0, .int .u64 0, .string ⟨#[]⟩] 24) := (hbx.block _ (by simp)).trans (heap_alloc_new w5 _)
  have MK : Hid (∀ W, Below (w6.alloc (.cells #[.int .u8 0, .int .i64 0, .int .u64 0, .string ⟨#[]⟩] 24)).heap.size (w6.alloc (.cells #[.int .u8 0, .int .i64 0, .int .u64 0, .string ⟨#[]⟩] 24)) W → (W.cell? ⟨w5.heap.size, 0, none⟩ = some (.int .u8 0) ∧ W.cell? ⟨w5.heap.size, 1, none⟩ = some (.int .i64 0) ∧ W.cell? ⟨w5.heap.size, 2, none⟩ = some (.int .u64 0) ∧ W.cell? ⟨w5.heap.size, 3, none⟩ = some (.string ⟨#[]⟩)) ∧ (W.cell? ⟨w6.heap.size, 0, none⟩ = some (.int .u8 0) ∧ W.cell? ⟨w6.heap.size, 1, none⟩ = some (.int .i64 0) ∧ W.cell? ⟨w6.heap.size, 2, none⟩ = some (.int .u64 0) ∧ W.cell? ⟨w6.heap.size, 3, none⟩ = some (.string ⟨#[]⟩))) := Lib.hid fun W hW => by
    have s6 : (w6.alloc (.cells #[.int .u8 0, .int .i64 0, .int .u64 0, .string ⟨#[]⟩] 24)).heap.size = w6.heap.size + 1 := by simp
    have f5 : W.heap[w5.heap.size]? = some (.cells #[.int .u8 0, .int .i64 0, .int .u64 0, .string ⟨#[]⟩] 24) := (hW.block _ (by omega)).trans ((Below.heap_alloc w6 _ _ z6).trans e6)
    have f6 : W.heap[w6.heap.size]? = some (.cells #[.int .u8 0, .int .i64 0, .int .u64 0, .string ⟨#[]⟩] 24) := (hW.block _ (by omega)).trans (heap_alloc_new w6 _)
    refine ⟨⟨?_, ?_, ?_, ?_⟩, ?_, ?_, ?_, ?_⟩ <;> (unfold World.cell?; first | (rw [f5]; rfl) | (rw [f6]; rfl))
  have P6a := chain P6 (Below.refl _ _) ((Below.refl w6.heap.size w6).alloc (Nat.le_refl _) (.cells #[.int .u8 0, .int .i64 0, .int .u64 0, .string ⟨#[]⟩] 24))
  have M6 : Hid (Below (w6.alloc (.cells #[.int .u8 0, .int .i64 0, .int .u64 0, .string ⟨#[]⟩] 24)).heap.size (w6.alloc (.cells #[.int .u8 0, .int .i64 0, .int .u64 0, .string ⟨#[]⟩] 24)) (w6.alloc (.cells #[.int .u8 0, .int .i64 0, .int .u64 0, .string ⟨#[]⟩] 24))) := Lib.hid (Below.refl _ _)
  obtain ⟨⟨b0, b1, b2, b3⟩, t0, t1, t2, t3⟩ := MK.out _ M6.out
  have T6 : Hid (Tabs (w6.alloc (.cells #[.int .u8 0, .int .i64 0, .int .u64 0, .string ⟨#[]⟩] 24))) := Lib.hid (HT.out.keep P6a.out)
  clear e6 z6
  clear hbx
  go_wp2_with fail
  refine (AL.out _ T6.out).mono ?_
  rintro e w7 ⟨rfl, hbx⟩
  have P7 := chain P6a hbx (Below.refl _ _)
  have M7 := chain M6 hbx (Below.refl _ _)
  clear b0 b1 b2 b3 t0 t1 t2 t3
  obtain ⟨⟨b0, b1, b2, b3⟩, t0, t1, t2, t3⟩ := MK.out _ M7.out
  have T7 : Hid (Tabs w7) := Lib.hid (HT.out.keep P7.out)
  clear hbx
  go_wp2
  go_ret
  exact ⟨rfl, P7.out⟩
set_option maxRecDepth 40000 in
set_option maxHeartbeats 2000000 in
theorem w_bad_t (n c : Int) (f : Nat) (s : ByteArray) (w : World) (hT : Tabs w) (H0 : Hid (∀ W, Calls Tryd.prog 15 #[] W fun e w' => e = .returned (.agg #[.int .u8 0, .int .i64 0, .int .u64 0, .string ⟨#[]⟩]) ∧ Below W.heap.size W w')) (H2 : Hid (∀ W, Calls Tryd.prog 17 #[.int .i64 n] W fun e w' => e = .returned (.agg #[.int .u8 2, .int .i64 n, .int .u64 0, .string ⟨#[]⟩]) ∧ Below W.heap.size W w')) (H3 : Hid (∀ W, Calls Tryd.prog 18 #[.float .f64 f] W fun e w' => e = .returned (.agg #[.int .u8 3, .int .i64 0, .int .u64 c, .string ⟨#[]⟩]) ∧ Below W.heap.size W w')) (HC : Hid (∀ W, Calls Tryd.prog 19 #[.int .u64 (f : Int)] W fun e w' => e = .returned (.int .u64 c) ∧ W = w')) (AL : Hid (∀ W, Tabs W → Calls Tryd.prog 8 #[] W fun e w' => e = .returned (.bool true) ∧ Below W.heap.size W w')) (H1 : Hid (∀ W, Calls Tryd.prog 16 #[.bool true] W fun e w' => e = .returned (.agg #[.int .u8 1, .int .i64 1, .int .u64 0, .string ⟨#[]⟩]) ∧ Below W.heap.size W w')) (HB : Hid (∀ W, Calls Tryd.prog 21 #[.string s] W fun e w' => e = .returned (.tuple #[.agg #[.int .u8 4, .int .i64 0, .int .u64 0, .string s], .int .i64 0]) ∧ Below W.heap.size W w')) (HS : Hid (∀ W, Tabs W → Calls Tryd.prog 22 #[.string s] W fun e w' => e = .returned (.tuple #[.agg #[.int .u8 0, .int .i64 0, .int .u64 0, .string ⟨#[]⟩], .int .i64 7]) ∧ Below W.heap.size W w')) (h1 : ¬ (16384 : Int) < (s.size : Int)) (h2 : ¬ (100 : Int) < (s.size : Int)) (HV : Hid (∀ W, Tabs W → Calls Tryd.prog 23 #[.string s] W fun e w' => e = .returned (.bool false) ∧ Below W.heap.size W w')) :
    Calls Tryd.prog 4 #[.bool true, .int .i64 n, .float .f64 f, .string s] w fun e w' => e = .returned (.bool true) ∧ Below w.heap.size w w' := by
  have HT := Lib.hid hT
  have hse := self_eq
  have hsn := self_ne
  have hfb := fun W => to_bits f W
  clear hT
  go_enter Tryd.func4, Tryd.ntmps4
  have P0 : Hid (Below w.heap.size w w) := Lib.hid (Below.refl _ _)
  go_wp2_with fail
  refine (H0.out _).mono ?_
  rintro e w1 ⟨rfl, hbx⟩
  have P1 := chain P0 hbx (Below.refl _ _)
  obtain ⟨hc1, _⟩ := bcell hbx
  clear hbx
  clear hc1
  go_wp2_with fail
  refine (H1.out _).mono ?_
  rintro e w2 ⟨rfl, hbx⟩
  have P2 := chain P1 hbx (Below.refl _ _)
  obtain ⟨hc2, _⟩ := bcell hbx
  clear hbx
  clear hc2
  go_wp2_with fail
  refine (H2.out _).mono ?_
  rintro e w3 ⟨rfl, hbx⟩
  have P3 := chain P2 hbx (Below.refl _ _)
  obtain ⟨hc3, _⟩ := bcell hbx
  clear hbx
  clear hc3
  go_wp2_with fail
  refine (H3.out _).mono ?_
  rintro e w4 ⟨rfl, hbx⟩
  have P4 := chain P3 hbx (Below.refl _ _)
  obtain ⟨hc4, _⟩ := bcell hbx
  clear hbx
  clear hc4
  go_wp2_with fail
  refine (HC.out _).mono ?_
  rintro e wx ⟨rfl, rfl⟩
  go_wp2_with fail
  refine (HB.out _).mono ?_
  rintro e w5 ⟨rfl, hbx⟩
  have P5 := chain P4 hbx (Below.refl _ _)
  obtain ⟨hc5, _⟩ := bcell hbx
  clear hbx
  clear hc5
  have T5 : Hid (Tabs (w5.alloc (.cells #[.int .u8 4, .int .i64 0, .int .u64 0, .string s] 24))) := Lib.hid ((HT.out.keep P5.out).keep ((Below.refl _ _).alloc (Nat.le_refl _) _))
  go_wp2_with fail
  refine (HS.out _ T5.out).mono ?_
  rintro e w6 ⟨rfl, hbx⟩
  have P6 := chain P5 hbx ((Below.refl _ _).alloc (Nat.le_refl _) _)
  have z6 : w5.heap.size < w6.heap.size := by have := hbx.size; simp at this; omega
  have e6 : w6.heap[w5.heap.size]? = some (.cells #[.int .u8 4, .int .i64 0, .int .u64 0, .string s] 24) := (hbx.block _ (by simp)).trans (heap_alloc_new w5 _)
  have MK : Hid (∀ W, Below (w6.alloc (.cells #[.int .u8 0, .int .i64 0, .int .u64 0, .string ⟨#[]⟩] 24)).heap.size (w6.alloc (.cells #[.int .u8 0, .int .i64 0, .int .u64 0, .string ⟨#[]⟩] 24)) W → (W.cell? ⟨w5.heap.size, 0, none⟩ = some (.int .u8 4) ∧ W.cell? ⟨w5.heap.size, 1, none⟩ = some (.int .i64 0) ∧ W.cell? ⟨w5.heap.size, 2, none⟩ = some (.int .u64 0) ∧ W.cell? ⟨w5.heap.size, 3, none⟩ = some (.string s)) ∧ (W.cell? ⟨w6.heap.size, 0, none⟩ = some (.int .u8 0) ∧ W.cell? ⟨w6.heap.size, 1, none⟩ = some (.int .i64 0) ∧ W.cell? ⟨w6.heap.size, 2, none⟩ = some (.int .u64 0) ∧ W.cell? ⟨w6.heap.size, 3, none⟩ = some (.string ⟨#[]⟩))) := Lib.hid fun W hW => by
    have s6 : (w6.alloc (.cells #[.int .u8 0, .int .i64 0, .int .u64 0, .string ⟨#[]⟩] 24)).heap.size = w6.heap.size + 1 := by simp
    have f5 : W.heap[w5.heap.size]? = some (.cells #[.int .u8 4, .int .i64 0, .int .u64 0, .string s] 24) := (hW.block _ (by omega)).trans ((Below.heap_alloc w6 _ _ z6).trans e6)
    have f6 : W.heap[w6.heap.size]? = some (.cells #[.int .u8 0, .int .i64 0, .int .u64 0, .string ⟨#[]⟩] 24) := (hW.block _ (by omega)).trans (heap_alloc_new w6 _)
    refine ⟨⟨?_, ?_, ?_, ?_⟩, ?_, ?_, ?_, ?_⟩ <;> (unfold World.cell?; first | (rw [f5]; rfl) | (rw [f6]; rfl))
  have P6a := chain P6 (Below.refl _ _) ((Below.refl w6.heap.size w6).alloc (Nat.le_refl _) (.cells #[.int .u8 0, .int .i64 0, .int .u64 0, .string ⟨#[]⟩] 24))
  have M6 : Hid (Below (w6.alloc (.cells #[.int .u8 0, .int .i64 0, .int .u64 0, .string ⟨#[]⟩] 24)).heap.size (w6.alloc (.cells #[.int .u8 0, .int .i64 0, .int .u64 0, .string ⟨#[]⟩] 24)) (w6.alloc (.cells #[.int .u8 0, .int .i64 0, .int .u64 0, .string ⟨#[]⟩] 24))) := Lib.hid (Below.refl _ _)
  obtain ⟨⟨b0, b1, b2, b3⟩, t0, t1, t2, t3⟩ := MK.out _ M6.out
  have T6 : Hid (Tabs (w6.alloc (.cells #[.int .u8 0, .int .i64 0, .int .u64 0, .string ⟨#[]⟩] 24))) := Lib.hid (HT.out.keep P6a.out)
  clear e6 z6
  clear hbx
  go_wp2_with fail
  refine (HV.out _ T6.out).mono ?_
  rintro e w7 ⟨rfl, hbx⟩
  have P7 := chain P6a hbx (Below.refl _ _)
  have M7 := chain M6 hbx (Below.refl _ _)
  clear b0 b1 b2 b3 t0 t1 t2 t3
  obtain ⟨⟨b0, b1, b2, b3⟩, t0, t1, t2, t3⟩ := MK.out _ M7.out
  have T7 : Hid (Tabs w7) := Lib.hid (HT.out.keep P7.out)
  clear hbx
  go_wp2_with fail
  refine (AL.out _ T7.out).mono ?_
  rintro e w8 ⟨rfl, hbx⟩
  have P8 := chain P7 hbx (Below.refl _ _)
  have M8 := chain M7 hbx (Below.refl _ _)
  clear b0 b1 b2 b3 t0 t1 t2 t3
  obtain ⟨⟨b0, b1, b2, b3⟩, t0, t1, t2, t3⟩ := MK.out _ M8.out
  have T8 : Hid (Tabs w8) := Lib.hid (HT.out.keep P8.out)
  clear hbx
  go_wp2
  go_ret
  exact ⟨rfl, P8.out⟩
set_option maxRecDepth 40000 in
set_option maxHeartbeats 2000000 in
theorem w_good_t (n c : Int) (f : Nat) (s : ByteArray) (w : World) (hT : Tabs w) (H0 : Hid (∀ W, Calls Tryd.prog 15 #[] W fun e w' => e = .returned (.agg #[.int .u8 0, .int .i64 0, .int .u64 0, .string ⟨#[]⟩]) ∧ Below W.heap.size W w')) (H2 : Hid (∀ W, Calls Tryd.prog 17 #[.int .i64 n] W fun e w' => e = .returned (.agg #[.int .u8 2, .int .i64 n, .int .u64 0, .string ⟨#[]⟩]) ∧ Below W.heap.size W w')) (H3 : Hid (∀ W, Calls Tryd.prog 18 #[.float .f64 f] W fun e w' => e = .returned (.agg #[.int .u8 3, .int .i64 0, .int .u64 c, .string ⟨#[]⟩]) ∧ Below W.heap.size W w')) (HC : Hid (∀ W, Calls Tryd.prog 19 #[.int .u64 (f : Int)] W fun e w' => e = .returned (.int .u64 c) ∧ W = w')) (AL : Hid (∀ W, Tabs W → Calls Tryd.prog 8 #[] W fun e w' => e = .returned (.bool true) ∧ Below W.heap.size W w')) (H1 : Hid (∀ W, Calls Tryd.prog 16 #[.bool true] W fun e w' => e = .returned (.agg #[.int .u8 1, .int .i64 1, .int .u64 0, .string ⟨#[]⟩]) ∧ Below W.heap.size W w')) (HB : Hid (∀ W, Calls Tryd.prog 21 #[.string s] W fun e w' => e = .returned (.tuple #[.agg #[.int .u8 4, .int .i64 0, .int .u64 0, .string s], .int .i64 0]) ∧ Below W.heap.size W w')) (HS : Hid (∀ W, Tabs W → Calls Tryd.prog 22 #[.string s] W fun e w' => e = .returned (.tuple #[.agg #[.int .u8 5, .int .i64 0, .int .u64 0, .string s], .int .i64 0]) ∧ Below W.heap.size W w')) (h1 : ¬ (16384 : Int) < (s.size : Int)) (h2 : ¬ (100 : Int) < (s.size : Int)) (HV : Hid (∀ W, Tabs W → Calls Tryd.prog 23 #[.string s] W fun e w' => e = .returned (.bool true) ∧ Below W.heap.size W w')) (K4 : Hid (∀ W, Tabs W → Calls Tryd.prog 10 #[.agg #[.int .u8 4, .int .i64 0, .int .u64 0, .string s]] W fun e w' => e = .returned (.int .i64 0) ∧ Below W.heap.size W w')) (K5 : Hid (∀ W, Tabs W → Calls Tryd.prog 10 #[.agg #[.int .u8 5, .int .i64 0, .int .u64 0, .string s]] W fun e w' => e = .returned (.int .i64 0) ∧ Below W.heap.size W w')) (K3 : Hid (∀ W, Tabs W → Calls Tryd.prog 10 #[.agg #[.int .u8 3, .int .i64 0, .int .u64 c, .string ⟨#[]⟩]] W fun e w' => e = .returned (.int .i64 0) ∧ Below W.heap.size W w')) :
    Calls Tryd.prog 4 #[.bool true, .int .i64 n, .float .f64 f, .string s] w fun e w' => e = .returned (.bool true) ∧ Below w.heap.size w w' := by
  have HT := Lib.hid hT
  have hse := self_eq
  have hsn := self_ne
  have hfb := fun W => to_bits f W
  clear hT
  go_enter Tryd.func4, Tryd.ntmps4
  have P0 : Hid (Below w.heap.size w w) := Lib.hid (Below.refl _ _)
  go_wp2_with fail
  refine (H0.out _).mono ?_
  rintro e w1 ⟨rfl, hbx⟩
  have P1 := chain P0 hbx (Below.refl _ _)
  obtain ⟨hc1, _⟩ := bcell hbx
  clear hbx
  clear hc1
  go_wp2_with fail
  refine (H1.out _).mono ?_
  rintro e w2 ⟨rfl, hbx⟩
  have P2 := chain P1 hbx (Below.refl _ _)
  obtain ⟨hc2, _⟩ := bcell hbx
  clear hbx
  clear hc2
  go_wp2_with fail
  refine (H2.out _).mono ?_
  rintro e w3 ⟨rfl, hbx⟩
  have P3 := chain P2 hbx (Below.refl _ _)
  obtain ⟨hc3, _⟩ := bcell hbx
  clear hbx
  clear hc3
  go_wp2_with fail
  refine (H3.out _).mono ?_
  rintro e w4 ⟨rfl, hbx⟩
  have P4 := chain P3 hbx (Below.refl _ _)
  obtain ⟨hc4, _⟩ := bcell hbx
  clear hbx
  clear hc4
  go_wp2_with fail
  refine (HC.out _).mono ?_
  rintro e wx ⟨rfl, rfl⟩
  go_wp2_with fail
  refine (HB.out _).mono ?_
  rintro e w5 ⟨rfl, hbx⟩
  have P5 := chain P4 hbx (Below.refl _ _)
  obtain ⟨hc5, _⟩ := bcell hbx
  clear hbx
  clear hc5
  have T5 : Hid (Tabs (w5.alloc (.cells #[.int .u8 4, .int .i64 0, .int .u64 0, .string s] 24))) := Lib.hid ((HT.out.keep P5.out).keep ((Below.refl _ _).alloc (Nat.le_refl _) _))
  go_wp2_with fail
  refine (HS.out _ T5.out).mono ?_
  rintro e w6 ⟨rfl, hbx⟩
  have P6 := chain P5 hbx ((Below.refl _ _).alloc (Nat.le_refl _) _)
  have z6 : w5.heap.size < w6.heap.size := by have := hbx.size; simp at this; omega
  have e6 : w6.heap[w5.heap.size]? = some (.cells #[.int .u8 4, .int .i64 0, .int .u64 0, .string s] 24) := (hbx.block _ (by simp)).trans (heap_alloc_new w5 _)
  have MK : Hid (∀ W, Below (w6.alloc (.cells #[.int .u8 5, .int .i64 0, .int .u64 0, .string s] 24)).heap.size (w6.alloc (.cells #[.int .u8 5, .int .i64 0, .int .u64 0, .string s] 24)) W → (W.cell? ⟨w5.heap.size, 0, none⟩ = some (.int .u8 4) ∧ W.cell? ⟨w5.heap.size, 1, none⟩ = some (.int .i64 0) ∧ W.cell? ⟨w5.heap.size, 2, none⟩ = some (.int .u64 0) ∧ W.cell? ⟨w5.heap.size, 3, none⟩ = some (.string s)) ∧ (W.cell? ⟨w6.heap.size, 0, none⟩ = some (.int .u8 5) ∧ W.cell? ⟨w6.heap.size, 1, none⟩ = some (.int .i64 0) ∧ W.cell? ⟨w6.heap.size, 2, none⟩ = some (.int .u64 0) ∧ W.cell? ⟨w6.heap.size, 3, none⟩ = some (.string s))) := Lib.hid fun W hW => by
    have s6 : (w6.alloc (.cells #[.int .u8 5, .int .i64 0, .int .u64 0, .string s] 24)).heap.size = w6.heap.size + 1 := by simp
    have f5 : W.heap[w5.heap.size]? = some (.cells #[.int .u8 4, .int .i64 0, .int .u64 0, .string s] 24) := (hW.block _ (by omega)).trans ((Below.heap_alloc w6 _ _ z6).trans e6)
    have f6 : W.heap[w6.heap.size]? = some (.cells #[.int .u8 5, .int .i64 0, .int .u64 0, .string s] 24) := (hW.block _ (by omega)).trans (heap_alloc_new w6 _)
    refine ⟨⟨?_, ?_, ?_, ?_⟩, ?_, ?_, ?_, ?_⟩ <;> (unfold World.cell?; first | (rw [f5]; rfl) | (rw [f6]; rfl))
  have P6a := chain P6 (Below.refl _ _) ((Below.refl w6.heap.size w6).alloc (Nat.le_refl _) (.cells #[.int .u8 5, .int .i64 0, .int .u64 0, .string s] 24))
  have M6 : Hid (Below (w6.alloc (.cells #[.int .u8 5, .int .i64 0, .int .u64 0, .string s] 24)).heap.size (w6.alloc (.cells #[.int .u8 5, .int .i64 0, .int .u64 0, .string s] 24)) (w6.alloc (.cells #[.int .u8 5, .int .i64 0, .int .u64 0, .string s] 24))) := Lib.hid (Below.refl _ _)
  obtain ⟨⟨b0, b1, b2, b3⟩, t0, t1, t2, t3⟩ := MK.out _ M6.out
  have T6 : Hid (Tabs (w6.alloc (.cells #[.int .u8 5, .int .i64 0, .int .u64 0, .string s] 24))) := Lib.hid (HT.out.keep P6a.out)
  clear e6 z6
  clear hbx
  go_wp2_with fail
  refine (HV.out _ T6.out).mono ?_
  rintro e w7 ⟨rfl, hbx⟩
  have P7 := chain P6a hbx (Below.refl _ _)
  have M7 := chain M6 hbx (Below.refl _ _)
  clear b0 b1 b2 b3 t0 t1 t2 t3
  obtain ⟨⟨b0, b1, b2, b3⟩, t0, t1, t2, t3⟩ := MK.out _ M7.out
  have T7 : Hid (Tabs w7) := Lib.hid (HT.out.keep P7.out)
  clear hbx
  go_wp2_with fail
  refine (K4.out _ T7.out).mono ?_
  rintro e w8 ⟨rfl, hbx⟩
  have P8 := chain P7 hbx (Below.refl _ _)
  have M8 := chain M7 hbx (Below.refl _ _)
  clear b0 b1 b2 b3 t0 t1 t2 t3
  obtain ⟨⟨b0, b1, b2, b3⟩, t0, t1, t2, t3⟩ := MK.out _ M8.out
  have T8 : Hid (Tabs w8) := Lib.hid (HT.out.keep P8.out)
  clear hbx
  go_wp2_with fail
  refine (K5.out _ T8.out).mono ?_
  rintro e w9 ⟨rfl, hbx⟩
  have P9 := chain P8 hbx (Below.refl _ _)
  have M9 := chain M8 hbx (Below.refl _ _)
  clear b0 b1 b2 b3 t0 t1 t2 t3
  obtain ⟨⟨b0, b1, b2, b3⟩, t0, t1, t2, t3⟩ := MK.out _ M9.out
  have T9 : Hid (Tabs w9) := Lib.hid (HT.out.keep P9.out)
  clear hbx
  go_wp2_with fail
  refine (H3.out _).mono ?_
  rintro e w10 ⟨rfl, hbx⟩
  have P10 := chain P9 hbx (Below.refl _ _)
  have M10 := chain M9 hbx (Below.refl _ _)
  clear b0 b1 b2 b3 t0 t1 t2 t3
  obtain ⟨⟨b0, b1, b2, b3⟩, t0, t1, t2, t3⟩ := MK.out _ M10.out
  have T10 : Hid (Tabs w10) := Lib.hid (HT.out.keep P10.out)
  clear hbx
  go_wp2_with fail
  refine (K3.out _ T10.out).mono ?_
  rintro e w11 ⟨rfl, hbx⟩
  have P11 := chain P10 hbx (Below.refl _ _)
  have M11 := chain M10 hbx (Below.refl _ _)
  clear b0 b1 b2 b3 t0 t1 t2 t3
  obtain ⟨⟨b0, b1, b2, b3⟩, t0, t1, t2, t3⟩ := MK.out _ M11.out
  have T11 : Hid (Tabs w11) := Lib.hid (HT.out.keep P11.out)
  clear hbx
  go_wp2_with fail
  refine (AL.out _ T11.out).mono ?_
  rintro e w12 ⟨rfl, hbx⟩
  have P12 := chain P11 hbx (Below.refl _ _)
  have M12 := chain M11 hbx (Below.refl _ _)
  clear b0 b1 b2 b3 t0 t1 t2 t3
  obtain ⟨⟨b0, b1, b2, b3⟩, t0, t1, t2, t3⟩ := MK.out _ M12.out
  have T12 : Hid (Tabs w12) := Lib.hid (HT.out.keep P12.out)
  clear hbx
  go_wp2
  go_ret
  exact ⟨rfl, P12.out⟩
end Go.Proofs.YtjkfgchjdhgbgaaDoor.Vq
