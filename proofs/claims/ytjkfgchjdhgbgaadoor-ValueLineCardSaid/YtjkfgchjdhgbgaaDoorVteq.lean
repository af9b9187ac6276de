/- The walks of ValueLine, a way each (values: eq). -/
import Derived.Test.YtjkfgchjdhgbgaaDoorVt
namespace Go.Proofs.YtjkfgchjdhgbgaaDoor.Vteq
open Go Go.RowKit Go.Proofs.YtjkfgchjdhgbgaaDoor.Vm Go.Proofs.YtjkfgchjdhgbgaaDoor.Vl Go.Proofs.YtjkfgchjdhgbgaaDoor.Ve Go.Proofs.YtjkfgchjdhgbgaaDoor.Vr Go.Proofs.YtjkfgchjdhgbgaaDoor.Vs Go.Proofs.YtjkfgchjdhgbgaaDoor.Vc Go.Proofs.YtjkfgchjdhgbgaaDoor.Vk Go.Proofs.YtjkfgchjdhgbgaaDoor.Vt
set_option maxRecDepth 40000 in
set_option maxHeartbeats 4000000 in
theorem w_eq_lt1 (ka na kb nb kc nc : Int) (ra rb rc : Nat) (sa sb sc : ByteArray) (A1 A2 A3 : Option Addr) (N1 c1 N2 c2 N3 c3 : Nat) (w : World) (Q1 : Hid (∀ W, Below w.heap.size w W → Calls Tryd.prog 10 #[.agg #[.int .u8 ka, .int .i64 na, .int .u64 (ra : Int), .string sa]] W fun e w' => e = .returned (.int .i64 0) ∧ Below W.heap.size W w')) (Q2 : Hid (∀ W, Below w.heap.size w W → Calls Tryd.prog 10 #[.agg #[.int .u8 kb, .int .i64 nb, .int .u64 (rb : Int), .string sb]] W fun e w' => e = .returned (.int .i64 0) ∧ Below W.heap.size W w')) (Q3 : Hid (∀ W, Below w.heap.size w W → Calls Tryd.prog 10 #[.agg #[.int .u8 kc, .int .i64 nc, .int .u64 (rc : Int), .string sc]] W fun e w' => e = .returned (.int .i64 0) ∧ Below W.heap.size W w')) (Q4 : Hid (∀ W, Below w.heap.size w W → Calls Tryd.prog 12 #[.slice A1 N1 c1] W fun e w' => e = .returned (.int .i64 0) ∧ Below W.heap.size W w')) (Q5 : Hid (∀ W, Below w.heap.size w W → Calls Tryd.prog 12 #[.slice A2 N2 c2] W fun e w' => e = .returned (.int .i64 0) ∧ Below W.heap.size W w')) (Q6 : Hid (∀ W, Below w.heap.size w W → Calls Tryd.prog 12 #[.slice A3 N3 c3] W fun e w' => e = .returned (.int .i64 0) ∧ Below W.heap.size W w')) (AL : Hid (∀ W, Below w.heap.size w W → Calls Tryd.prog 8 #[] W fun e w' => e = .returned (.bool true) ∧ Below W.heap.size W w')) (L1 : Hid (∀ W, Below w.heap.size w W → Calls Tryd.prog 24 #[.agg #[.int .u8 ka, .int .i64 na, .int .u64 (ra : Int), .string sa], .agg #[.int .u8 kb, .int .i64 nb, .int .u64 (rb : Int), .string sb]] W fun e w' => e = .returned (.bool false) ∧ Below W.heap.size W w')) (L2 : Hid (∀ W, Below w.heap.size w W → Calls Tryd.prog 24 #[.agg #[.int .u8 kb, .int .i64 nb, .int .u64 (rb : Int), .string sb], .agg #[.int .u8 ka, .int .i64 na, .int .u64 (ra : Int), .string sa]] W fun e w' => e = .returned (.bool false) ∧ Below W.heap.size W w')) (R1 : Hid (∀ W, Below w.heap.size w W → Calls Tryd.prog 25 #[.slice A1 N1 c1, .slice A2 N2 c2] W fun e w' => e = .returned (.bool true) ∧ Below W.heap.size W w')) (R2 : Hid (∀ W, Below w.heap.size w W → Calls Tryd.prog 25 #[.slice A2 N2 c2, .slice A1 N1 c1] W fun e w' => e = .returned (.bool false) ∧ Below W.heap.size W w')) (S1 : Hid (∀ W, Below w.heap.size w W → Calls Tryd.prog 26 #[.slice A1 N1 c1, .slice A2 N2 c2] W fun e w' => e = .returned (.bool false) ∧ Below W.heap.size W w')) (R3 : Hid (∀ W, Below w.heap.size w W → Calls Tryd.prog 25 #[.slice A2 N2 c2, .slice A3 N3 c3] W fun e w' => e = .returned (.bool true) ∧ Below W.heap.size W w')) (R4 : Hid (∀ W, Below w.heap.size w W → Calls Tryd.prog 25 #[.slice A1 N1 c1, .slice A3 N3 c3] W fun e w' => e = .returned (.bool true) ∧ Below W.heap.size W w')) (hE : eqI ka na ra sa kb nb rb sb = true) :
    Calls Tryd.prog 5 #[.agg #[.int .u8 ka, .int .i64 na, .int .u64 (ra : Int), .string sa], .agg #[.int .u8 kb, .int .i64 nb, .int .u64 (rb : Int), .string sb], .agg #[.int .u8 kc, .int .i64 nc, .int .u64 (rc : Int), .string sc], .slice A1 N1 c1, .slice A2 N2 c2, .slice A3 N3 c3] w fun e w' => e = .returned (.bool true) ∧ Below w.heap.size w w' := by
  have he := run_eqI ka na ra sa kb nb rb sb
  rw [hE] at he
  clear hE
  have MK : Hid (∀ W, Below (((w.alloc (.cells #[.int .u8 ka, .int .i64 na, .int .u64 (ra : Int), .string sa] 24)).alloc (.cells #[.int .u8 kb, .int .i64 nb, .int .u64 (rb : Int), .string sb] 24)).alloc (.cells #[.int .u8 kc, .int .i64 nc, .int .u64 (rc : Int), .string sc] 24)).heap.size (((w.alloc (.cells #[.int .u8 ka, .int .i64 na, .int .u64 (ra : Int), .string sa] 24)).alloc (.cells #[.int .u8 kb, .int .i64 nb, .int .u64 (rb : Int), .string sb] 24)).alloc (.cells #[.int .u8 kc, .int .i64 nc, .int .u64 (rc : Int), .string sc] 24)) W → W.cell? ⟨w.heap.size, 0, none⟩ = some (.int .u8 ka) ∧ W.cell? ⟨w.heap.size, 1, none⟩ = some (.int .i64 na) ∧ W.cell? ⟨w.heap.size, 2, none⟩ = some (.int .u64 (ra : Int)) ∧ W.cell? ⟨w.heap.size, 3, none⟩ = some (.string sa) ∧ W.cell? ⟨w.heap.size + 1, 0, none⟩ = some (.int .u8 kb) ∧ W.cell? ⟨w.heap.size + 1, 1, none⟩ = some (.int .i64 nb) ∧ W.cell? ⟨w.heap.size + 1, 2, none⟩ = some (.int .u64 (rb : Int)) ∧ W.cell? ⟨w.heap.size + 1, 3, none⟩ = some (.string sb) ∧ W.cell? ⟨w.heap.size + 2, 0, none⟩ = some (.int .u8 kc) ∧ W.cell? ⟨w.heap.size + 2, 1, none⟩ = some (.int .i64 nc) ∧ W.cell? ⟨w.heap.size + 2, 2, none⟩ = some (.int .u64 (rc : Int)) ∧ W.cell? ⟨w.heap.size + 2, 3, none⟩ = some (.string sc)) := Lib.hid fun W hW => by
    obtain ⟨f0, f1, f2⟩ := three w W _ _ _ hW
    refine ⟨?_, ?_, ?_, ?_, ?_, ?_, ?_, ?_, ?_, ?_, ?_, ?_⟩ <;> (unfold World.cell?; first | (rw [f0]; rfl) | (rw [f1]; rfl) | (rw [f2]; rfl))
  have P0 : Hid (Below w.heap.size w (((w.alloc (.cells #[.int .u8 ka, .int .i64 na, .int .u64 (ra : Int), .string sa] 24)).alloc (.cells #[.int .u8 kb, .int .i64 nb, .int .u64 (rb : Int), .string sb] 24)).alloc (.cells #[.int .u8 kc, .int .i64 nc, .int .u64 (rc : Int), .string sc] 24))) := Lib.hid (below3 w _ _ _)
  have M0 : Hid (Below (((w.alloc (.cells #[.int .u8 ka, .int .i64 na, .int .u64 (ra : Int), .string sa] 24)).alloc (.cells #[.int .u8 kb, .int .i64 nb, .int .u64 (rb : Int), .string sb] 24)).alloc (.cells #[.int .u8 kc, .int .i64 nc, .int .u64 (rc : Int), .string sc] 24)).heap.size (((w.alloc (.cells #[.int .u8 ka, .int .i64 na, .int .u64 (ra : Int), .string sa] 24)).alloc (.cells #[.int .u8 kb, .int .i64 nb, .int .u64 (rb : Int), .string sb] 24)).alloc (.cells #[.int .u8 kc, .int .i64 nc, .int .u64 (rc : Int), .string sc] 24)) (((w.alloc (.cells #[.int .u8 ka, .int .i64 na, .int .u64 (ra : Int), .string sa] 24)).alloc (.cells #[.int .u8 kb, .int .i64 nb, .int .u64 (rb : Int), .string sb] 24)).alloc (.cells #[.int .u8 kc, .int .i64 nc, .int .u64 (rc : Int), .string sc] 24))) := Lib.hid (Below.refl _ _)
  go_enter Tryd.func5, Tryd.ntmps5
  go_wp2_with fail
  refine (Q1.out _ P0.out).mono ?_
  rintro e w1 ⟨rfl, hbx⟩
  have P1 := chain P0 hbx (Below.refl _ _)
  have M1 := chain M0 hbx (Below.refl _ _)
  obtain ⟨x0, x1, x2, x3, x4, x5, x6, x7, x8, x9, x10, x11⟩ := MK.out _ M1.out
  clear hbx M0 P0
  go_wp2_with fail
  refine (Q2.out _ P1.out).mono ?_
  rintro e w2 ⟨rfl, hbx⟩
  have P2 := chain P1 hbx (Below.refl _ _)
  have M2 := chain M1 hbx (Below.refl _ _)
  clear x0 x1 x2 x3 x4 x5 x6 x7 x8 x9 x10 x11
  obtain ⟨x0, x1, x2, x3, x4, x5, x6, x7, x8, x9, x10, x11⟩ := MK.out _ M2.out
  clear hbx M1 P1
  go_wp2_with fail
  refine (Q3.out _ P2.out).mono ?_
  rintro e w3 ⟨rfl, hbx⟩
  have P3 := chain P2 hbx (Below.refl _ _)
  have M3 := chain M2 hbx (Below.refl _ _)
  clear x0 x1 x2 x3 x4 x5 x6 x7 x8 x9 x10 x11
  obtain ⟨x0, x1, x2, x3, x4, x5, x6, x7, x8, x9, x10, x11⟩ := MK.out _ M3.out
  clear hbx M2 P2
  go_wp2_with fail
  refine (Q4.out _ P3.out).mono ?_
  rintro e w4 ⟨rfl, hbx⟩
  have P4 := chain P3 hbx (Below.refl _ _)
  have M4 := chain M3 hbx (Below.refl _ _)
  clear x0 x1 x2 x3 x4 x5 x6 x7 x8 x9 x10 x11
  obtain ⟨x0, x1, x2, x3, x4, x5, x6, x7, x8, x9, x10, x11⟩ := MK.out _ M4.out
  clear hbx M3 P3
  go_wp2_with fail
  refine (Q5.out _ P4.out).mono ?_
  rintro e w5 ⟨rfl, hbx⟩
  have P5 := chain P4 hbx (Below.refl _ _)
  have M5 := chain M4 hbx (Below.refl _ _)
  clear x0 x1 x2 x3 x4 x5 x6 x7 x8 x9 x10 x11
  obtain ⟨x0, x1, x2, x3, x4, x5, x6, x7, x8, x9, x10, x11⟩ := MK.out _ M5.out
  clear hbx M4 P4
  go_wp2_with fail
  refine (Q6.out _ P5.out).mono ?_
  rintro e w6 ⟨rfl, hbx⟩
  have P6 := chain P5 hbx (Below.refl _ _)
  have M6 := chain M5 hbx (Below.refl _ _)
  clear x0 x1 x2 x3 x4 x5 x6 x7 x8 x9 x10 x11
  obtain ⟨x0, x1, x2, x3, x4, x5, x6, x7, x8, x9, x10, x11⟩ := MK.out _ M6.out
  clear hbx M5 P5
  go_wp2_with fail
  refine (L1.out _ P6.out).mono ?_
  rintro e w7 ⟨rfl, hbx⟩
  have P7 := chain P6 hbx (Below.refl _ _)
  have M7 := chain M6 hbx (Below.refl _ _)
  clear x0 x1 x2 x3 x4 x5 x6 x7 x8 x9 x10 x11
  obtain ⟨x0, x1, x2, x3, x4, x5, x6, x7, x8, x9, x10, x11⟩ := MK.out _ M7.out
  clear hbx M6 P6
  go_wp2_with fail
  refine (L2.out _ P7.out).mono ?_
  rintro e w8 ⟨rfl, hbx⟩
  have P8 := chain P7 hbx (Below.refl _ _)
  have M8 := chain M7 hbx (Below.refl _ _)
  clear x0 x1 x2 x3 x4 x5 x6 x7 x8 x9 x10 x11
  obtain ⟨x0, x1, x2, x3, x4, x5, x6, x7, x8, x9, x10, x11⟩ := MK.out _ M8.out
  clear hbx M7 P7
  go_wp2_with fail
  refine (L1.out _ P8.out).mono ?_
  rintro e w9 ⟨rfl, hbx⟩
  have P9 := chain P8 hbx (Below.refl _ _)
  have M9 := chain M8 hbx (Below.refl _ _)
  clear x0 x1 x2 x3 x4 x5 x6 x7 x8 x9 x10 x11
  obtain ⟨x0, x1, x2, x3, x4, x5, x6, x7, x8, x9, x10, x11⟩ := MK.out _ M9.out
  clear hbx M8 P8
  go_wp2_with fail
  refine (R1.out _ P9.out).mono ?_
  rintro e w10 ⟨rfl, hbx⟩
  have P10 := chain P9 hbx (Below.refl _ _)
  have M10 := chain M9 hbx (Below.refl _ _)
  clear x0 x1 x2 x3 x4 x5 x6 x7 x8 x9 x10 x11
  obtain ⟨x0, x1, x2, x3, x4, x5, x6, x7, x8, x9, x10, x11⟩ := MK.out _ M10.out
  clear hbx M9 P9
  go_wp2_with fail
  refine (R2.out _ P10.out).mono ?_
  rintro e w11 ⟨rfl, hbx⟩
  have P11 := chain P10 hbx (Below.refl _ _)
  have M11 := chain M10 hbx (Below.refl _ _)
  clear x0 x1 x2 x3 x4 x5 x6 x7 x8 x9 x10 x11
  obtain ⟨x0, x1, x2, x3, x4, x5, x6, x7, x8, x9, x10, x11⟩ := MK.out _ M11.out
  clear hbx M10 P10
  go_wp2_with fail
  refine (S1.out _ P11.out).mono ?_
  rintro e w12 ⟨rfl, hbx⟩
  have P12 := chain P11 hbx (Below.refl _ _)
  have M12 := chain M11 hbx (Below.refl _ _)
  clear x0 x1 x2 x3 x4 x5 x6 x7 x8 x9 x10 x11
  obtain ⟨x0, x1, x2, x3, x4, x5, x6, x7, x8, x9, x10, x11⟩ := MK.out _ M12.out
  clear hbx M11 P11
  go_wp2_with fail
  refine (R1.out _ P12.out).mono ?_
  rintro e w13 ⟨rfl, hbx⟩
  have P13 := chain P12 hbx (Below.refl _ _)
  have M13 := chain M12 hbx (Below.refl _ _)
  clear x0 x1 x2 x3 x4 x5 x6 x7 x8 x9 x10 x11
  obtain ⟨x0, x1, x2, x3, x4, x5, x6, x7, x8, x9, x10, x11⟩ := MK.out _ M13.out
  clear hbx M12 P12
  go_wp2_with fail
  refine (R3.out _ P13.out).mono ?_
  rintro e w14 ⟨rfl, hbx⟩
  have P14 := chain P13 hbx (Below.refl _ _)
  have M14 := chain M13 hbx (Below.refl _ _)
  clear x0 x1 x2 x3 x4 x5 x6 x7 x8 x9 x10 x11
  obtain ⟨x0, x1, x2, x3, x4, x5, x6, x7, x8, x9, x10, x11⟩ := MK.out _ M14.out
  clear hbx M13 P13
  go_wp2_with fail
  refine (R4.out _ P14.out).mono ?_
  rintro e w15 ⟨rfl, hbx⟩
  have P15 := chain P14 hbx (Below.refl _ _)
  have M15 := chain M14 hbx (Below.refl _ _)
  clear x0 x1 x2 x3 x4 x5 x6 x7 x8 x9 x10 x11
  obtain ⟨x0, x1, x2, x3, x4, x5, x6, x7, x8, x9, x10, x11⟩ := MK.out _ M15.out
  clear hbx M14 P14
  go_wp2_with fail
  refine (AL.out _ P15.out).mono ?_
  rintro e w16 ⟨rfl, hbx⟩
  have P16 := chain P15 hbx (Below.refl _ _)
  have M16 := chain M15 hbx (Below.refl _ _)
  clear x0 x1 x2 x3 x4 x5 x6 x7 x8 x9 x10 x11
  obtain ⟨x0, x1, x2, x3, x4, x5, x6, x7, x8, x9, x10, x11⟩ := MK.out _ M16.out
  clear hbx M15 P15
  go_wp2
  go_ret
  exact ⟨rfl, P16.out⟩
set_option maxRecDepth 40000 in
set_option maxHeartbeats 4000000 in
theorem w_eq_lt0 (ka na kb nb kc nc : Int) (ra rb rc : Nat) (sa sb sc : ByteArray) (A1 A2 A3 : Option Addr) (N1 c1 N2 c2 N3 c3 : Nat) (w : World) (Q1 : Hid (∀ W, Below w.heap.size w W → Calls Tryd.prog 10 #[.agg #[.int .u8 ka, .int .i64 na, .int .u64 (ra : Int), .string sa]] W fun e w' => e = .returned (.int .i64 0) ∧ Below W.heap.size W w')) (Q2 : Hid (∀ W, Below w.heap.size w W → Calls Tryd.prog 10 #[.agg #[.int .u8 kb, .int .i64 nb, .int .u64 (rb : Int), .string sb]] W fun e w' => e = .returned (.int .i64 0) ∧ Below W.heap.size W w')) (Q3 : Hid (∀ W, Below w.heap.size w W → Calls Tryd.prog 10 #[.agg #[.int .u8 kc, .int .i64 nc, .int .u64 (rc : Int), .string sc]] W fun e w' => e = .returned (.int .i64 0) ∧ Below W.heap.size W w')) (Q4 : Hid (∀ W, Below w.heap.size w W → Calls Tryd.prog 12 #[.slice A1 N1 c1] W fun e w' => e = .returned (.int .i64 0) ∧ Below W.heap.size W w')) (Q5 : Hid (∀ W, Below w.heap.size w W → Calls Tryd.prog 12 #[.slice A2 N2 c2] W fun e w' => e = .returned (.int .i64 0) ∧ Below W.heap.size W w')) (Q6 : Hid (∀ W, Below w.heap.size w W → Calls Tryd.prog 12 #[.slice A3 N3 c3] W fun e w' => e = .returned (.int .i64 0) ∧ Below W.heap.size W w')) (AL : Hid (∀ W, Below w.heap.size w W → Calls Tryd.prog 8 #[] W fun e w' => e = .returned (.bool true) ∧ Below W.heap.size W w')) (L1 : Hid (∀ W, Below w.heap.size w W → Calls Tryd.prog 24 #[.agg #[.int .u8 ka, .int .i64 na, .int .u64 (ra : Int), .string sa], .agg #[.int .u8 kb, .int .i64 nb, .int .u64 (rb : Int), .string sb]] W fun e w' => e = .returned (.bool false) ∧ Below W.heap.size W w')) (L2 : Hid (∀ W, Below w.heap.size w W → Calls Tryd.prog 24 #[.agg #[.int .u8 kb, .int .i64 nb, .int .u64 (rb : Int), .string sb], .agg #[.int .u8 ka, .int .i64 na, .int .u64 (ra : Int), .string sa]] W fun e w' => e = .returned (.bool false) ∧ Below W.heap.size W w')) (R1 : Hid (∀ W, Below w.heap.size w W → Calls Tryd.prog 25 #[.slice A1 N1 c1, .slice A2 N2 c2] W fun e w' => e = .returned (.bool true) ∧ Below W.heap.size W w')) (R2 : Hid (∀ W, Below w.heap.size w W → Calls Tryd.prog 25 #[.slice A2 N2 c2, .slice A1 N1 c1] W fun e w' => e = .returned (.bool false) ∧ Below W.heap.size W w')) (S1 : Hid (∀ W, Below w.heap.size w W → Calls Tryd.prog 26 #[.slice A1 N1 c1, .slice A2 N2 c2] W fun e w' => e = .returned (.bool false) ∧ Below W.heap.size W w')) (R3 : Hid (∀ W, Below w.heap.size w W → Calls Tryd.prog 25 #[.slice A2 N2 c2, .slice A3 N3 c3] W fun e w' => e = .returned (.bool false) ∧ Below W.heap.size W w')) (hE : eqI ka na ra sa kb nb rb sb = true) :
    Calls Tryd.prog 5 #[.agg #[.int .u8 ka, .int .i64 na, .int .u64 (ra : Int), .string sa], .agg #[.int .u8 kb, .int .i64 nb, .int .u64 (rb : Int), .string sb], .agg #[.int .u8 kc, .int .i64 nc, .int .u64 (rc : Int), .string sc], .slice A1 N1 c1, .slice A2 N2 c2, .slice A3 N3 c3] w fun e w' => e = .returned (.bool true) ∧ Below w.heap.size w w' := by
  have he := run_eqI ka na ra sa kb nb rb sb
  rw [hE] at he
  clear hE
  have MK : Hid (∀ W, Below (((w.alloc (.cells #[.int .u8 ka, .int .i64 na, .int .u64 (ra : Int), .string sa] 24)).alloc (.cells #[.int .u8 kb, .int .i64 nb, .int .u64 (rb : Int), .string sb] 24)).alloc (.cells #[.int .u8 kc, .int .i64 nc, .int .u64 (rc : Int), .string sc] 24)).heap.size (((w.alloc (.cells #[.int .u8 ka, .int .i64 na, .int .u64 (ra : Int), .string sa] 24)).alloc (.cells #[.int .u8 kb, .int .i64 nb, .int .u64 (rb : Int), .string sb] 24)).alloc (.cells #[.int .u8 kc, .int .i64 nc, .int .u64 (rc : Int), .string sc] 24)) W → W.cell? ⟨w.heap.size, 0, none⟩ = some (.int .u8 ka) ∧ W.cell? ⟨w.heap.size, 1, none⟩ = some (.int .i64 na) ∧ W.cell? ⟨w.heap.size, 2, none⟩ = some (.int .u64 (ra : Int)) ∧ W.cell? ⟨w.heap.size, 3, none⟩ = some (.string sa) ∧ W.cell? ⟨w.heap.size + 1, 0, none⟩ = some (.int .u8 kb) ∧ W.cell? ⟨w.heap.size + 1, 1, none⟩ = some (.int .i64 nb) ∧ W.cell? ⟨w.heap.size + 1, 2, none⟩ = some (.int .u64 (rb : Int)) ∧ W.cell? ⟨w.heap.size + 1, 3, none⟩ = some (.string sb) ∧ W.cell? ⟨w.heap.size + 2, 0, none⟩ = some (.int .u8 kc) ∧ W.cell? ⟨w.heap.size + 2, 1, none⟩ = some (.int .i64 nc) ∧ W.cell? ⟨w.heap.size + 2, 2, none⟩ = some (.int .u64 (rc : Int)) ∧ W.cell? ⟨w.heap.size + 2, 3, none⟩ = some (.string sc)) := Lib.hid fun W hW => by
    obtain ⟨f0, f1, f2⟩ := three w W _ _ _ hW
    refine ⟨?_, ?_, ?_, ?_, ?_, ?_, ?_, ?_, ?_, ?_, ?_, ?_⟩ <;> (unfold World.cell?; first | (rw [f0]; rfl) | (rw [f1]; rfl) | (rw [f2]; rfl))
  have P0 : Hid (Below w.heap.size w (((w.alloc (.cells #[.int .u8 ka, .int .i64 na, .int .u64 (ra : Int), .string sa] 24)).alloc (.cells #[.int .u8 kb, .int .i64 nb, .int .u64 (rb : Int), .string sb] 24)).alloc (.cells #[.int .u8 kc, .int .i64 nc, .int .u64 (rc : Int), .string sc] 24))) := Lib.hid (below3 w _ _ _)
  have M0 : Hid (Below (((w.alloc (.cells #[.int .u8 ka, .int .i64 na, .int .u64 (ra : Int), .string sa] 24)).alloc (.cells #[.int .u8 kb, .int .i64 nb, .int .u64 (rb : Int), .string sb] 24)).alloc (.cells #[.int .u8 kc, .int .i64 nc, .int .u64 (rc : Int), .string sc] 24)).heap.size (((w.alloc (.cells #[.int .u8 ka, .int .i64 na, .int .u64 (ra : Int), .string sa] 24)).alloc (.cells #[.int .u8 kb, .int .i64 nb, .int .u64 (rb : Int), .string sb] 24)).alloc (.cells #[.int .u8 kc, .int .i64 nc, .int .u64 (rc : Int), .string sc] 24)) (((w.alloc (.cells #[.int .u8 ka, .int .i64 na, .int .u64 (ra : Int), .string sa] 24)).alloc (.cells #[.int .u8 kb, .int .i64 nb, .int .u64 (rb : Int), .string sb] 24)).alloc (.cells #[.int .u8 kc, .int .i64 nc, .int .u64 (rc : Int), .string sc] 24))) := Lib.hid (Below.refl _ _)
  go_enter Tryd.func5, Tryd.ntmps5
  go_wp2_with fail
  refine (Q1.out _ P0.out).mono ?_
  rintro e w1 ⟨rfl, hbx⟩
  have P1 := chain P0 hbx (Below.refl _ _)
  have M1 := chain M0 hbx (Below.refl _ _)
  obtain ⟨x0, x1, x2, x3, x4, x5, x6, x7, x8, x9, x10, x11⟩ := MK.out _ M1.out
  clear hbx M0 P0
  go_wp2_with fail
  refine (Q2.out _ P1.out).mono ?_
  rintro e w2 ⟨rfl, hbx⟩
  have P2 := chain P1 hbx (Below.refl _ _)
  have M2 := chain M1 hbx (Below.refl _ _)
  clear x0 x1 x2 x3 x4 x5 x6 x7 x8 x9 x10 x11
  obtain ⟨x0, x1, x2, x3, x4, x5, x6, x7, x8, x9, x10, x11⟩ := MK.out _ M2.out
  clear hbx M1 P1
  go_wp2_with fail
  refine (Q3.out _ P2.out).mono ?_
  rintro e w3 ⟨rfl, hbx⟩
  have P3 := chain P2 hbx (Below.refl _ _)
  have M3 := chain M2 hbx (Below.refl _ _)
  clear x0 x1 x2 x3 x4 x5 x6 x7 x8 x9 x10 x11
  obtain ⟨x0, x1, x2, x3, x4, x5, x6, x7, x8, x9, x10, x11⟩ := MK.out _ M3.out
  clear hbx M2 P2
  go_wp2_with fail
  refine (Q4.out _ P3.out).mono ?_
  rintro e w4 ⟨rfl, hbx⟩
  have P4 := chain P3 hbx (Below.refl _ _)
  have M4 := chain M3 hbx (Below.refl _ _)
  clear x0 x1 x2 x3 x4 x5 x6 x7 x8 x9 x10 x11
  obtain ⟨x0, x1, x2, x3, x4, x5, x6, x7, x8, x9, x10, x11⟩ := MK.out _ M4.out
  clear hbx M3 P3
  go_wp2_with fail
  refine (Q5.out _ P4.out).mono ?_
  rintro e w5 ⟨rfl, hbx⟩
  have P5 := chain P4 hbx (Below.refl _ _)
  have M5 := chain M4 hbx (Below.refl _ _)
  clear x0 x1 x2 x3 x4 x5 x6 x7 x8 x9 x10 x11
  obtain ⟨x0, x1, x2, x3, x4, x5, x6, x7, x8, x9, x10, x11⟩ := MK.out _ M5.out
  clear hbx M4 P4
  go_wp2_with fail
  refine (Q6.out _ P5.out).mono ?_
  rintro e w6 ⟨rfl, hbx⟩
  have P6 := chain P5 hbx (Below.refl _ _)
  have M6 := chain M5 hbx (Below.refl _ _)
  clear x0 x1 x2 x3 x4 x5 x6 x7 x8 x9 x10 x11
  obtain ⟨x0, x1, x2, x3, x4, x5, x6, x7, x8, x9, x10, x11⟩ := MK.out _ M6.out
  clear hbx M5 P5
  go_wp2_with fail
  refine (L1.out _ P6.out).mono ?_
  rintro e w7 ⟨rfl, hbx⟩
  have P7 := chain P6 hbx (Below.refl _ _)
  have M7 := chain M6 hbx (Below.refl _ _)
  clear x0 x1 x2 x3 x4 x5 x6 x7 x8 x9 x10 x11
  obtain ⟨x0, x1, x2, x3, x4, x5, x6, x7, x8, x9, x10, x11⟩ := MK.out _ M7.out
  clear hbx M6 P6
  go_wp2_with fail
  refine (L2.out _ P7.out).mono ?_
  rintro e w8 ⟨rfl, hbx⟩
  have P8 := chain P7 hbx (Below.refl _ _)
  have M8 := chain M7 hbx (Below.refl _ _)
  clear x0 x1 x2 x3 x4 x5 x6 x7 x8 x9 x10 x11
  obtain ⟨x0, x1, x2, x3, x4, x5, x6, x7, x8, x9, x10, x11⟩ := MK.out _ M8.out
  clear hbx M7 P7
  go_wp2_with fail
  refine (L1.out _ P8.out).mono ?_
  rintro e w9 ⟨rfl, hbx⟩
  have P9 := chain P8 hbx (Below.refl _ _)
  have M9 := chain M8 hbx (Below.refl _ _)
  clear x0 x1 x2 x3 x4 x5 x6 x7 x8 x9 x10 x11
  obtain ⟨x0, x1, x2, x3, x4, x5, x6, x7, x8, x9, x10, x11⟩ := MK.out _ M9.out
  clear hbx M8 P8
  go_wp2_with fail
  refine (R1.out _ P9.out).mono ?_
  rintro e w10 ⟨rfl, hbx⟩
  have P10 := chain P9 hbx (Below.refl _ _)
  have M10 := chain M9 hbx (Below.refl _ _)
  clear x0 x1 x2 x3 x4 x5 x6 x7 x8 x9 x10 x11
  obtain ⟨x0, x1, x2, x3, x4, x5, x6, x7, x8, x9, x10, x11⟩ := MK.out _ M10.out
  clear hbx M9 P9
  go_wp2_with fail
  refine (R2.out _ P10.out).mono ?_
  rintro e w11 ⟨rfl, hbx⟩
  have P11 := chain P10 hbx (Below.refl _ _)
  have M11 := chain M10 hbx (Below.refl _ _)
  clear x0 x1 x2 x3 x4 x5 x6 x7 x8 x9 x10 x11
  obtain ⟨x0, x1, x2, x3, x4, x5, x6, x7, x8, x9, x10, x11⟩ := MK.out _ M11.out
  clear hbx M10 P10
  go_wp2_with fail
  refine (S1.out _ P11.out).mono ?_
  rintro e w12 ⟨rfl, hbx⟩
  have P12 := chain P11 hbx (Below.refl _ _)
  have M12 := chain M11 hbx (Below.refl _ _)
  clear x0 x1 x2 x3 x4 x5 x6 x7 x8 x9 x10 x11
  obtain ⟨x0, x1, x2, x3, x4, x5, x6, x7, x8, x9, x10, x11⟩ := MK.out _ M12.out
  clear hbx M11 P11
  go_wp2_with fail
  refine (R1.out _ P12.out).mono ?_
  rintro e w13 ⟨rfl, hbx⟩
  have P13 := chain P12 hbx (Below.refl _ _)
  have M13 := chain M12 hbx (Below.refl _ _)
  clear x0 x1 x2 x3 x4 x5 x6 x7 x8 x9 x10 x11
  obtain ⟨x0, x1, x2, x3, x4, x5, x6, x7, x8, x9, x10, x11⟩ := MK.out _ M13.out
  clear hbx M12 P12
  go_wp2_with fail
  refine (R3.out _ P13.out).mono ?_
  rintro e w14 ⟨rfl, hbx⟩
  have P14 := chain P13 hbx (Below.refl _ _)
  have M14 := chain M13 hbx (Below.refl _ _)
  clear x0 x1 x2 x3 x4 x5 x6 x7 x8 x9 x10 x11
  obtain ⟨x0, x1, x2, x3, x4, x5, x6, x7, x8, x9, x10, x11⟩ := MK.out _ M14.out
  clear hbx M13 P13
  go_wp2_with fail
  refine (AL.out _ P14.out).mono ?_
  rintro e w15 ⟨rfl, hbx⟩
  have P15 := chain P14 hbx (Below.refl _ _)
  have M15 := chain M14 hbx (Below.refl _ _)
  clear x0 x1 x2 x3 x4 x5 x6 x7 x8 x9 x10 x11
  obtain ⟨x0, x1, x2, x3, x4, x5, x6, x7, x8, x9, x10, x11⟩ := MK.out _ M15.out
  clear hbx M14 P14
  go_wp2
  go_ret
  exact ⟨rfl, P15.out⟩
set_option maxRecDepth 40000 in
set_option maxHeartbeats 4000000 in
theorem w_eq_gt (ka na kb nb kc nc : Int) (ra rb rc : Nat) (sa sb sc : ByteArray) (A1 A2 A3 : Option Addr) (N1 c1 N2 c2 N3 c3 : Nat) (w : World) (Q1 : Hid (∀ W, Below w.heap.size w W → Calls Tryd.prog 10 #[.agg #[.int .u8 ka, .int .i64 na, .int .u64 (ra : Int), .string sa]] W fun e w' => e = .returned (.int .i64 0) ∧ Below W.heap.size W w')) (Q2 : Hid (∀ W, Below w.heap.size w W → Calls Tryd.prog 10 #[.agg #[.int .u8 kb, .int .i64 nb, .int .u64 (rb : Int), .string sb]] W fun e w' => e = .returned (.int .i64 0) ∧ Below W.heap.size W w')) (Q3 : Hid (∀ W, Below w.heap.size w W → Calls Tryd.prog 10 #[.agg #[.int .u8 kc, .int .i64 nc, .int .u64 (rc : Int), .string sc]] W fun e w' => e = .returned (.int .i64 0) ∧ Below W.heap.size W w')) (Q4 : Hid (∀ W, Below w.heap.size w W → Calls Tryd.prog 12 #[.slice A1 N1 c1] W fun e w' => e = .returned (.int .i64 0) ∧ Below W.heap.size W w')) (Q5 : Hid (∀ W, Below w.heap.size w W → Calls Tryd.prog 12 #[.slice A2 N2 c2] W fun e w' => e = .returned (.int .i64 0) ∧ Below W.heap.size W w')) (Q6 : Hid (∀ W, Below w.heap.size w W → Calls Tryd.prog 12 #[.slice A3 N3 c3] W fun e w' => e = .returned (.int .i64 0) ∧ Below W.heap.size W w')) (AL : Hid (∀ W, Below w.heap.size w W → Calls Tryd.prog 8 #[] W fun e w' => e = .returned (.bool true) ∧ Below W.heap.size W w')) (L1 : Hid (∀ W, Below w.heap.size w W → Calls Tryd.prog 24 #[.agg #[.int .u8 ka, .int .i64 na, .int .u64 (ra : Int), .string sa], .agg #[.int .u8 kb, .int .i64 nb, .int .u64 (rb : Int), .string sb]] W fun e w' => e = .returned (.bool false) ∧ Below W.heap.size W w')) (L2 : Hid (∀ W, Below w.heap.size w W → Calls Tryd.prog 24 #[.agg #[.int .u8 kb, .int .i64 nb, .int .u64 (rb : Int), .string sb], .agg #[.int .u8 ka, .int .i64 na, .int .u64 (ra : Int), .string sa]] W fun e w' => e = .returned (.bool false) ∧ Below W.heap.size W w')) (R1 : Hid (∀ W, Below w.heap.size w W → Calls Tryd.prog 25 #[.slice A1 N1 c1, .slice A2 N2 c2] W fun e w' => e = .returned (.bool false) ∧ Below W.heap.size W w')) (R2 : Hid (∀ W, Below w.heap.size w W → Calls Tryd.prog 25 #[.slice A2 N2 c2, .slice A1 N1 c1] W fun e w' => e = .returned (.bool true) ∧ Below W.heap.size W w')) (S1 : Hid (∀ W, Below w.heap.size w W → Calls Tryd.prog 26 #[.slice A1 N1 c1, .slice A2 N2 c2] W fun e w' => e = .returned (.bool false) ∧ Below W.heap.size W w')) (hE : eqI ka na ra sa kb nb rb sb = true) :
    Calls Tryd.prog 5 #[.agg #[.int .u8 ka, .int .i64 na, .int .u64 (ra : Int), .string sa], .agg #[.int .u8 kb, .int .i64 nb, .int .u64 (rb : Int), .string sb], .agg #[.int .u8 kc, .int .i64 nc, .int .u64 (rc : Int), .string sc], .slice A1 N1 c1, .slice A2 N2 c2, .slice A3 N3 c3] w fun e w' => e = .returned (.bool true) ∧ Below w.heap.size w w' := by
  have he := run_eqI ka na ra sa kb nb rb sb
  rw [hE] at he
  clear hE
  have MK : Hid (∀ W, Below (((w.alloc (.cells #[.int .u8 ka, .int .i64 na, .int .u64 (ra : Int), .string sa] 24)).alloc (.cells #[.int .u8 kb, .int .i64 nb, .int .u64 (rb : Int), .string sb] 24)).alloc (.cells #[.int .u8 kc, .int .i64 nc, .int .u64 (rc : Int), .string sc] 24)).heap.size (((w.alloc (.cells #[.int .u8 ka, .int .i64 na, .int .u64 (ra : Int), .string sa] 24)).alloc (.cells #[.int .u8 kb, .int .i64 nb, .int .u64 (rb : Int), .string sb] 24)).alloc (.cells #[.int .u8 kc, .int .i64 nc, .int .u64 (rc : Int), .string sc] 24)) W → W.cell? ⟨w.heap.size, 0, none⟩ = some (.int .u8 ka) ∧ W.cell? ⟨w.heap.size, 1, none⟩ = some (.int .i64 na) ∧ W.cell? ⟨w.heap.size, 2, none⟩ = some (.int .u64 (ra : Int)) ∧ W.cell? ⟨w.heap.size, 3, none⟩ = some (.string sa) ∧ W.cell? ⟨w.heap.size + 1, 0, none⟩ = some (.int .u8 kb) ∧ W.cell? ⟨w.heap.size + 1, 1, none⟩ = some (.int .i64 nb) ∧ W.cell? ⟨w.heap.size + 1, 2, none⟩ = some (.int .u64 (rb : Int)) ∧ W.cell? ⟨w.heap.size + 1, 3, none⟩ = some (.string sb) ∧ W.cell? ⟨w.heap.size + 2, 0, none⟩ = some (.int .u8 kc) ∧ W.cell? ⟨w.heap.size + 2, 1, none⟩ = some (.int .i64 nc) ∧ W.cell? ⟨w.heap.size + 2, 2, none⟩ = some (.int .u64 (rc : Int)) ∧ W.cell? ⟨w.heap.size + 2, 3, none⟩ = some (.string sc)) := Lib.hid fun W hW => by
    obtain ⟨f0, f1, f2⟩ := three w W _ _ _ hW
    refine ⟨?_, ?_, ?_, ?_, ?_, ?_, ?_, ?_, ?_, ?_, ?_, ?_⟩ <;> (unfold World.cell?; first | (rw [f0]; rfl) | (rw [f1]; rfl) | (rw [f2]; rfl))
  have P0 : Hid (Below w.heap.size w (((w.alloc (.cells #[.int .u8 ka, .int .i64 na, .int .u64 (ra : Int), .string sa] 24)).alloc (.cells #[.int .u8 kb, .int .i64 nb, .int .u64 (rb : Int), .string sb] 24)).alloc (.cells #[.int .u8 kc, .int .i64 nc, .int .u64 (rc : Int), .string sc] 24))) := Lib.hid (below3 w _ _ _)
  have M0 : Hid (Below (((w.alloc (.cells #[.int .u8 ka, .int .i64 na, .int .u64 (ra : Int), .string sa] 24)).alloc (.cells #[.int .u8 kb, .int .i64 nb, .int .u64 (rb : Int), .string sb] 24)).alloc (.cells #[.int .u8 kc, .int .i64 nc, .int .u64 (rc : Int), .string sc] 24)).heap.size (((w.alloc (.cells #[.int .u8 ka, .int .i64 na, .int .u64 (ra : Int), .string sa] 24)).alloc (.cells #[.int .u8 kb, .int .i64 nb, .int .u64 (rb : Int), .string sb] 24)).alloc (.cells #[.int .u8 kc, .int .i64 nc, .int .u64 (rc : Int), .string sc] 24)) (((w.alloc (.cells #[.int .u8 ka, .int .i64 na, .int .u64 (ra : Int), .string sa] 24)).alloc (.cells #[.int .u8 kb, .int .i64 nb, .int .u64 (rb : Int), .string sb] 24)).alloc (.cells #[.int .u8 kc, .int .i64 nc, .int .u64 (rc : Int), .string sc] 24))) := Lib.hid (Below.refl _ _)
  go_enter Tryd.func5, Tryd.ntmps5
  go_wp2_with fail
  refine (Q1.out _ P0.out).mono ?_
  rintro e w1 ⟨rfl, hbx⟩
  have P1 := chain P0 hbx (Below.refl _ _)
  have M1 := chain M0 hbx (Below.refl _ _)
  obtain ⟨x0, x1, x2, x3, x4, x5, x6, x7, x8, x9, x10, x11⟩ := MK.out _ M1.out
  clear hbx M0 P0
  go_wp2_with fail
  refine (Q2.out _ P1.out).mono ?_
  rintro e w2 ⟨rfl, hbx⟩
  have P2 := chain P1 hbx (Below.refl _ _)
  have M2 := chain M1 hbx (Below.refl _ _)
  clear x0 x1 x2 x3 x4 x5 x6 x7 x8 x9 x10 x11
  obtain ⟨x0, x1, x2, x3, x4, x5, x6, x7, x8, x9, x10, x11⟩ := MK.out _ M2.out
  clear hbx M1 P1
  go_wp2_with fail
  refine (Q3.out _ P2.out).mono ?_
  rintro e w3 ⟨rfl, hbx⟩
  have P3 := chain P2 hbx (Below.refl _ _)
  have M3 := chain M2 hbx (Below.refl _ _)
  clear x0 x1 x2 x3 x4 x5 x6 x7 x8 x9 x10 x11
  obtain ⟨x0, x1, x2, x3, x4, x5, x6, x7, x8, x9, x10, x11⟩ := MK.out _ M3.out
  clear hbx M2 P2
  go_wp2_with fail
  refine (Q4.out _ P3.out).mono ?_
  rintro e w4 ⟨rfl, hbx⟩
  have P4 := chain P3 hbx (Below.refl _ _)
  have M4 := chain M3 hbx (Below.refl _ _)
  clear x0 x1 x2 x3 x4 x5 x6 x7 x8 x9 x10 x11
  obtain ⟨x0, x1, x2, x3, x4, x5, x6, x7, x8, x9, x10, x11⟩ := MK.out _ M4.out
  clear hbx M3 P3
  go_wp2_with fail
  refine (Q5.out _ P4.out).mono ?_
  rintro e w5 ⟨rfl, hbx⟩
  have P5 := chain P4 hbx (Below.refl _ _)
  have M5 := chain M4 hbx (Below.refl _ _)
  clear x0 x1 x2 x3 x4 x5 x6 x7 x8 x9 x10 x11
  obtain ⟨x0, x1, x2, x3, x4, x5, x6, x7, x8, x9, x10, x11⟩ := MK.out _ M5.out
  clear hbx M4 P4
  go_wp2_with fail
  refine (Q6.out _ P5.out).mono ?_
  rintro e w6 ⟨rfl, hbx⟩
  have P6 := chain P5 hbx (Below.refl _ _)
  have M6 := chain M5 hbx (Below.refl _ _)
  clear x0 x1 x2 x3 x4 x5 x6 x7 x8 x9 x10 x11
  obtain ⟨x0, x1, x2, x3, x4, x5, x6, x7, x8, x9, x10, x11⟩ := MK.out _ M6.out
  clear hbx M5 P5
  go_wp2_with fail
  refine (L1.out _ P6.out).mono ?_
  rintro e w7 ⟨rfl, hbx⟩
  have P7 := chain P6 hbx (Below.refl _ _)
  have M7 := chain M6 hbx (Below.refl _ _)
  clear x0 x1 x2 x3 x4 x5 x6 x7 x8 x9 x10 x11
  obtain ⟨x0, x1, x2, x3, x4, x5, x6, x7, x8, x9, x10, x11⟩ := MK.out _ M7.out
  clear hbx M6 P6
  go_wp2_with fail
  refine (L2.out _ P7.out).mono ?_
  rintro e w8 ⟨rfl, hbx⟩
  have P8 := chain P7 hbx (Below.refl _ _)
  have M8 := chain M7 hbx (Below.refl _ _)
  clear x0 x1 x2 x3 x4 x5 x6 x7 x8 x9 x10 x11
  obtain ⟨x0, x1, x2, x3, x4, x5, x6, x7, x8, x9, x10, x11⟩ := MK.out _ M8.out
  clear hbx M7 P7
  go_wp2_with fail
  refine (L1.out _ P8.out).mono ?_
  rintro e w9 ⟨rfl, hbx⟩
  have P9 := chain P8 hbx (Below.refl _ _)
  have M9 := chain M8 hbx (Below.refl _ _)
  clear x0 x1 x2 x3 x4 x5 x6 x7 x8 x9 x10 x11
  obtain ⟨x0, x1, x2, x3, x4, x5, x6, x7, x8, x9, x10, x11⟩ := MK.out _ M9.out
  clear hbx M8 P8
  go_wp2_with fail
  refine (R1.out _ P9.out).mono ?_
  rintro e w10 ⟨rfl, hbx⟩
  have P10 := chain P9 hbx (Below.refl _ _)
  have M10 := chain M9 hbx (Below.refl _ _)
  clear x0 x1 x2 x3 x4 x5 x6 x7 x8 x9 x10 x11
  obtain ⟨x0, x1, x2, x3, x4, x5, x6, x7, x8, x9, x10, x11⟩ := MK.out _ M10.out
  clear hbx M9 P9
  go_wp2_with fail
  refine (R2.out _ P10.out).mono ?_
  rintro e w11 ⟨rfl, hbx⟩
  have P11 := chain P10 hbx (Below.refl _ _)
  have M11 := chain M10 hbx (Below.refl _ _)
  clear x0 x1 x2 x3 x4 x5 x6 x7 x8 x9 x10 x11
  obtain ⟨x0, x1, x2, x3, x4, x5, x6, x7, x8, x9, x10, x11⟩ := MK.out _ M11.out
  clear hbx M10 P10
  go_wp2_with fail
  refine (S1.out _ P11.out).mono ?_
  rintro e w12 ⟨rfl, hbx⟩
  have P12 := chain P11 hbx (Below.refl _ _)
  have M12 := chain M11 hbx (Below.refl _ _)
  clear x0 x1 x2 x3 x4 x5 x6 x7 x8 x9 x10 x11
  obtain ⟨x0, x1, x2, x3, x4, x5, x6, x7, x8, x9, x10, x11⟩ := MK.out _ M12.out
  clear hbx M11 P11
  go_wp2_with fail
  refine (R1.out _ P12.out).mono ?_
  rintro e w13 ⟨rfl, hbx⟩
  have P13 := chain P12 hbx (Below.refl _ _)
  have M13 := chain M12 hbx (Below.refl _ _)
  clear x0 x1 x2 x3 x4 x5 x6 x7 x8 x9 x10 x11
  obtain ⟨x0, x1, x2, x3, x4, x5, x6, x7, x8, x9, x10, x11⟩ := MK.out _ M13.out
  clear hbx M12 P12
  go_wp2_with fail
  refine (AL.out _ P13.out).mono ?_
  rintro e w14 ⟨rfl, hbx⟩
  have P14 := chain P13 hbx (Below.refl _ _)
  have M14 := chain M13 hbx (Below.refl _ _)
  clear x0 x1 x2 x3 x4 x5 x6 x7 x8 x9 x10 x11
  obtain ⟨x0, x1, x2, x3, x4, x5, x6, x7, x8, x9, x10, x11⟩ := MK.out _ M14.out
  clear hbx M13 P13
  go_wp2
  go_ret
  exact ⟨rfl, P14.out⟩
set_option maxRecDepth 40000 in
set_option maxHeartbeats 4000000 in
theorem w_eq_eq (ka na kb nb kc nc : Int) (ra rb rc : Nat) (sa sb sc : ByteArray) (A1 A2 A3 : Option Addr) (N1 c1 N2 c2 N3 c3 : Nat) (w : World) (Q1 : Hid (∀ W, Below w.heap.size w W → Calls Tryd.prog 10 #[.agg #[.int .u8 ka, .int .i64 na, .int .u64 (ra : Int), .string sa]] W fun e w' => e = .returned (.int .i64 0) ∧ Below W.heap.size W w')) (Q2 : Hid (∀ W, Below w.heap.size w W → Calls Tryd.prog 10 #[.agg #[.int .u8 kb, .int .i64 nb, .int .u64 (rb : Int), .string sb]] W fun e w' => e = .returned (.int .i64 0) ∧ Below W.heap.size W w')) (Q3 : Hid (∀ W, Below w.heap.size w W → Calls Tryd.prog 10 #[.agg #[.int .u8 kc, .int .i64 nc, .int .u64 (rc : Int), .string sc]] W fun e w' => e = .returned (.int .i64 0) ∧ Below W.heap.size W w')) (Q4 : Hid (∀ W, Below w.heap.size w W → Calls Tryd.prog 12 #[.slice A1 N1 c1] W fun e w' => e = .returned (.int .i64 0) ∧ Below W.heap.size W w')) (Q5 : Hid (∀ W, Below w.heap.size w W → Calls Tryd.prog 12 #[.slice A2 N2 c2] W fun e w' => e = .returned (.int .i64 0) ∧ Below W.heap.size W w')) (Q6 : Hid (∀ W, Below w.heap.size w W → Calls Tryd.prog 12 #[.slice A3 N3 c3] W fun e w' => e = .returned (.int .i64 0) ∧ Below W.heap.size W w')) (AL : Hid (∀ W, Below w.heap.size w W → Calls Tryd.prog 8 #[] W fun e w' => e = .returned (.bool true) ∧ Below W.heap.size W w')) (L1 : Hid (∀ W, Below w.heap.size w W → Calls Tryd.prog 24 #[.agg #[.int .u8 ka, .int .i64 na, .int .u64 (ra : Int), .string sa], .agg #[.int .u8 kb, .int .i64 nb, .int .u64 (rb : Int), .string sb]] W fun e w' => e = .returned (.bool false) ∧ Below W.heap.size W w')) (L2 : Hid (∀ W, Below w.heap.size w W → Calls Tryd.prog 24 #[.agg #[.int .u8 kb, .int .i64 nb, .int .u64 (rb : Int), .string sb], .agg #[.int .u8 ka, .int .i64 na, .int .u64 (ra : Int), .string sa]] W fun e w' => e = .returned (.bool false) ∧ Below W.heap.size W w')) (R1 : Hid (∀ W, Below w.heap.size w W → Calls Tryd.prog 25 #[.slice A1 N1 c1, .slice A2 N2 c2] W fun e w' => e = .returned (.bool false) ∧ Below W.heap.size W w')) (R2 : Hid (∀ W, Below w.heap.size w W → Calls Tryd.prog 25 #[.slice A2 N2 c2, .slice A1 N1 c1] W fun e w' => e = .returned (.bool false) ∧ Below W.heap.size W w')) (S1 : Hid (∀ W, Below w.heap.size w W → Calls Tryd.prog 26 #[.slice A1 N1 c1, .slice A2 N2 c2] W fun e w' => e = .returned (.bool true) ∧ Below W.heap.size W w')) (hE : eqI ka na ra sa kb nb rb sb = true) :
    Calls Tryd.prog 5 #[.agg #[.int .u8 ka, .int .i64 na, .int .u64 (ra : Int), .string sa], .agg #[.int .u8 kb, .int .i64 nb, .int .u64 (rb : Int), .string sb], .agg #[.int .u8 kc, .int .i64 nc, .int .u64 (rc : Int), .string sc], .slice A1 N1 c1, .slice A2 N2 c2, .slice A3 N3 c3] w fun e w' => e = .returned (.bool true) ∧ Below w.heap.size w w' := by
  have he := run_eqI ka na ra sa kb nb rb sb
  rw [hE] at he
  clear hE
  have MK : Hid (∀ W, Below (((w.alloc (.cells #[.int .u8 ka, .int .i64 na, .int .u64 (ra : Int), .string sa] 24)).alloc (.cells #[.int .u8 kb, .int .i64 nb, .int .u64 (rb : Int), .string sb] 24)).alloc (.cells #[.int .u8 kc, .int .i64 nc, .int .u64 (rc : Int), .string sc] 24)).heap.size (((w.alloc (.cells #[.int .u8 ka, .int .i64 na, .int .u64 (ra : Int), .string sa] 24)).alloc (.cells #[.int .u8 kb, .int .i64 nb, .int .u64 (rb : Int), .string sb] 24)).alloc (.cells #[.int .u8 kc, .int .i64 nc, .int .u64 (rc : Int), .string sc] 24)) W → W.cell? ⟨w.heap.size, 0, none⟩ = some (.int .u8 ka) ∧ W.cell? ⟨w.heap.size, 1, none⟩ = some (.int .i64 na) ∧ W.cell? ⟨w.heap.size, 2, none⟩ = some (.int .u64 (ra : Int)) ∧ W.cell? ⟨w.heap.size, 3, none⟩ = some (.string sa) ∧ W.cell? ⟨w.heap.size + 1, 0, none⟩ = some (.int .u8 kb) ∧ W.cell? ⟨w.heap.size + 1, 1, none⟩ = some (.int .i64 nb) ∧ W.cell? ⟨w.heap.size + 1, 2, none⟩ = some (.int .u64 (rb : Int)) ∧ W.cell? ⟨w.heap.size + 1, 3, none⟩ = some (.string sb) ∧ W.cell? ⟨w.heap.size + 2, 0, none⟩ = some (.int .u8 kc) ∧ W.cell? ⟨w.heap.size + 2, 1, none⟩ = some (.int .i64 nc) ∧ W.cell? ⟨w.heap.size + 2, 2, none⟩ = some (.int .u64 (rc : Int)) ∧ W.cell? ⟨w.heap.size + 2, 3, none⟩ = some (.string sc)) := Lib.hid fun W hW => by
    obtain ⟨f0, f1, f2⟩ := three w W _ _ _ hW
    refine ⟨?_, ?_, ?_, ?_, ?_, ?_, ?_, ?_, ?_, ?_, ?_, ?_⟩ <;> (unfold World.cell?; first | (rw [f0]; rfl) | (rw [f1]; rfl) | (rw [f2]; rfl))
  have P0 : Hid (Below w.heap.size w (((w.alloc (.cells #[.int .u8 ka, .int .i64 na, .int .u64 (ra : Int), .string sa] 24)).alloc (.cells #[.int .u8 kb, .int .i64 nb, .int .u64 (rb : Int), .string sb] 24)).alloc (.cells #[.int .u8 kc, .int .i64 nc, .int .u64 (rc : Int), .string sc] 24))) := Lib.hid (below3 w _ _ _)
  have M0 : Hid (Below (((w.alloc (.cells #[.int .u8 ka, .int .i64 na, .int .u64 (ra : Int), .string sa] 24)).alloc (.cells #[.int .u8 kb, .int .i64 nb, .int .u64 (rb : Int), .string sb] 24)).alloc (.cells #[.int .u8 kc, .int .i64 nc, .int .u64 (rc : Int), .string sc] 24)).heap.size (((w.alloc (.cells #[.int .u8 ka, .int .i64 na, .int .u64 (ra : Int), .string sa] 24)).alloc (.cells #[.int .u8 kb, .int .i64 nb, .int .u64 (rb : Int), .string sb] 24)).alloc (.cells #[.int .u8 kc, .int .i64 nc, .int .u64 (rc : Int), .string sc] 24)) (((w.alloc (.cells #[.int .u8 ka, .int .i64 na, .int .u64 (ra : Int), .string sa] 24)).alloc (.cells #[.int .u8 kb, .int .i64 nb, .int .u64 (rb : Int), .string sb] 24)).alloc (.cells #[.int .u8 kc, .int .i64 nc, .int .u64 (rc : Int), .string sc] 24))) := Lib.hid (Below.refl _ _)
  go_enter Tryd.func5, Tryd.ntmps5
  go_wp2_with fail
  refine (Q1.out _ P0.out).mono ?_
  rintro e w1 ⟨rfl, hbx⟩
  have P1 := chain P0 hbx (Below.refl _ _)
  have M1 := chain M0 hbx (Below.refl _ _)
  obtain ⟨x0, x1, x2, x3, x4, x5, x6, x7, x8, x9, x10, x11⟩ := MK.out _ M1.out
  clear hbx M0 P0
  go_wp2_with fail
  refine (Q2.out _ P1.out).mono ?_
  rintro e w2 ⟨rfl, hbx⟩
  have P2 := chain P1 hbx (Below.refl _ _)
  have M2 := chain M1 hbx (Below.refl _ _)
  clear x0 x1 x2 x3 x4 x5 x6 x7 x8 x9 x10 x11
  obtain ⟨x0, x1, x2, x3, x4, x5, x6, x7, x8, x9, x10, x11⟩ := MK.out _ M2.out
  clear hbx M1 P1
  go_wp2_with fail
  refine (Q3.out _ P2.out).mono ?_
  rintro e w3 ⟨rfl, hbx⟩
  have P3 := chain P2 hbx (Below.refl _ _)
  have M3 := chain M2 hbx (Below.refl _ _)
  clear x0 x1 x2 x3 x4 x5 x6 x7 x8 x9 x10 x11
  obtain ⟨x0, x1, x2, x3, x4, x5, x6, x7, x8, x9, x10, x11⟩ := MK.out _ M3.out
  clear hbx M2 P2
  go_wp2_with fail
  refine (Q4.out _ P3.out).mono ?_
  rintro e w4 ⟨rfl, hbx⟩
  have P4 := chain P3 hbx (Below.refl _ _)
  have M4 := chain M3 hbx (Below.refl _ _)
  clear x0 x1 x2 x3 x4 x5 x6 x7 x8 x9 x10 x11
  obtain ⟨x0, x1, x2, x3, x4, x5, x6, x7, x8, x9, x10, x11⟩ := MK.out _ M4.out
  clear hbx M3 P3
  go_wp2_with fail
  refine (Q5.out _ P4.out).mono ?_
  rintro e w5 ⟨rfl, hbx⟩
  have P5 := chain P4 hbx (Below.refl _ _)
  have M5 := chain M4 hbx (Below.refl _ _)
  clear x0 x1 x2 x3 x4 x5 x6 x7 x8 x9 x10 x11
  obtain ⟨x0, x1, x2, x3, x4, x5, x6, x7, x8, x9, x10, x11⟩ := MK.out _ M5.out
  clear hbx M4 P4
  go_wp2_with fail
  refine (Q6.out _ P5.out).mono ?_
  rintro e w6 ⟨rfl, hbx⟩
  have P6 := chain P5 hbx (Below.refl _ _)
  have M6 := chain M5 hbx (Below.refl _ _)
  clear x0 x1 x2 x3 x4 x5 x6 x7 x8 x9 x10 x11
  obtain ⟨x0, x1, x2, x3, x4, x5, x6, x7, x8, x9, x10, x11⟩ := MK.out _ M6.out
  clear hbx M5 P5
  go_wp2_with fail
  refine (L1.out _ P6.out).mono ?_
  rintro e w7 ⟨rfl, hbx⟩
  have P7 := chain P6 hbx (Below.refl _ _)
  have M7 := chain M6 hbx (Below.refl _ _)
  clear x0 x1 x2 x3 x4 x5 x6 x7 x8 x9 x10 x11
  obtain ⟨x0, x1, x2, x3, x4, x5, x6, x7, x8, x9, x10, x11⟩ := MK.out _ M7.out
  clear hbx M6 P6
  go_wp2_with fail
  refine (L2.out _ P7.out).mono ?_
  rintro e w8 ⟨rfl, hbx⟩
  have P8 := chain P7 hbx (Below.refl _ _)
  have M8 := chain M7 hbx (Below.refl _ _)
  clear x0 x1 x2 x3 x4 x5 x6 x7 x8 x9 x10 x11
  obtain ⟨x0, x1, x2, x3, x4, x5, x6, x7, x8, x9, x10, x11⟩ := MK.out _ M8.out
  clear hbx M7 P7
  go_wp2_with fail
  refine (L1.out _ P8.out).mono ?_
  rintro e w9 ⟨rfl, hbx⟩
  have P9 := chain P8 hbx (Below.refl _ _)
  have M9 := chain M8 hbx (Below.refl _ _)
  clear x0 x1 x2 x3 x4 x5 x6 x7 x8 x9 x10 x11
  obtain ⟨x0, x1, x2, x3, x4, x5, x6, x7, x8, x9, x10, x11⟩ := MK.out _ M9.out
  clear hbx M8 P8
  go_wp2_with fail
  refine (R1.out _ P9.out).mono ?_
  rintro e w10 ⟨rfl, hbx⟩
  have P10 := chain P9 hbx (Below.refl _ _)
  have M10 := chain M9 hbx (Below.refl _ _)
  clear x0 x1 x2 x3 x4 x5 x6 x7 x8 x9 x10 x11
  obtain ⟨x0, x1, x2, x3, x4, x5, x6, x7, x8, x9, x10, x11⟩ := MK.out _ M10.out
  clear hbx M9 P9
  go_wp2_with fail
  refine (R2.out _ P10.out).mono ?_
  rintro e w11 ⟨rfl, hbx⟩
  have P11 := chain P10 hbx (Below.refl _ _)
  have M11 := chain M10 hbx (Below.refl _ _)
  clear x0 x1 x2 x3 x4 x5 x6 x7 x8 x9 x10 x11
  obtain ⟨x0, x1, x2, x3, x4, x5, x6, x7, x8, x9, x10, x11⟩ := MK.out _ M11.out
  clear hbx M10 P10
  go_wp2_with fail
  refine (S1.out _ P11.out).mono ?_
  rintro e w12 ⟨rfl, hbx⟩
  have P12 := chain P11 hbx (Below.refl _ _)
  have M12 := chain M11 hbx (Below.refl _ _)
  clear x0 x1 x2 x3 x4 x5 x6 x7 x8 x9 x10 x11
  obtain ⟨x0, x1, x2, x3, x4, x5, x6, x7, x8, x9, x10, x11⟩ := MK.out _ M12.out
  clear hbx M11 P11
  go_wp2_with fail
  refine (R1.out _ P12.out).mono ?_
  rintro e w13 ⟨rfl, hbx⟩
  have P13 := chain P12 hbx (Below.refl _ _)
  have M13 := chain M12 hbx (Below.refl _ _)
  clear x0 x1 x2 x3 x4 x5 x6 x7 x8 x9 x10 x11
  obtain ⟨x0, x1, x2, x3, x4, x5, x6, x7, x8, x9, x10, x11⟩ := MK.out _ M13.out
  clear hbx M12 P12
  go_wp2_with fail
  refine (AL.out _ P13.out).mono ?_
  rintro e w14 ⟨rfl, hbx⟩
  have P14 := chain P13 hbx (Below.refl _ _)
  have M14 := chain M13 hbx (Below.refl _ _)
  clear x0 x1 x2 x3 x4 x5 x6 x7 x8 x9 x10 x11
  obtain ⟨x0, x1, x2, x3, x4, x5, x6, x7, x8, x9, x10, x11⟩ := MK.out _ M14.out
  clear hbx M13 P13
  go_wp2
  go_ret
  exact ⟨rfl, P14.out⟩
end Go.Proofs.YtjkfgchjdhgbgaaDoor.Vteq
