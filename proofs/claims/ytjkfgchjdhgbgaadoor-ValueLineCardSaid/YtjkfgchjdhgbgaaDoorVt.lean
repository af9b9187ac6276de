/- The walks of ValueLine, a way each (what is not looked at). -/
import Derived.Test.YtjkfgchjdhgbgaaDoorVh
namespace Go.Proofs.YtjkfgchjdhgbgaaDoor.Vt
open Go Go.RowKit Go.Proofs.YtjkfgchjdhgbgaaDoor.Vm Go.Proofs.YtjkfgchjdhgbgaaDoor.Vl Go.Proofs.YtjkfgchjdhgbgaaDoor.Ve Go.Proofs.YtjkfgchjdhgbgaaDoor.Vr Go.Proofs.YtjkfgchjdhgbgaaDoor.Vs Go.Proofs.YtjkfgchjdhgbgaaDoor.Vc Go.Proofs.YtjkfgchjdhgbgaaDoor.Vk
theorem three (w W : World) (o o' o'' : Obj) (h : Below (((w.alloc o).alloc o').alloc o'').heap.size (((w.alloc o).alloc o').alloc o'') W) : W.heap[w.heap.size]? = some o ∧ W.heap[w.heap.size + 1]? = some o' ∧ W.heap[w.heap.size + 2]? = some o'' := by
  have s1 : (w.alloc o).heap.size = w.heap.size + 1 := by simp
  have s2 : ((w.alloc o).alloc o').heap.size = w.heap.size + 2 := by simp
  have s3 : (((w.alloc o).alloc o').alloc o'').heap.size = w.heap.size + 3 := by simp
  have f0 : (((w.alloc o).alloc o').alloc o'').heap[w.heap.size]? = some o := (Below.heap_alloc _ o'' _ (by omega)).trans ((Below.heap_alloc _ o' _ (by omega)).trans (heap_alloc_new w o))
  have f1 : (((w.alloc o).alloc o').alloc o'').heap[w.heap.size + 1]? = some o' := (Below.heap_alloc _ o'' _ (by omega)).trans (by have := heap_alloc_new (w.alloc o) o'; rwa [s1] at this)
  have f2 : (((w.alloc o).alloc o').alloc o'').heap[w.heap.size + 2]? = some o'' := by have := heap_alloc_new ((w.alloc o).alloc o') o''; rwa [s2] at this
  exact ⟨(h.block _ (by omega)).trans f0, (h.block _ (by omega)).trans f1, (h.block _ (by omega)).trans f2⟩
theorem below3 (w : World) (o o' o'' : Obj) : Below w.heap.size w (((w.alloc o).alloc o').alloc o'') :=
  (((Below.refl _ _).alloc (Nat.le_refl _) _).alloc (by simp) _).alloc (by simp; omega) _
set_option maxRecDepth 40000 in
set_option maxHeartbeats 4000000 in
theorem skip1 (ka na kb nb kc nc : Int) (ra rb rc : Nat) (sa sb sc : ByteArray) (A1 A2 A3 : Option Addr) (N1 c1 N2 c2 N3 c3 : Nat) (w : World) (Q1 : Hid (∀ W, Below w.heap.size w W → Calls Tryd.prog 10 #[.agg #[.int .u8 ka, .int .i64 na, .int .u64 (ra : Int), .string sa]] W fun e w' => e = .returned (.int .i64 2) ∧ Below W.heap.size W w')) (AL : Hid (∀ W, Below w.heap.size w W → Calls Tryd.prog 8 #[] W fun e w' => e = .returned (.bool true) ∧ Below W.heap.size W w')) :
    Calls Tryd.prog 5 #[.agg #[.int .u8 ka, .int .i64 na, .int .u64 (ra : Int), .string sa], .agg #[.int .u8 kb, .int .i64 nb, .int .u64 (rb : Int), .string sb], .agg #[.int .u8 kc, .int .i64 nc, .int .u64 (rc : Int), .string sc], .slice A1 N1 c1, .slice A2 N2 c2, .slice A3 N3 c3] w fun e w' => e = .returned (.bool true) ∧ Below w.heap.size w w' := by
  have MK : Hid (∀ W, Below (((w.alloc (.cells #[.int .u8 ka, .int .i64 na, .int .u64 (ra : Int), .string sa] 24)).alloc (.cells #[.int .u8 kb, .int .i64 nb, .int .u64 (rb : Int), .string sb] 24)).alloc (.cells #[.int .u8 kc, .int .i64 nc, .int .u64 (rc : Int), .string sc] 24)).heap.size (((w.alloc (.cells #[.int .u8 ka, .int .i64 na, .int .u64 (ra : Int), .string sa] 24)).alloc (.cells #[.int .u8 kb, .int .i64 nb, .int .u64 (rb : Int), .string sb] 24)).alloc (.cells #[.int .u8 kc, .int .i64 nc, .int .u64 (rc : Int), .string sc] 24)) W → W.cell? ⟨w.heap.size, 0, none⟩ = some (.int .u8 ka) ∧ W.cell? ⟨w.heap.size, 1, none⟩ = some (.int .i64 na) ∧ W.cell? ⟨w.heap.size, 2, none⟩ = some (.int .u64 (ra : Int)) ∧ W.cell? ⟨w.heap.size, 3, none⟩ = some (.string sa) ∧ W.cell? ⟨w.heap.size + 1, 0, none⟩ = some (.int .u8 kb) ∧ W.cell? ⟨w.heap.size + 1, 1, none⟩ = some (.int .i64 nb) ∧ W.cell? ⟨w.heap.size + 1, 2, none⟩ = some (.int .u64 (rb : Int)) ∧ W.cell? ⟨w.heap.size + 1, 3, none⟩ = some (.string sb) ∧ W.cell? ⟨w.heap.size + 2, 0, none⟩ = some (.int .u8 kc) ∧ W.cell? ⟨w.heap.size + 2, 1, none⟩ = some (.int .i64 nc) ∧ W.cell? ⟨w.heap.size + 2, 2, none⟩ = some (.int .u64 (rc : Int)) ∧ W.cell? ⟨w.heap.size + 2, 3, none⟩ = some (.string sc)) := Lib.hid fun W hW => by
    obtain ⟨f0, f1, f2⟩ := three w W _ _ _ hW
    refine ⟨?_, ?_, ?_, ?_, ?_, ?_, ?_, ?_, ?_, ?_, ?_, ?_⟩ <;> (unfold World.cell?; first | (rw [f0]; rfl) | (rw [f1]; rfl) | (rw [f2]; rfl))
  have P0 : Hid (Below w.heap.size w (((w.alloc (.cells #[.int .u8 ka, .int .i64 na, .int .u64 (ra : Int), .string sa] 24)).alloc (.cells #[.int .u8 kb, .int .i64 nb, .int .u64 (rb : Int), .string sb] 24)).alloc (.cells #[.int .u8 kc, .int .i64 nc, .int .u64 (rc : Int), .string sc] 24))) := Lib.hid (below3 w _ _ _)
  have M0 : Hid (Below (((w.alloc (.cells #[.int .u8 ka, .int .i64 na, .int .u64 (ra : Int), .string sa] 24)).alloc (.cells #[.int .u8 kb, .int .i64 nb, .int .u64 (rb : Int), .string sb] 24)).alloc (.cells #[.int .u8 kc, .int .i64 nc, .int .u64 (rc : Int), .string sc] 24)).heap.size (((w.alloc (.cells #[.int .u8 ka, .int .i64 na, .int .u64 (ra : Int), .string sa] 24)).alloc (.cells #[.int .u8 kb, .int .i64 nb, .int .u64 (rb : Int), .string sb] 24)).alloc (.cells #[.int .u8 kc, .int .i64 nc, .int .u64 (rc : Int), .string sc] 24)) (((w.alloc (.cells #[.int .u8 ka, .int .i64 na, .int .u64 (ra : Int), .string sa] 24)).alloc (.cells #[.int .u8 kb, .int .i64 nb, .int .u64 (rb : Int), .string sb] 24)).alloc (.cells #[.int .u8 kc, .int .i64 nc, .int .u64 (rc : Int), .string sc] 24))) := Lib.hid (Below.refl _ _)
  go_enter Tryd.func5, Tryd.ntmps5
  go_wp2_with fail
  refine (Q1.out _ P0.out).mono ?_
  rintro e w1 ⟨rfl, hbx⟩
  have P1 := chain P0 hbx (Below.refl _ _)
  have M1 := chain M0 hbx (Below.refl _ _)
  obtain ⟨x0, x1, x2, x3, x4, x5, x6, x7, x8, x9, x10, x11⟩ := MK.out _ M1.out
  clear hbx M0 P0
  go_wp2_with fail
  refine (AL.out _ P1.out).mono ?_
  rintro e w2 ⟨rfl, hbx⟩
  have P2 := chain P1 hbx (Below.refl _ _)
  have M2 := chain M1 hbx (Below.refl _ _)
  clear x0 x1 x2 x3 x4 x5 x6 x7 x8 x9 x10 x11
  obtain ⟨x0, x1, x2, x3, x4, x5, x6, x7, x8, x9, x10, x11⟩ := MK.out _ M2.out
  clear hbx M1 P1
  go_wp2
  go_ret
  exact ⟨rfl, P2.out⟩
set_option maxRecDepth 40000 in
set_option maxHeartbeats 4000000 in
theorem skip2 (ka na kb nb kc nc : Int) (ra rb rc : Nat) (sa sb sc : ByteArray) (A1 A2 A3 : Option Addr) (N1 c1 N2 c2 N3 c3 : Nat) (w : World) (Q1 : Hid (∀ W, Below w.heap.size w W → Calls Tryd.prog 10 #[.agg #[.int .u8 ka, .int .i64 na, .int .u64 (ra : Int), .string sa]] W fun e w' => e = .returned (.int .i64 0) ∧ Below W.heap.size W w')) (Q2 : Hid (∀ W, Below w.heap.size w W → Calls Tryd.prog 10 #[.agg #[.int .u8 kb, .int .i64 nb, .int .u64 (rb : Int), .string sb]] W fun e w' => e = .returned (.int .i64 2) ∧ Below W.heap.size W w')) (AL : Hid (∀ W, Below w.heap.size w W → Calls Tryd.prog 8 #[] W fun e w' => e = .returned (.bool true) ∧ Below W.heap.size W w')) :
    Calls Tryd.prog 5 #[.agg #[.int .u8 ka, .int .i64 na, .int .u64 (ra : Int), .string sa], .agg #[.int .u8 kb, .int .i64 nb, .int .u64 (rb : Int), .string sb], .agg #[.int .u8 kc, .int .i64 nc, .int .u64 (rc : Int), .string sc], .slice A1 N1 c1, .slice A2 N2 c2, .slice A3 N3 c3] w fun e w' => e = .returned (.bool true) ∧ Below w.heap.size w w' := by
  have MK : Hid (∀ W, Below (((w.alloc (.cells #[.int .u8 ka, .int .i64 na, .int .u64 (ra : Int), .string sa] 24)).alloc (.cells #[.int .u8 kb, .int .i64 nb, .int .u64 (rb : Int), .string sb] 24)).alloc (.cells #[.int .u8 kc, .int .i64 nc, .int .u64 (rc : Int), .string sc] 24)).heap.size (((w.alloc (.cells #[.int .u8 ka, .int .i64 na, .int .u64 (ra : Int), .string sa] 24)).alloc (.cells #[.int .u8 kb, .int .i64 nb, .int .u64 (rb : Int), .string sb] 24)).alloc (.cells #[.int .u8 kc, .int .i64 nc, .int .u64 (rc : Int), .string sc] 24)) W → W.cell? ⟨w.heap.size, 0, none⟩ = some (.int .u8 ka) ∧ W.cell? ⟨w.heap.size, 1, none⟩ = some (.int .i64 na) ∧ W.cell? ⟨w.heap.size, 2, none⟩ = some (.int .u64 (ra : Int)) ∧ W.cell? ⟨w.heap.size, 3, none⟩ = some (.string sa) ∧ W.cell? ⟨w.heap.size + 1, 0, none⟩ = some (.int .u8 kb) ∧ W.cell? ⟨w.heap.size + 1, 1, none⟩ = some (.int .i64 nb) ∧ W.cell? ⟨w.heap.size + 1, 2, none⟩ = some (.int .u64 (rb : Int)) ∧ W.cell? ⟨w.heap.size + 1, 3, none⟩ = some (.string sb) ∧ W.cell? ⟨w.heap.size + 2, 0, none⟩ = some (.int .u8 kc) ∧ W.cell? ⟨w.heap.size + 2, 1, none⟩ = some (.int .i64 nc) ∧ W.cell? ⟨w.heap.size + 2, 2, none⟩ = some (.int .u64 (rc : Int)) ∧ W.cell? ⟨w.heap.size + 2, 3, none⟩ = some (.string sc)) := Lib.hid fun W hW => by
    obtain ⟨f0, f1, f2⟩ := three w W _ _ _ hW
    refine ⟨?_, ?_, ?_, ?_, ?_, ?_, ?_, ?_, ?_, ?_, ?_, ?_⟩ <;> (unfold World.cell?; first | (rw [f0]; rfl) | (rw [f1]; rfl) | (rw [f2]; rfl))
  have P0 : Hid (Below w.heap.size w (((w.alloc (.cells #[.int .u8 ka, .int .i64 na, .int .u64 (ra : Int), .string sa] 24)).alloc (.cells #[.int .u8 kb, .int .i64 nb, .int .u64 (rb : Int), .string sb] 24)).alloc (.cells #[.int .u8 kc, .int .i64 nc, .int .u64 (rc : Int), .string sc] 24))) := Lib.hid (below3 w _ _ _)
  have M0 : Hid (Below (((w.alloc (.cells #[.int .u8 ka, .int .i64 na, .int .u64 (ra : Int), .string sa] 24)).alloc (.cells #[.int .u8 kb, .int .i64 nb, .int .u64 (rb : Int), .string sb] 24)).alloc (.cells #[.int .u8 kc, .int .i64 nc, .int .u64 (rc : Int), .string sc] 24)).heap.size (((w.alloc (.cells #[.int .u8 ka, .int .i64 na, .int .u64 (ra : Int), .string sa] 24)).alloc (.cells #[.int .u8 kb, .int .i64 nb, .int .u64 (rb : Int), .string sb] 24)).alloc (.cells #[.int .u8 kc, .int .i64 nc, .int .u64 (rc : Int), .string sc] 24)) (((w.alloc (.cells #[.int .u8 ka, .int .i64 na, .int .u64 (ra : Int), .string sa] 24)).alloc (.cells #[.int .u8 kb, .int .i64 nb, .int .u64 (rb : Int), .string sb] 24)).alloc (.cells #[.int .u8 kc, .int .i64 nc, .int .u64 (rc : Int), .string sc] 24))) := Lib.hid (Below.refl _ _)
  go_enter Tryd.func5, Tryd.ntmps5
  go_wp2_with fail
  refine (Q1.out _ P0.out).mono ?_
  rintro e w1 ⟨rfl, hbx⟩
  have P1 := chain P0 hbx (Below.refl _ _)
  have M1 := chain M0 hbx (Below.refl _ _)
  obtain ⟨x0, x1, x2, x3, x4, x5, x6, x7, x8, x9, x10, x11⟩ := MK.out _ M1.out
  clear hbx M0 P0
  go_wp2_with fail
  refine (Q2.out _ P1.out).mono ?_
  rintro e w2 ⟨rfl, hbx⟩
  have P2 := chain P1 hbx (Below.refl _ _)
  have M2 := chain M1 hbx (Below.refl _ _)
  clear x0 x1 x2 x3 x4 x5 x6 x7 x8 x9 x10 x11
  obtain ⟨x0, x1, x2, x3, x4, x5, x6, x7, x8, x9, x10, x11⟩ := MK.out _ M2.out
  clear hbx M1 P1
  go_wp2_with fail
  refine (AL.out _ P2.out).mono ?_
  rintro e w3 ⟨rfl, hbx⟩
  have P3 := chain P2 hbx (Below.refl _ _)
  have M3 := chain M2 hbx (Below.refl _ _)
  clear x0 x1 x2 x3 x4 x5 x6 x7 x8 x9 x10 x11
  obtain ⟨x0, x1, x2, x3, x4, x5, x6, x7, x8, x9, x10, x11⟩ := MK.out _ M3.out
  clear hbx M2 P2
  go_wp2
  go_ret
  exact ⟨rfl, P3.out⟩
set_option maxRecDepth 40000 in
set_option maxHeartbeats 4000000 in
theorem skip3 (ka na kb nb kc nc : Int) (ra rb rc : Nat) (sa sb sc : ByteArray) (A1 A2 A3 : Option Addr) (N1 c1 N2 c2 N3 c3 : Nat) (w : World) (Q1 : Hid (∀ W, Below w.heap.size w W → Calls Tryd.prog 10 #[.agg #[.int .u8 ka, .int .i64 na, .int .u64 (ra : Int), .string sa]] W fun e w' => e = .returned (.int .i64 0) ∧ Below W.heap.size W w')) (Q2 : Hid (∀ W, Below w.heap.size w W → Calls Tryd.prog 10 #[.agg #[.int .u8 kb, .int .i64 nb, .int .u64 (rb : Int), .string sb]] W fun e w' => e = .returned (.int .i64 0) ∧ Below W.heap.size W w')) (Q3 : Hid (∀ W, Below w.heap.size w W → Calls Tryd.prog 10 #[.agg #[.int .u8 kc, .int .i64 nc, .int .u64 (rc : Int), .string sc]] W fun e w' => e = .returned (.int .i64 2) ∧ Below W.heap.size W w')) (AL : Hid (∀ W, Below w.heap.size w W → Calls Tryd.prog 8 #[] W fun e w' => e = .returned (.bool true) ∧ Below W.heap.size W w')) :
    Calls Tryd.prog 5 #[.agg #[.int .u8 ka, .int .i64 na, .int .u64 (ra : Int), .string sa], .agg #[.int .u8 kb, .int .i64 nb, .int .u64 (rb : Int), .string sb], .agg #[.int .u8 kc, .int .i64 nc, .int .u64 (rc : Int), .string sc], .slice A1 N1 c1, .slice A2 N2 c2, .slice A3 N3 c3] w fun e w' => e = .returned (.bool true) ∧ Below w.heap.size w w' := by
  have MK : Hid (∀ W, Below (((w.alloc (.cells #[.int .u8 ka, .int .i64 na, .int .u64 (ra : Int), .string sa] 24)).alloc (.cells #[.int .u8 kb, .int .i64 nb, .int .u64 (rb : Int), .string sb] 24)).alloc (.cells #[.int .u8 kc, .int .i64 nc, .int .u64 (rc : Int), .string sc] 24)).heap.size (((w.alloc (.cells #[.int .u8 ka, .int .i64 na, .int .u64 (ra : Int), .string sa] 24)).alloc (.cells #[.int .u8 kb, .int .i64 nb, .int .u64 (rb : Int), .string sb] 24)).alloc (.cells #[.int .u8 kc, .int .i64 nc, .int .u64 (rc : Int), .string sc] 24)) W → W.cell? ⟨w.heap.size, 0, none⟩ = some (.int .u8 ka) ∧ W.cell? ⟨w.heap.size, 1, none⟩ = some (.int .i64 na) ∧ W.cell? ⟨w.heap.size, 2, none⟩ = some (.int .u64 (ra : Int)) ∧ W.cell? ⟨w.heap.size, 3, none⟩ = some (.string sa) ∧ W.cell? ⟨w.heap.size + 1, 0, none⟩ = some (.int .u8 kb) ∧ W.cell? ⟨w.heap.size + 1, 1, none⟩ = some (.int .i64 nb) ∧ W.cell? ⟨w.heap.size + 1, 2, none⟩ = some (.int .u64 (rb : Int)) ∧ W.cell? ⟨w.heap.size + 1, 3, none⟩ = some (.string sb) ∧ W.cell? ⟨w.heap.size + 2, 0, none⟩ = some (.int .u8 kc) ∧ W.cell? ⟨w.heap.size + 2, 1, none⟩ = some (.int .i64 nc) ∧ W.cell? ⟨w.heap.size + 2, 2, none⟩ = some (.int .u64 (rc : Int)) ∧ W.cell? ⟨w.heap.size + 2, 3, none⟩ = some (.string sc)) := Lib.hid fun W hW => by
    obtain ⟨f0, f1, f2⟩ := three w W _ _ _ hW
    refine ⟨?_, ?_, ?_, ?_, ?_, ?_, ?_, ?_, ?_, ?_, ?_, ?_⟩ <;> (unfold World.cell?; first | (rw [f0]; rfl) | (rw [f1]; rfl) | (rw [f2]; rfl))
  have P0 : Hid (Below w.heap.size w (((w.alloc (.cells #[.int .u8 ka, .int .i64 na, .int .u64 (ra : Int), .string sa] 24)).alloc (.cells #[.int .u8 kb, .int .i64 nb, .int .u64 (rb : Int), .string sb] 24)).alloc (.cells #[.int .u8 kc, .int .i64 nc, .int .u64 (rc : Int), .string sc] 24))) := Lib.hid (below3 w _ _ _)
  have M0 : Hid (Below (((w.alloc (.cells #[.int .u8 ka, .int .i64 na, .int .u64 (ra : Int), .string sa] 24)).alloc (.cells #[.int .u8 kb, .int .i64 nb, .int .u64 (rb : Int), .string sb] 24)).alloc (.cells #[.int .u8 kc, .int .i64 nc, .int .u64 (rc : Int), .string sc] 24)).heap.size (((w.alloc (.cells #[.int .u8 ka, .int .i64 na, .int .u64 (ra : Int), .string sa] 24)).alloc (.cells #[.int .u8 kb, .int .i64 nb, .int .u64 (rb : Int), .string sb] 24)).alloc (.cells #[.int .u8 kc, .int .i64 nc, .int .u64 (rc : Int), .string sc] 24)) (((w.alloc (.cells #[.int .u8 ka, .int .i64 na, .int .u64 (ra : Int), .string sa] 24)).alloc (.cells #[.int .u8 kb, .int .i64 nb, .int .u64 (rb : Int), .string sb] 24)).alloc (.cells #[.int .u8 kc, .int .i64 nc, .int .u64 (rc : Int), .string sc] 24))) := Lib.hid (Below.refl _ _)
  go_enter Tryd.func5, Tryd.ntmps5
  go_wp2_with fail
  refine (Q1.out _ P0.out).mono ?_
  rintro e w1 ⟨rfl, hbx⟩
  have P1 := chain P0 hbx (Below.refl _ _)
  have M1 := chain M0 hbx (Below.refl _ _)
  obtain ⟨x0, x1, x2, x3, x4, x5, x6, x7, x8, x9, x10, x11⟩ := MK.out _ M1.out
  clear hbx M0 P0
  go_wp2_with fail
  refine (Q2.out _ P1.out).mono ?_
  rintro e w2 ⟨rfl, hbx⟩
  have P2 := chain P1 hbx (Below.refl _ _)
  have M2 := chain M1 hbx (Below.refl _ _)
  clear x0 x1 x2 x3 x4 x5 x6 x7 x8 x9 x10 x11
  obtain ⟨x0, x1, x2, x3, x4, x5, x6, x7, x8, x9, x10, x11⟩ := MK.out _ M2.out
  clear hbx M1 P1
  go_wp2_with fail
  refine (Q3.out _ P2.out).mono ?_
  rintro e w3 ⟨rfl, hbx⟩
  have P3 := chain P2 hbx (Below.refl _ _)
  have M3 := chain M2 hbx (Below.refl _ _)
  clear x0 x1 x2 x3 x4 x5 x6 x7 x8 x9 x10 x11
  obtain ⟨x0, x1, x2, x3, x4, x5, x6, x7, x8, x9, x10, x11⟩ := MK.out _ M3.out
  clear hbx M2 P2
  go_wp2_with fail
  refine (AL.out _ P3.out).mono ?_
  rintro e w4 ⟨rfl, hbx⟩
  have P4 := chain P3 hbx (Below.refl _ _)
  have M4 := chain M3 hbx (Below.refl _ _)
  clear x0 x1 x2 x3 x4 x5 x6 x7 x8 x9 x10 x11
  obtain ⟨x0, x1, x2, x3, x4, x5, x6, x7, x8, x9, x10, x11⟩ := MK.out _ M4.out
  clear hbx M3 P3
  go_wp2
  go_ret
  exact ⟨rfl, P4.out⟩
set_option maxRecDepth 40000 in
set_option maxHeartbeats 4000000 in
theorem skip4 (ka na kb nb kc nc : Int) (ra rb rc : Nat) (sa sb sc : ByteArray) (A1 A2 A3 : Option Addr) (N1 c1 N2 c2 N3 c3 : Nat) (w : World) (Q1 : Hid (∀ W, Below w.heap.size w W → Calls Tryd.prog 10 #[.agg #[.int .u8 ka, .int .i64 na, .int .u64 (ra : Int), .string sa]] W fun e w' => e = .returned (.int .i64 0) ∧ Below W.heap.size W w')) (Q2 : Hid (∀ W, Below w.heap.size w W → Calls Tryd.prog 10 #[.agg #[.int .u8 kb, .int .i64 nb, .int .u64 (rb : Int), .string sb]] W fun e w' => e = .returned (.int .i64 0) ∧ Below W.heap.size W w')) (Q3 : Hid (∀ W, Below w.heap.size w W → Calls Tryd.prog 10 #[.agg #[.int .u8 kc, .int .i64 nc, .int .u64 (rc : Int), .string sc]] W fun e w' => e = .returned (.int .i64 0) ∧ Below W.heap.size W w')) (Q4 : Hid (∀ W, Below w.heap.size w W → Calls Tryd.prog 12 #[.slice A1 N1 c1] W fun e w' => e = .returned (.int .i64 2) ∧ Below W.heap.size W w')) (AL : Hid (∀ W, Below w.heap.size w W → Calls Tryd.prog 8 #[] W fun e w' => e = .returned (.bool true) ∧ Below W.heap.size W w')) :
    Calls Tryd.prog 5 #[.agg #[.int .u8 ka, .int .i64 na, .int .u64 (ra : Int), .string sa], .agg #[.int .u8 kb, .int .i64 nb, .int .u64 (rb : Int), .string sb], .agg #[.int .u8 kc, .int .i64 nc, .int .u64 (rc : Int), .string sc], .slice A1 N1 c1, .slice A2 N2 c2, .slice A3 N3 c3] w fun e w' => e = .returned (.bool true) ∧ Below w.heap.size w w' := by
  have MK : Hid (∀ W, Below (((w.alloc (.cells #[.int .u8 ka, .int .i64 na, .int .u64 (ra : Int), .string sa] 24)).alloc (.cells #[.int .u8 kb, .int .i64 nb, .int .u64 (rb : Int), .string sb] 24)).alloc (.cells #[.int .u8 kc, .int .i64 nc, .int .u64 (rc : Int), .string sc] 24)).heap.size (((w.alloc (.cells #[.int .u8 ka, .int .i64 na, .int .u64 (ra : Int), .string sa] 24)).alloc (.cells #[.int .u8 kb, .int .i64 nb, .int .u64 (rb : Int), .string sb] 24)).alloc (.cells #[.int .u8 kc, .int .i64 nc, .int .u64 (rc : Int), .string sc] 24)) W → W.cell? ⟨w.heap.size, 0, none⟩ = some (.int .u8 ka) ∧ W.cell? ⟨w.heap.size, 1, none⟩ = some (.int .i64 na) ∧ W.cell? ⟨w.heap.size, 2, none⟩ = some (.int .u64 (ra : Int)) ∧ W.cell? ⟨w.heap.size, 3, none⟩ = some (.string sa) ∧ W.cell? ⟨w.heap.size + 1, 0, none⟩ = some (.int .u8 kb) ∧ W.cell? ⟨w.heap.size + 1, 1, none⟩ = some (.int .i64 nb) ∧ W.cell? ⟨w.heap.size + 1, 2, none⟩ = some (.int .u64 (rb : Int)) ∧ W.cell? ⟨w.heap.size + 1, 3, none⟩ = some (.string sb) ∧ W.cell? ⟨w.heap.size + 2, 0, none⟩ = some (.int .u8 kc) ∧ W.cell? ⟨w.heap.size + 2, 1, none⟩ = some (.int .i64 nc) ∧ W.cell? ⟨w.heap.size + 2, 2, none⟩ = some (.int .u64 (rc : Int)) ∧ W.cell? ⟨w.heap.size + 2, 3, none⟩ = some (.string sc)) := Lib.hid fun W hW => by
    obtain ⟨f0, f1, f2⟩ := three w W _ _ _ hW
    refine ⟨?_, ?_, ?_, ?_, ?_, ?_, ?_, ?_, ?_, ?_, ?_, ?_⟩ <;> (unfold World.cell?; first | (rw [f0]; rfl) | (rw [f1]; rfl) | (rw [f2]; rfl))
  have P0 : Hid (Below w.heap.size w (((w.alloc (.cells #[.int .u8 ka, .int .i64 na, .int .u64 (ra : Int), .string sa] 24)).alloc (.cells #[.int .u8 kb, .int .i64 nb, .int .u64 (rb : Int), .string sb] 24)).alloc (.cells #[.int .u8 kc, .int .i64 nc, .int .u64 (rc : Int), .string sc] 24))) := Lib.hid (below3 w _ _ _)
  have M0 : Hid (Below (((w.alloc (.cells #[.int .u8 ka, .int .i64 na, .int .u64 (ra : Int), .string sa] 24)).alloc (.cells #[.int .u8 kb, .int .i64 nb, .int .u64 (rb : Int), .string sb] 24)).alloc (.cells #[.int .u8 kc, .int .i64 nc, .int .u64 (rc : Int), .string sc] 24)).heap.size (((w.alloc (.cells #[.int .u8 ka, .int .i64 na, .int .u64 (ra : Int), .string sa] 24)).alloc (.cells #[.int .u8 kb, .int .i64 nb, .int .u64 (rb : Int), .string sb] 24)).alloc (.cells #[.int .u8 kc, .int .i64 nc, .int .u64 (rc : Int), .string sc] 24)) (((w.alloc (.cells #[.int .u8 ka, .int .i64 na, .int .u64 (ra : Int), .string sa] 24)).alloc (.cells #[.int .u8 kb, .int .i64 nb, .int .u64 (rb : Int), .string sb] 24)).alloc (.cells #[.int .u8 kc, .int .i64 nc, .int .u64 (rc : Int), .string sc] 24))) := Lib.hid (Below.refl _ _)
  go_enter Tryd.func5, Tryd.ntmps5
  go_wp2_with fail
  refine (Q1.out _ P0.out).mono ?_
  rintro e w1 ⟨rfl, hbx⟩
  have P1 := chain P0 hbx (Below.refl _ _)
  have M1 := chain M0 hbx (Below.refl _ _)
  obtain ⟨x0, x1, x2, x3, x4, x5, x6, x7, x8, x9, x10, x11⟩ := MK.out _ M1.out
  clear hbx M0 P0
  go_wp2_with fail
  refine (Q2.out _ P1.out).mono ?_
  rintro e w2 ⟨rfl, hbx⟩
  have P2 := chain P1 hbx (Below.refl _ _)
  have M2 := chain M1 hbx (Below.refl _ _)
  clear x0 x1 x2 x3 x4 x5 x6 x7 x8 x9 x10 x11
  obtain ⟨x0, x1, x2, x3, x4, x5, x6, x7, x8, x9, x10, x11⟩ := MK.out _ M2.out
  clear hbx M1 P1
  go_wp2_with fail
  refine (Q3.out _ P2.out).mono ?_
  rintro e w3 ⟨rfl, hbx⟩
  have P3 := chain P2 hbx (Below.refl _ _)
  have M3 := chain M2 hbx (Below.refl _ _)
  clear x0 x1 x2 x3 x4 x5 x6 x7 x8 x9 x10 x11
  obtain ⟨x0, x1, x2, x3, x4, x5, x6, x7, x8, x9, x10, x11⟩ := MK.out _ M3.out
  clear hbx M2 P2
  go_wp2_with fail
  refine (Q4.out _ P3.out).mono ?_
  rintro e w4 ⟨rfl, hbx⟩
  have P4 := chain P3 hbx (Below.refl _ _)
  have M4 := chain M3 hbx (Below.refl _ _)
  clear x0 x1 x2 x3 x4 x5 x6 x7 x8 x9 x10 x11
  obtain ⟨x0, x1, x2, x3, x4, x5, x6, x7, x8, x9, x10, x11⟩ := MK.out _ M4.out
  clear hbx M3 P3
  go_wp2_with fail
  refine (AL.out _ P4.out).mono ?_
  rintro e w5 ⟨rfl, hbx⟩
  have P5 := chain P4 hbx (Below.refl _ _)
  have M5 := chain M4 hbx (Below.refl _ _)
  clear x0 x1 x2 x3 x4 x5 x6 x7 x8 x9 x10 x11
  obtain ⟨x0, x1, x2, x3, x4, x5, x6, x7, x8, x9, x10, x11⟩ := MK.out _ M5.out
  clear hbx M4 P4
  go_wp2
  go_ret
  exact ⟨rfl, P5.out⟩
set_option maxRecDepth 40000 in
set_option maxHeartbeats 4000000 in
theorem skip5 (ka na kb nb kc nc : Int) (ra rb rc : Nat) (sa sb sc : ByteArray) (A1 A2 A3 : Option Addr) (N1 c1 N2 c2 N3 c3 : Nat) (w : World) (Q1 : Hid (∀ W, Below w.heap.size w W → Calls Tryd.prog 10 #[.agg #[.int .u8 ka, .int .i64 na, .int .u64 (ra : Int), .string sa]] W fun e w' => e = .returned (.int .i64 0) ∧ Below W.heap.size W w')) (Q2 : Hid (∀ W, Below w.heap.size w W → Calls Tryd.prog 10 #[.agg #[.int .u8 kb, .int .i64 nb, .int .u64 (rb : Int), .string sb]] W fun e w' => e = .returned (.int .i64 0) ∧ Below W.heap.size W w')) (Q3 : Hid (∀ W, Below w.heap.size w W → Calls Tryd.prog 10 #[.agg #[.int .u8 kc, .int .i64 nc, .int .u64 (rc : Int), .string sc]] W fun e w' => e = .returned (.int .i64 0) ∧ Below W.heap.size W w')) (Q4 : Hid (∀ W, Below w.heap.size w W → Calls Tryd.prog 12 #[.slice A1 N1 c1] W fun e w' => e = .returned (.int .i64 0) ∧ Below W.heap.size W w')) (Q5 : Hid (∀ W, Below w.heap.size w W → Calls Tryd.prog 12 #[.slice A2 N2 c2] W fun e w' => e = .returned (.int .i64 2) ∧ Below W.heap.size W w')) (AL : Hid (∀ W, Below w.heap.size w W → Calls Tryd.prog 8 #[] W fun e w' => e = .returned (.bool true) ∧ Below W.heap.size W w')) :
    Calls Tryd.prog 5 #[.agg #[.int .u8 ka, .int .i64 na, .int .u64 (ra : Int), .string sa], .agg #[.int .u8 kb, .int .i64 nb, .int .u64 (rb : Int), .string sb], .agg #[.int .u8 kc, .int .i64 nc, .int .u64 (rc : Int), .string sc], .slice A1 N1 c1, .slice A2 N2 c2, .slice A3 N3 c3] w fun e w' => e = .returned (.bool true) ∧ Below w.heap.size w w' := by
  have MK : Hid (∀ W, Below (((w.alloc (.cells #[.int .u8 ka, .int .i64 na, .int .u64 (ra : Int), .string sa] 24)).alloc (.cells #[.int .u8 kb, .int .i64 nb, .int .u64 (rb : Int), .string sb] 24)).alloc (.cells #[.int .u8 kc, .int .i64 nc, .int .u64 (rc : Int), .string sc] 24)).heap.size (((w.alloc (.cells #[.int .u8 ka, .int .i64 na, .int .u64 (ra : Int), .string sa] 24)).alloc (.cells #[.int .u8 kb, .int .i64 nb, .int .u64 (rb : Int), .string sb] 24)).alloc (.cells #[.int .u8 kc, .int .i64 nc, .int .u64 (rc : Int), .string sc] 24)) W → W.cell? ⟨w.heap.size, 0, none⟩ = some (.int .u8 ka) ∧ W.cell? ⟨w.heap.size, 1, none⟩ = some (.int .i64 na) ∧ W.cell? ⟨w.heap.size, 2, none⟩ = some (.int .u64 (ra : Int)) ∧ W.cell? ⟨w.heap.size, 3, none⟩ = some (.string sa) ∧ W.cell? ⟨w.heap.size + 1, 0, none⟩ = some (.int .u8 kb) ∧ W.cell? ⟨w.heap.size + 1, 1, none⟩ = some (.int .i64 nb) ∧ W.cell? ⟨w.heap.size + 1, 2, none⟩ = some (.int .u64 (rb : Int)) ∧ W.cell? ⟨w.heap.size + 1, 3, none⟩ = some (.string sb) ∧ W.cell? ⟨w.heap.size + 2, 0, none⟩ = some (.int .u8 kc) ∧ W.cell? ⟨w.heap.size + 2, 1, none⟩ = some (.int .i64 nc) ∧ W.cell? ⟨w.heap.size + 2, 2, none⟩ = some (.int .u64 (rc : Int)) ∧ W.cell? ⟨w.heap.size + 2, 3, none⟩ = some (.string sc)) := Lib.hid fun W hW => by
    obtain ⟨f0, f1, f2⟩ := three w W _ _ _ hW
    refine ⟨?_, ?_, ?_, ?_, ?_, ?_, ?_, ?_, ?_, ?_, ?_, ?_⟩ <;> (unfold World.cell?; first | (rw [f0]; rfl) | (rw [f1]; rfl) | (rw [f2]; rfl))
  have P0 : Hid (Below w.heap.size w (((w.alloc (.cells #[.int .u8 ka, .int .i64 na, .int .u64 (ra : Int), .string sa] 24)).alloc (.cells #[.int .u8 kb, .int .i64 nb, .int .u64 (rb : Int), .string sb] 24)).alloc (.cells #[.int .u8 kc, .int .i64 nc, .int .u64 (rc : Int), .string sc] 24))) := Lib.hid (below3 w _ _ _)
  have M0 : Hid (Below (((w.alloc (.cells #[.int .u8 ka, .int .i64 na, .int .u64 (ra : Int), .string sa] 24)).alloc (.cells #[.int .u8 kb, .int .i64 nb, .int .u64 (rb : Int), .string sb] 24)).alloc (.cells #[.int .u8 kc, .int .i64 nc, .int .u64 (rc : Int), .string sc] 24)).heap.size (((w.alloc (.cells #[.int .u8 ka, .int .i64 na, .int .u64 (ra : Int), .string sa] 24)).alloc (.cells #[.int .u8 kb, .int .i64 nb, .int .u64 (rb : Int), .string sb] 24)).alloc (.cells #[.int .u8 kc, .int .i64 nc, .int .u64 (rc : Int), .string sc] 24)) (((w.alloc (.cells #[.int .u8 ka, .int .i64 na, .int .u64 (ra : Int), .string sa] 24)).alloc (.cells #[.int .u8 kb, .int .i64 nb, .int .u64 (rb : Int), .string sb] 24)).alloc (.cells #[.int .u8 kc, .int .i64 nc, .int .u64 (rc : Int), .string sc] 24))) := Lib.hid (Below.refl _ _)
  go_enter Tryd.func5, Tryd.ntmps5
  go_wp2_with fail
  refine (Q1.out _ P0.out).mono ?_
  rintro e w1 ⟨rfl, hbx⟩
  have P1 := chain P0 hbx (Below.refl _ _)
  have M1 := chain M0 hbx (Below.refl _ _)
  obtain ⟨x0, x1, x2, x3, x4, x5, x6, x7, x8, x9, x10, x11⟩ := MK.out _ M1.out
  clear hbx M0 P0
  go_wp2_with fail
  refine (Q2.out _ P1.out).mono ?_
  rintro e w2 ⟨rfl, hbx⟩
  have P2 := chain P1 hbx (Below.refl _ _)
  have M2 := chain M1 hbx (Below.refl _ _)
  clear x0 x1 x2 x3 x4 x5 x6 x7 x8 x9 x10 x11
  obtain ⟨x0, x1, x2, x3, x4, x5, x6, x7, x8, x9, x10, x11⟩ := MK.out _ M2.out
  clear hbx M1 P1
  go_wp2_with fail
  refine (Q3.out _ P2.out).mono ?_
  rintro e w3 ⟨rfl, hbx⟩
  have P3 := chain P2 hbx (Below.refl _ _)
  have M3 := chain M2 hbx (Below.refl _ _)
  clear x0 x1 x2 x3 x4 x5 x6 x7 x8 x9 x10 x11
  obtain ⟨x0, x1, x2, x3, x4, x5, x6, x7, x8, x9, x10, x11⟩ := MK.out _ M3.out
  clear hbx M2 P2
  go_wp2_with fail
  refine (Q4.out _ P3.out).mono ?_
  rintro e w4 ⟨rfl, hbx⟩
  have P4 := chain P3 hbx (Below.refl _ _)
  have M4 := chain M3 hbx (Below.refl _ _)
  clear x0 x1 x2 x3 x4 x5 x6 x7 x8 x9 x10 x11
  obtain ⟨x0, x1, x2, x3, x4, x5, x6, x7, x8, x9, x10, x11⟩ := MK.out _ M4.out
  clear hbx M3 P3
  go_wp2_with fail
  refine (Q5.out _ P4.out).mono ?_
  rintro e w5 ⟨rfl, hbx⟩
  have P5 := chain P4 hbx (Below.refl _ _)
  have M5 := chain M4 hbx (Below.refl _ _)
  clear x0 x1 x2 x3 x4 x5 x6 x7 x8 x9 x10 x11
  obtain ⟨x0, x1, x2, x3, x4, x5, x6, x7, x8, x9, x10, x11⟩ := MK.out _ M5.out
  clear hbx M4 P4
  go_wp2_with fail
  refine (AL.out _ P5.out).mono ?_
  rintro e w6 ⟨rfl, hbx⟩
  have P6 := chain P5 hbx (Below.refl _ _)
  have M6 := chain M5 hbx (Below.refl _ _)
  clear x0 x1 x2 x3 x4 x5 x6 x7 x8 x9 x10 x11
  obtain ⟨x0, x1, x2, x3, x4, x5, x6, x7, x8, x9, x10, x11⟩ := MK.out _ M6.out
  clear hbx M5 P5
  go_wp2
  go_ret
  exact ⟨rfl, P6.out⟩
set_option maxRecDepth 40000 in
set_option maxHeartbeats 4000000 in
theorem skip6 (ka na kb nb kc nc : Int) (ra rb rc : Nat) (sa sb sc : ByteArray) (A1 A2 A3 : Option Addr) (N1 c1 N2 c2 N3 c3 : Nat) (w : World) (Q1 : Hid (∀ W, Below w.heap.size w W → Calls Tryd.prog 10 #[.agg #[.int .u8 ka, .int .i64 na, .int .u64 (ra : Int), .string sa]] W fun e w' => e = .returned (.int .i64 0) ∧ Below W.heap.size W w')) (Q2 : Hid (∀ W, Below w.heap.size w W → Calls Tryd.prog 10 #[.agg #[.int .u8 kb, .int .i64 nb, .int .u64 (rb : Int), .string sb]] W fun e w' => e = .returned (.int .i64 0) ∧ Below W.heap.size W w')) (Q3 : Hid (∀ W, Below w.heap.size w W → Calls Tryd.prog 10 #[.agg #[.int .u8 kc, .int .i64 nc, .int .u64 (rc : Int), .string sc]] W fun e w' => e = .returned (.int .i64 0) ∧ Below W.heap.size W w')) (Q4 : Hid (∀ W, Below w.heap.size w W → Calls Tryd.prog 12 #[.slice A1 N1 c1] W fun e w' => e = .returned (.int .i64 0) ∧ Below W.heap.size W w')) (Q5 : Hid (∀ W, Below w.heap.size w W → Calls Tryd.prog 12 #[.slice A2 N2 c2] W fun e w' => e = .returned (.int .i64 0) ∧ Below W.heap.size W w')) (Q6 : Hid (∀ W, Below w.heap.size w W → Calls Tryd.prog 12 #[.slice A3 N3 c3] W fun e w' => e = .returned (.int .i64 2) ∧ Below W.heap.size W w')) (AL : Hid (∀ W, Below w.heap.size w W → Calls Tryd.prog 8 #[] W fun e w' => e = .returned (.bool true) ∧ Below W.heap.size W w')) :
    Calls Tryd.prog 5 #[.agg #[.int .u8 ka, .int .i64 na, .int .u64 (ra : Int), .string sa], .agg #[.int .u8 kb, .int .i64 nb, .int .u64 (rb : Int), .string sb], .agg #[.int .u8 kc, .int .i64 nc, .int .u64 (rc : Int), .string sc], .slice A1 N1 c1, .slice A2 N2 c2, .slice A3 N3 c3] w fun e w' => e = .returned (.bool true) ∧ Below w.heap.size w w' := by
  have MK : Hid (∀ W, Below (((w.alloc (.cells #[.int .u8 ka, .int .i64 na, .int .u64 (ra : Int), .string sa] 24)).alloc (.cells #[.int .u8 kb, .int .i64 nb, .int .u64 (rb : Int), .string sb] 24)).alloc (.cells #[.int .u8 kc, .int .i64 nc, .int .u64 (rc : Int), .string sc] 24)).heap.size (((w.alloc (.cells #[.int .u8 ka, .int .i64 na, .int .u64 (ra : Int), .string sa] 24)).alloc (.cells #[.int .u8 kb, .int .i64 nb, .int .u64 (rb : Int), .string sb] 24)).alloc (.cells #[.int .u8 kc, .int .i64 nc, .int .u64 (rc : Int), .string sc] 24)) W → W.cell? ⟨w.heap.size, 0, none⟩ = some (.int .u8 ka) ∧ W.cell? ⟨w.heap.size, 1, none⟩ = some (.int .i64 na) ∧ W.cell? ⟨w.heap.size, 2, none⟩ = some (.int .u64 (ra : Int)) ∧ W.cell? ⟨w.heap.size, 3, none⟩ = some (.string sa) ∧ W.cell? ⟨w.heap.size + 1, 0, none⟩ = some (.int .u8 kb) ∧ W.cell? ⟨w.heap.size + 1, 1, none⟩ = some (.int .i64 nb) ∧ W.cell? ⟨w.heap.size + 1, 2, none⟩ = some (.int .u64 (rb : Int)) ∧ W.cell? ⟨w.heap.size + 1, 3, none⟩ = some (.string sb) ∧ W.cell? ⟨w.heap.size + 2, 0, none⟩ = some (.int .u8 kc) ∧ W.cell? ⟨w.heap.size + 2, 1, none⟩ = some (.int .i64 nc) ∧ W.cell? ⟨w.heap.size + 2, 2, none⟩ = some (.int .u64 (rc : Int)) ∧ W.cell? ⟨w.heap.size + 2, 3, none⟩ = some (.string sc)) := Lib.hid fun W hW => by
    obtain ⟨f0, f1, f2⟩ := three w W _ _ _ hW
    refine ⟨?_, ?_, ?_, ?_, ?_, ?_, ?_, ?_, ?_, ?_, ?_, ?_⟩ <;> (unfold World.cell?; first | (rw [f0]; rfl) | (rw [f1]; rfl) | (rw [f2]; rfl))
  have P0 : Hid (Below w.heap.size w (((w.alloc (.cells #[.int .u8 ka, .int .i64 na, .int .u64 (ra : Int), .string sa] 24)).alloc (.cells #[.int .u8 kb, .int .i64 nb, .int .u64 (rb : Int), .string sb] 24)).alloc (.cells #[.int .u8 kc, .int .i64 nc, .int .u64 (rc : Int), .string sc] 24))) := Lib.hid (below3 w _ _ _)
  have M0 : Hid (Below (((w.alloc (.cells #[.int .u8 ka, .int .i64 na, .int .u64 (ra : Int), .string sa] 24)).alloc (.cells #[.int .u8 kb, .int .i64 nb, .int .u64 (rb : Int), .string sb] 24)).alloc (.cells #[.int .u8 kc, .int .i64 nc, .int .u64 (rc : Int), .string sc] 24)).heap.size (((w.alloc (.cells #[.int .u8 ka, .int .i64 na, .int .u64 (ra : Int), .string sa] 24)).alloc (.cells #[.int .u8 kb, .int .i64 nb, .int .u64 (rb : Int), .string sb] 24)).alloc (.cells #[.int .u8 kc, .int .i64 nc, .int .u64 (rc : Int), .string sc] 24)) (((w.alloc (.cells #[.int .u8 ka, .int .i64 na, .int .u64 (ra : Int), .string sa] 24)).alloc (.cells #[.int .u8 kb, .int .i64 nb, .int .u64 (rb : Int), .string sb] 24)).alloc (.cells #[.int .u8 kc, .int .i64 nc, .int .u64 (rc : Int), .string sc] 24))) := Lib.hid (Below.refl _ _)
  go_enter Tryd.func5, Tryd.ntmps5
  go_wp2_with fail
  refine (Q1.out _ P0.out).mono ?_
  rintro e w1 ⟨rfl, hbx⟩
  have P1 := chain P0 hbx (Below.refl _ _)
  have M1 := chain M0 hbx (Below.refl _ _)
  obtain ⟨x0, x1, x2, x3, x4, x5, x6, x7, x8, x9, x10, x11⟩ := MK.out _ M1.out
  clear hbx M0 P0
  go_wp2_with fail
  refine (Q2.out _ P1.out).mono ?_
  rintro e w2 ⟨rfl, hbx⟩
  have P2 := chain P1 hbx (Below.refl _ _)
  have M2 := chain M1 hbx (Below.refl _ _)
  clear x0 x1 x2 x3 x4 x5 x6 x7 x8 x9 x10 x11
  obtain ⟨x0, x1, x2, x3, x4, x5, x6, x7, x8, x9, x10, x11⟩ := MK.out _ M2.out
  clear hbx M1 P1
  go_wp2_with fail
  refine (Q3.out _ P2.out).mono ?_
  rintro e w3 ⟨rfl, hbx⟩
  have P3 := chain P2 hbx (Below.refl _ _)
  have M3 := chain M2 hbx (Below.refl _ _)
  clear x0 x1 x2 x3 x4 x5 x6 x7 x8 x9 x10 x11
  obtain ⟨x0, x1, x2, x3, x4, x5, x6, x7, x8, x9, x10, x11⟩ := MK.out _ M3.out
  clear hbx M2 P2
  go_wp2_with fail
  refine (Q4.out _ P3.out).mono ?_
  rintro e w4 ⟨rfl, hbx⟩
  have P4 := chain P3 hbx (Below.refl _ _)
  have M4 := chain M3 hbx (Below.refl _ _)
  clear x0 x1 x2 x3 x4 x5 x6 x7 x8 x9 x10 x11
  obtain ⟨x0, x1, x2, x3, x4, x5, x6, x7, x8, x9, x10, x11⟩ := MK.out _ M4.out
  clear hbx M3 P3
  go_wp2_with fail
  refine (Q5.out _ P4.out).mono ?_
  rintro e w5 ⟨rfl, hbx⟩
  have P5 := chain P4 hbx (Below.refl _ _)
  have M5 := chain M4 hbx (Below.refl _ _)
  clear x0 x1 x2 x3 x4 x5 x6 x7 x8 x9 x10 x11
  obtain ⟨x0, x1, x2, x3, x4, x5, x6, x7, x8, x9, x10, x11⟩ := MK.out _ M5.out
  clear hbx M4 P4
  go_wp2_with fail
  refine (Q6.out _ P5.out).mono ?_
  rintro e w6 ⟨rfl, hbx⟩
  have P6 := chain P5 hbx (Below.refl _ _)
  have M6 := chain M5 hbx (Below.refl _ _)
  clear x0 x1 x2 x3 x4 x5 x6 x7 x8 x9 x10 x11
  obtain ⟨x0, x1, x2, x3, x4, x5, x6, x7, x8, x9, x10, x11⟩ := MK.out _ M6.out
  clear hbx M5 P5
  go_wp2_with fail
  refine (AL.out _ P6.out).mono ?_
  rintro e w7 ⟨rfl, hbx⟩
  have P7 := chain P6 hbx (Below.refl _ _)
  have M7 := chain M6 hbx (Below.refl _ _)
  clear x0 x1 x2 x3 x4 x5 x6 x7 x8 x9 x10 x11
  obtain ⟨x0, x1, x2, x3, x4, x5, x6, x7, x8, x9, x10, x11⟩ := MK.out _ M7.out
  clear hbx M6 P6
  go_wp2
  go_ret
  exact ⟨rfl, P7.out⟩
end Go.Proofs.YtjkfgchjdhgbgaaDoor.Vt
