/- The chapter's examples hold: the contract of the statements' own 'alive'. -/
import Derived.Test.YtjkfgchjdhgbgaaDoorVk
import Derived.Laws.IdiomStrings
namespace Go.Proofs.YtjkfgchjdhgbgaaDoor.Va
open Go Go.RowKit Go.Proofs.YtjkfgchjdhgbgaaDoor.Vm Go.Proofs.YtjkfgchjdhgbgaaDoor.Vl Go.Proofs.YtjkfgchjdhgbgaaDoor.Ve Go.Proofs.YtjkfgchjdhgbgaaDoor.Vr Go.Proofs.YtjkfgchjdhgbgaaDoor.Vs Go.Proofs.YtjkfgchjdhgbgaaDoor.Vc Go.Proofs.YtjkfgchjdhgbgaaDoor.Vk
theorem nan_any (w : World) : Calls Tryd.prog 28 #[] w fun e w' => e = .returned (.float .f64 9221120237041090561) ∧ w = w' := by
  have hf := fun W => from_bits 9221120237041090561 W
  go_enter Tryd.func28, Tryd.ntmps28
  go_wp2
  go_ret
  exact ⟨rfl, rfl⟩
theorem sign_at (x y z : Nat) (w : World) (h1 : bits .or .u64 (bits .andNot .u64 (x : Int) 9223372036854775808) (bits .and .u64 (y : Int) 9223372036854775808) = (z : Int)) :
    Calls Tryd.prog 29 #[.float .f64 x, .float .f64 y] w fun e w' => e = .returned (.float .f64 z) ∧ w = w' := by
  have hx := fun W => to_bits x W
  have hy := fun W => to_bits y W
  have hf := fun W => from_bits (z : Int) W
  have ht : ((z : Int)).toNat = z := by omega
  rw [ht] at hf
  clear ht
  go_enter Tryd.func29, Tryd.ntmps29
  go_wp2
  go_ret
  exact ⟨rfl, rfl⟩
def zeros : Obj := .cells (Array.replicate 101 (.int .u8 0)) 5
def zeroS : ByteArray := ⟨(List.replicate 101 (0 : UInt8)).toArray⟩
theorem make_z (W : World) : (Instr.makeSlice 51 (.int .i64 101) (.int .i64 101)).run Tryd.prog W = .ok (.slice (some ⟨W.heap.size, 0, none⟩) 101 101) (W.alloc zeros) := by kernel_rfl
theorem conv_z (W : World) : (convert 51 9 (.slice (some ⟨W.heap.size, 0, none⟩) 101 101)).run Tryd.prog (W.alloc zeros) = .ok (.string zeroS) (W.alloc zeros) := by
  refine run_convert_bytes_back (W.alloc zeros) 51 9 5 ⟨W.heap.size, 0, none⟩ 101 (List.replicate 101 (0 : UInt8)) Tryd.underlying51 Tryd.underlying5 Tryd.underlying9 (fun j hj => ?_)
  have e : (W.alloc zeros).heap[W.heap.size]? = some zeros := heap_alloc_new W _
  have hj' : j < 101 := by simpa using hj
  rw [Addr.add_lit]
  unfold World.cell?
  rw [e, List.getElem_replicate]
  unfold zeros
  simp only [Nat.zero_add]
  rw [Array.getElem?_replicate, if_pos hj']
  rfl
theorem zero_size : zeroS.size = 101 := by decide
set_option maxRecDepth 40000 in
set_option maxHeartbeats 2000000 in
theorem alive (w : World) (hT : Tabs w) : Calls Tryd.prog 8 #[] w fun e w' => e = .returned (.bool true) ∧ Below w.heap.size w w' := by
  have HS : Hid (∀ W, Tabs W → Calls Tryd.prog 22 #[.string ⟨#[255]⟩] W fun e w' => e = .returned (.tuple #[.agg #[.int .u8 0, .int .i64 0, .int .u64 0, .string ⟨#[]⟩], .int .i64 7]) ∧ Below W.heap.size W w') := Lib.hid fun W hW => by
    have h := string_any ⟨#[255]⟩ W hW (by decide)
    rw [if_pos (by decide), if_neg (by decide)] at h
    exact h
  have HA : Hid (∀ W, Tabs W → Calls Tryd.prog 22 #[.string ⟨#[97]⟩] W fun e w' => e = .returned (.tuple #[.agg #[.int .u8 5, .int .i64 0, .int .u64 0, .string ⟨#[97]⟩], .int .i64 0]) ∧ Below W.heap.size W w') := Lib.hid fun W hW => by
    have h := string_any ⟨#[97]⟩ W hW (by decide)
    rw [if_pos (by decide), if_pos (by decide)] at h
    exact h
  have HB : Hid (∀ W, Calls Tryd.prog 21 #[.string ⟨#[98]⟩] W fun e w' => e = .returned (.tuple #[.agg #[.int .u8 4, .int .i64 0, .int .u64 0, .string ⟨#[98]⟩], .int .i64 0]) ∧ Below W.heap.size W w') := Lib.hid fun W => by
    have h := bytes_any ⟨#[98]⟩ W (by decide)
    rw [if_pos (by decide)] at h
    exact h
  have HL : Hid (∀ W (s : ByteArray), s.size = 101 → Calls Tryd.prog 21 #[.string s] W fun e w' => e = .returned (.tuple #[.agg #[.int .u8 0, .int .i64 0, .int .u64 0, .string ⟨#[]⟩], .int .i64 5]) ∧ Below W.heap.size W w') := Lib.hid fun W s hs => by
    have h := bytes_any s W (by omega)
    rw [if_neg (by omega)] at h
    exact h
  have RN : Hid (∀ W, Calls Tryd.prog 18 #[.float .f64 9221120237041090561] W fun e w' => e = .returned (.agg #[.int .u8 3, .int .i64 0, .int .u64 9221120237041090561, .string ⟨#[]⟩]) ∧ Below W.heap.size W w') := Lib.hid fun W => by
    have h := real_any 9221120237041090561 W
    rw [show Rm.canon 9221120237041090561 = 9221120237041090561 by decide] at h
    exact h
  have RM : Hid (∀ W, Calls Tryd.prog 18 #[.float .f64 18444492273895866369] W fun e w' => e = .returned (.agg #[.int .u8 3, .int .i64 0, .int .u64 9221120237041090561, .string ⟨#[]⟩]) ∧ Below W.heap.size W w') := Lib.hid fun W => by
    have h := real_any 18444492273895866369 W
    rw [show Rm.canon 18444492273895866369 = 9221120237041090561 by decide] at h
    exact h
  have RZ : Hid (∀ W, Calls Tryd.prog 18 #[.float .f64 9223372036854775808] W fun e w' => e = .returned (.agg #[.int .u8 3, .int .i64 0, .int .u64 9223372036854775808, .string ⟨#[]⟩]) ∧ Below W.heap.size W w') := Lib.hid fun W => by
    have h := real_any 9223372036854775808 W
    rw [show Rm.canon 9223372036854775808 = 9223372036854775808 by decide] at h
    exact h
  have R0 : Hid (∀ W, Calls Tryd.prog 18 #[.float .f64 0] W fun e w' => e = .returned (.agg #[.int .u8 3, .int .i64 0, .int .u64 0, .string ⟨#[]⟩]) ∧ Below W.heap.size W w') := Lib.hid fun W => by
    have h := real_any 0 W
    rw [show Rm.canon 0 = 0 by decide] at h
    exact h
  have CN : Hid (∀ W, Calls Tryd.prog 29 #[.float .f64 9221120237041090561, .float .f64 13830554455654793216] W fun e w' => e = .returned (.float .f64 18444492273895866369) ∧ W = w') := Lib.hid fun W => sign_at 9221120237041090561 13830554455654793216 18444492273895866369 W (by decide)
  have CZ : Hid (∀ W, Calls Tryd.prog 29 #[.float .f64 0, .float .f64 13830554455654793216] W fun e w' => e = .returned (.float .f64 9223372036854775808) ∧ W = w') := Lib.hid fun W => sign_at 0 13830554455654793216 9223372036854775808 W (by decide)
  have L1 : Hid (∀ W, Calls Tryd.prog 24 #[.agg #[.int .u8 3, .int .i64 0, .int .u64 9223372036854775808, .string ⟨#[]⟩], .agg #[.int .u8 3, .int .i64 0, .int .u64 0, .string ⟨#[]⟩]] W fun e w' => e = .returned (.bool true) ∧ Below W.heap.size W w') := Lib.hid fun W => by
    have h := Vn.less_any ⟨3, 0, 9223372036854775808, ⟨#[]⟩⟩ ⟨3, 0, 0, ⟨#[]⟩⟩ (by decide) (by decide) W
    rw [show less ⟨3, 0, 9223372036854775808, ⟨#[]⟩⟩ ⟨3, 0, 0, ⟨#[]⟩⟩ = true by decide] at h
    exact h
  have L2 : Hid (∀ W, Calls Tryd.prog 24 #[.agg #[.int .u8 0, .int .i64 0, .int .u64 0, .string ⟨#[]⟩], .agg #[.int .u8 1, .int .i64 0, .int .u64 0, .string ⟨#[]⟩]] W fun e w' => e = .returned (.bool true) ∧ Below W.heap.size W w') := Lib.hid fun W => by
    have h := Vn.less_any ⟨0, 0, 0, ⟨#[]⟩⟩ ⟨1, 0, 0, ⟨#[]⟩⟩ (by decide) (by decide) W
    rw [show less ⟨0, 0, 0, ⟨#[]⟩⟩ ⟨1, 0, 0, ⟨#[]⟩⟩ = true by decide] at h
    exact h
  have L3 : Hid (∀ W, Calls Tryd.prog 24 #[.agg #[.int .u8 5, .int .i64 0, .int .u64 0, .string ⟨#[97]⟩], .agg #[.int .u8 4, .int .i64 0, .int .u64 0, .string ⟨#[98]⟩]] W fun e w' => e = .returned (.bool false) ∧ Below W.heap.size W w') := Lib.hid fun W => by
    have h := Vn.less_any ⟨5, 0, 0, ⟨#[97]⟩⟩ ⟨4, 0, 0, ⟨#[98]⟩⟩ (by decide) (by decide) W
    rw [show less ⟨5, 0, 0, ⟨#[97]⟩⟩ ⟨4, 0, 0, ⟨#[98]⟩⟩ = false by decide] at h
    exact h
  have HN : Hid (∀ W, Calls Tryd.prog 15 #[] W fun e w' => e = .returned (.agg #[.int .u8 0, .int .i64 0, .int .u64 0, .string ⟨#[]⟩]) ∧ Below W.heap.size W w') := Lib.hid fun W => null_any W
  have HF : Hid (∀ W, Calls Tryd.prog 16 #[.bool false] W fun e w' => e = .returned (.agg #[.int .u8 1, .int .i64 0, .int .u64 0, .string ⟨#[]⟩]) ∧ Below W.heap.size W w') := Lib.hid fun W => bool_any false W
  have HC : Hid (∀ W, Tabs W → Calls Tryd.prog 10 #[.agg #[.int .u8 9, .int .i64 0, .int .u64 0, .string ⟨#[]⟩]] W fun e w' => e = .returned (.int .i64 2) ∧ Below W.heap.size W w') := Lib.hid fun W hW => by
    have h := check_any ⟨9, 0, 0, ⟨#[]⟩⟩ W hW (by decide)
    rw [show erg (may ⟨9, 0, 0, ⟨#[]⟩⟩) = 2 by decide] at h
    exact h
  have HR : Hid (∀ W, Tabs W → Calls Tryd.prog 12 #[.slice none 0 0] W fun e w' => e = .returned (.int .i64 2) ∧ Below W.heap.size W w') := Lib.hid fun W hW => by
    have h := row_any W none 0 [] (Reads.nil _ _) (by decide) (fun v hv => by cases hv) hW
    rw [show erg (mayRow []) = 2 by decide] at h
    exact h
  have he := run_eqI 3 0 9221120237041090561 ⟨#[]⟩ 3 0 9221120237041090561 ⟨#[]⟩
  rw [show eqI 3 0 9221120237041090561 ⟨#[]⟩ 3 0 9221120237041090561 ⟨#[]⟩ = true by simp [eqI]] at he
  have HT := Lib.hid hT
  clear hT
  go_enter Tryd.func8, Tryd.ntmps8
  go_wp2_with fail
  refine (nan_any _).mono ?_
  rintro e w1 ⟨rfl, rfl⟩
  go_wp2_with fail
  refine (HS.out _ HT.out).mono ?_
  rintro e w1 ⟨rfl, hb1⟩
  have H1 := Lib.hid hb1
  clear hb1
  have hmk := make_z
  have hcv := conv_z (w1.alloc (.cells #[.int .u8 0, .int .i64 0, .int .u64 0, .string ⟨#[]⟩] 24))
  rw [show (w1.alloc (.cells #[.int .u8 0, .int .i64 0, .int .u64 0, .string ⟨#[]⟩] 24)).heap.size = w1.heap.size + 1 by simp] at hcv
  go_wp2_with fail
  clear hmk hcv
  refine (HL.out _ _ zero_size).mono ?_
  rintro e w2 ⟨rfl, hb2⟩
  have G1 := chain (Lib.hid (Below.refl w.heap.size w)) H1.out (Below.refl _ _)
  have G2 := chain G1 hb2 (((Below.refl _ _).alloc (Nat.le_refl _) _).alloc (by simp) _)
  clear hb2
  have HT2 : Hid (Tabs (w2.alloc (.cells #[.int .u8 0, .int .i64 0, .int .u64 0, .string ⟨#[]⟩] 24))) := Lib.hid ((HT.out.keep G2.out).keep ((Below.refl _ _).alloc (Nat.le_refl _) _))
  go_wp2_with fail
  refine (HA.out _ HT2.out).mono ?_
  rintro e w3 ⟨rfl, hb3⟩
  have G3 := chain G2 hb3 ((Below.refl _ _).alloc (Nat.le_refl _) _)
  clear hb3
  go_wp2_with fail
  refine (HB.out _).mono ?_
  rintro e w4 ⟨rfl, hb4⟩
  have HK : Hid (∀ W, Below w4.heap.size w4 W → Four W w3.heap.size 0 ⟨5, 0, 0, ⟨#[97]⟩⟩) := Lib.hid fun W hW => by
    have hlt : w3.heap.size < (w3.alloc (.cells #[.int .u8 5, .int .i64 0, .int .u64 0, .string ⟨#[97]⟩] 24)).heap.size := by simp
    have e4 : W.heap[w3.heap.size]? = some (.cells #[.int .u8 5, .int .i64 0, .int .u64 0, .string ⟨#[97]⟩] 24) :=
      (hW.block _ (Nat.lt_of_lt_of_le hlt hb4.size)).trans ((hb4.block _ hlt).trans (heap_alloc_new w3 _))
    refine ⟨?_, ?_, ?_, ?_⟩ <;> (unfold World.cell?; rw [e4]; rfl)
  have G4 := chain G3 hb4 ((Below.refl _ _).alloc (Nat.le_refl _) _)

  clear hb4
  have MK : Hid (∀ W, Below (w4.alloc (.cells #[.int .u8 4, .int .i64 0, .int .u64 0, .string ⟨#[98]⟩] 24)).heap.size (w4.alloc (.cells #[.int .u8 4, .int .i64 0, .int .u64 0, .string ⟨#[98]⟩] 24)) W → Four W w3.heap.size 0 ⟨5, 0, 0, ⟨#[97]⟩⟩ ∧ Four W w4.heap.size 0 ⟨4, 0, 0, ⟨#[98]⟩⟩) := Lib.hid fun W hW => by
    have ha : Below w4.heap.size w4 (w4.alloc (.cells #[.int .u8 4, .int .i64 0, .int .u64 0, .string ⟨#[98]⟩] 24)) := (Below.refl _ _).alloc (Nat.le_refl _) _
    refine ⟨HK.out W (ha.trans (hW.mono ha.size)), ?_⟩
    have e4 : W.heap[w4.heap.size]? = some (.cells #[.int .u8 4, .int .i64 0, .int .u64 0, .string ⟨#[98]⟩] 24) := (hW.block _ (by simp)).trans (heap_alloc_new w4 _)
    refine ⟨?_, ?_, ?_, ?_⟩ <;> (unfold World.cell?; rw [e4]; rfl)
  clear HK
  have P4 := chain G4 (Below.refl _ _) ((Below.refl w4.heap.size w4).alloc (Nat.le_refl _) (.cells #[.int .u8 4, .int .i64 0, .int .u64 0, .string ⟨#[98]⟩] 24))
  have M4 : Hid (Below (w4.alloc (.cells #[.int .u8 4, .int .i64 0, .int .u64 0, .string ⟨#[98]⟩] 24)).heap.size (w4.alloc (.cells #[.int .u8 4, .int .i64 0, .int .u64 0, .string ⟨#[98]⟩] 24)) (w4.alloc (.cells #[.int .u8 4, .int .i64 0, .int .u64 0, .string ⟨#[98]⟩] 24))) := Lib.hid (Below.refl _ _)
  clear G4
  go_wp2_with fail
  refine (RN.out _).mono ?_
  rintro e w5 ⟨rfl, hbx⟩
  have P5 := chain P4 hbx (Below.refl _ _)
  have M5 := chain M4 hbx (Below.refl _ _)
  clear hbx P4 M4
  go_wp2_with fail
  refine (CN.out _).mono ?_
  rintro e wx ⟨rfl, rfl⟩
  go_wp2_with fail
  refine (RM.out _).mono ?_
  rintro e w6 ⟨rfl, hbx⟩
  have P6 := chain P5 hbx (Below.refl _ _)
  have M6 := chain M5 hbx (Below.refl _ _)
  clear hbx P5 M5
  go_wp2_with fail
  refine (CZ.out _).mono ?_
  rintro e wx ⟨rfl, rfl⟩
  go_wp2_with fail
  refine (RZ.out _).mono ?_
  rintro e w7 ⟨rfl, hbx⟩
  have P7 := chain P6 hbx (Below.refl _ _)
  have M7 := chain M6 hbx (Below.refl _ _)
  clear hbx P6 M6
  go_wp2_with fail
  refine (R0.out _).mono ?_
  rintro e w8 ⟨rfl, hbx⟩
  have P8 := chain P7 hbx (Below.refl _ _)
  have M8 := chain M7 hbx (Below.refl _ _)
  clear hbx P7 M7
  go_wp2_with fail
  refine (L1.out _).mono ?_
  rintro e w9 ⟨rfl, hbx⟩
  have P9 := chain P8 hbx (Below.refl _ _)
  have M9 := chain M8 hbx (Below.refl _ _)
  clear hbx P8 M8
  go_wp2_with fail
  refine (HN.out _).mono ?_
  rintro e w10 ⟨rfl, hbx⟩
  have P10 := chain P9 hbx (Below.refl _ _)
  have M10 := chain M9 hbx (Below.refl _ _)
  clear hbx P9 M9
  go_wp2_with fail
  refine (HF.out _).mono ?_
  rintro e w11 ⟨rfl, hbx⟩
  have P11 := chain P10 hbx (Below.refl _ _)
  have M11 := chain M10 hbx (Below.refl _ _)
  clear hbx P10 M10
  go_wp2_with fail
  refine (L2.out _).mono ?_
  rintro e w12 ⟨rfl, hbx⟩
  have P12 := chain P11 hbx (Below.refl _ _)
  have M12 := chain M11 hbx (Below.refl _ _)
  clear hbx P11 M11
  obtain ⟨⟨c0, c1, c2, c3⟩, d0, d1, d2, d3⟩ := MK.out _ M12.out
  dsimp only at c0 c1 c2 c3 d0 d1 d2 d3
  go_wp2_with fail
  refine (L3.out _).mono ?_
  rintro e w13 ⟨rfl, hbx⟩
  have P13 := chain P12 hbx (Below.refl _ _)
  have M13 := chain M12 hbx (Below.refl _ _)
  clear hbx P12 M12
  clear c0 c1 c2 c3 d0 d1 d2 d3
  go_wp2_with fail
  refine (HC.out _ (HT.out.keep P13.out)).mono ?_
  rintro e w14 ⟨rfl, hbx⟩
  have P14 := chain P13 hbx (Below.refl _ _)
  have M14 := chain M13 hbx (Below.refl _ _)
  clear hbx P13 M13
  go_wp2_with fail
  refine (HR.out _ (HT.out.keep P14.out)).mono ?_
  rintro e w15 ⟨rfl, hbx⟩
  have P15 := chain P14 hbx (Below.refl _ _)
  have M15 := chain M14 hbx (Below.refl _ _)
  clear hbx P14 M14
  go_wp2
  go_ret
  exact ⟨rfl, P15.out⟩
end Go.Proofs.YtjkfgchjdhgbgaaDoor.Va
