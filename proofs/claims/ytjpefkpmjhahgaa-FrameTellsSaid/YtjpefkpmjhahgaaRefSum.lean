/- The contract of the document's own Sum (package fascicleref01): the CRC-32 of every text; the world is left alone. -/
import Derived.Test.YtjpefkpmjhahgaaProg
import Derived.Test.YtjpefkpmjhahgaaWc
import Derived.WalkKit
import Derived.Lib.Hide
namespace Go.Proofs.Ytjpefkpmjhahgaa.WRefSum
open Go Go.RowKit Go.Proofs.Ytjpefkpmjhahgaa.Wm Go.Proofs.Ytjpefkpmjhahgaa.Wc
theorem sum_any (s : ByteArray) (w : World) (hs : s.size ≤ maxLen) :
    Calls Try.prog 23 #[.string s] w fun e w' => e = .returned (.int .u32 (crc s.data.toList)) ∧ w = w' := by
  unfold maxLen at hs
  go_enter Try.func23, Try.ntmps23
  go_wp2
  go_loop [3, 4, 5, 6] (fun v j _ _ => ∃ k C : Nat, k ≤ s.size ∧ j = .int .i64 k ∧ v = .int .u32 (C : Int) ∧ C < 4294967296 ∧ Hid (C = remd 4294967295 (s.data.toList.take k))) (fun _ j _ _ => s.size - (intOf j).toNat)
  case atStart => exact ⟨0, 4294967295, by omega, rfl, rfl, by omega, by rw [List.take_zero, remd_nil]; exact rfl⟩
  case round =>
    obtain ⟨k, C, hk, rfl, rfl, hC, HR⟩ := hrel
    by_cases hlt : k < s.size
    · have hb8 := (s[k]).toNat_lt
      obtain ⟨D, hD⟩ : ∃ D, D = C ^^^ (s[k]).toNat := ⟨_, rfl⟩
      have hDlt : D < 4294967296 := by rw [hD]; exact Nat.xor_lt_two_pow (n := 32) hC (by omega)
      have hx1 : bits .xor .u32 (C : Int) ((s[k]).toNat : Int) = (D : Int) := by rw [hD]; exact u32_xor_nat _ _ hC (by omega)
      have HD := Lib.hid hD
      clear hD
      go_wp2
      go_loop [3, 5, 6] (fun v j _ => ∃ i E : Nat, i ≤ 8 ∧ j = .int .i64 i ∧ v = .int .u32 (E : Int) ∧ E < 4294967296 ∧ Hid (steps (8 - i) E = steps 8 D)) (fun _ j _ => 8 - (intOf j).toNat)
      case atStart => exact ⟨0, D, by omega, rfl, rfl, hDlt, rfl⟩
      case round =>
        obtain ⟨i, E, hi, rfl, rfl, hE, HE⟩ := hrel
        by_cases hi8 : i < 8
        · have hst := HE.out
          have e1 : 8 - i = (8 - (i + 1)) + 1 := by omega
          rw [e1, Wc.steps] at hst
          have HS := Lib.hid hst
          clear hst e1 HE
          by_cases hodd : E % 2 = 1
          · have hx2 : bits .xor .u32 ((E : Int) / 2) 3988292384 = (Wc.step E : Int) := by
              have e : (E : Int) / 2 = ((E / 2 : Nat) : Int) := by omega
              unfold Wc.step
              rw [if_pos hodd, e]
              exact u32_xor_nat (E / 2) poly (by omega) (by decide)
            have hb2 : (((E : Int) % 2) == 1) = true := by rw [beq_iff_eq]; omega
            have hSlt := step_lt E hE
            clear hodd
            go_wp2
            go_round
            case rel => exact ⟨i + 1, Wc.step E, by omega, by go_num, rfl, hSlt, HS⟩
            case measure => simp [intOf]; omega
          · have hb2 : (((E : Int) % 2) == 1) = false := by rw [beq_eq_false_iff_ne]; omega
            have hst2 : Wc.step E = E / 2 := by unfold Wc.step; rw [if_neg hodd]
            have hS2 := HS.out
            rw [hst2] at hS2
            have HS2 := Lib.hid hS2
            clear hodd hst2 hS2 HS
            go_wp2
            go_round
            case rel => exact ⟨i + 1, E / 2, by omega, by go_num, congrArg (Value.int .u32) (by omega), by omega, HS2⟩
            case measure => simp [intOf]; omega
        · have hi' : i = 8 := by omega
          have hst := HE.out
          rw [hi'] at hst
          have hfin : E = remd 4294967295 (s.data.toList.take (k + 1)) := by
            have hts : s.data.toList.take (k + 1) = s.data.toList.take k ++ [s[k]] := by
              rw [List.take_succ_eq_append_getElem (by simpa using hlt)]; rfl
            rw [hts, remd_snoc, ← HR.out]
            unfold bstep
            rw [← HD.out]
            exact hst
          have HF := Lib.hid hfin
          clear hfin hst hi'
          go_wp2
          go_round
          case rel => exact ⟨k + 1, E, by omega, by go_num, rfl, hE, HF⟩
          case measure => simp [intOf]; omega
    · have hfin : C = remd 4294967295 s.data.toList := by
        have h := HR.out
        rw [List.take_of_length_le (by simp; omega)] at h
        exact h
      have HF := Lib.hid hfin
      clear hfin
      go_wp2
      go_ret
      refine ⟨ret_i ?_, rfl⟩
      rw [HF.out]
      have e : IntKind.u32.max = ((4294967295 : Nat) : Int) := by decide
      rw [e, u32_xor_nat _ _ (by omega) (remd_lt _ _ (by omega))]
      rfl
end Go.Proofs.Ytjpefkpmjhahgaa.WRefSum
