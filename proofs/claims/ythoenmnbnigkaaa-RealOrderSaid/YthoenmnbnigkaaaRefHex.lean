/- The contracts of the document's own Hex and Unhex (package fascicleref01): they answer as word.Hex and word.Unhex do. -/
import Derived.Test.YthoenmnbnigkaaaRefRoom
import Derived.Test.YthoenmnbnigkaaaHex
import Derived.Test.YthoenmnbnigkaaaUnhex
namespace Go.Proofs.Ythoenmnbnigkaaa.WRefHex
open Go Go.RowKit Go.Proofs.Ythoenmnbnigkaaa.Wm
theorem hex_bad (v n : Int) (w : World) (h : n < 1 ∨ 16 < n) :
    Calls Try.prog 29 #[.int .u64 v, .int .i64 n] w fun e w' => e = .returned (.tuple #[.string ⟨#[]⟩, .int .i64 2]) ∧ w = w' := by
  by_cases h1 : n < 1
  · go_enter Try.func29, Try.ntmps29
    go_wp2
    go_ret2
    exact ⟨rfl, rfl⟩
  · have h2 : 16 < n := by omega
    go_enter Try.func29, Try.ntmps29
    go_wp2
    go_ret2
    exact ⟨rfl, rfl⟩
theorem hex_long (v : Int) (V m : Nat) (w : World) (h1 : 1 ≤ m) (h2 : m ≤ 16) (hV : V < 18446744073709551616) (hv : v = (V : Int)) (hl : ¬ V < 16 ^ m) :
    Calls Try.prog 29 #[.int .u64 v, .int .i64 (m : Int)] w fun e w' => e = .returned (.tuple #[.string ⟨#[]⟩, .int .i64 5]) ∧ w = w' := by
  have HV := Lib.hid hV
  have Hv := Lib.hid hv
  have HL := Lib.hid hl
  clear hV hv hl
  go_enter Try.func29, Try.ntmps29
  go_wp2_with fail
  refine (WRefRoom.room4 v V m w h2 HV.out Hv.out false (by simpa using HL.out)).mono ?_
  rintro e w1 ⟨rfl, rfl⟩
  go_wp2
  go_ret2
  exact ⟨rfl, rfl⟩
def digits : ByteArray := ⟨#[48, 49, 50, 51, 52, 53, 54, 55, 56, 57, 97, 98, 99, 100, 101, 102]⟩
theorem digits_at (d : Nat) (hd : d < 16) : digits.extract d (d + 1) = ⟨#[dig d]⟩ := by
  have h : ∀ d : Fin 16, (digits.extract d.val (d.val + 1)).data = #[dig d.val] := by decide
  have h1 := h ⟨d, hd⟩
  apply ByteArray.ext
  exact h1
theorem slice_digit (d : Nat) (hd : d < 16) (w : World) :
    (Instr.slice 9 (.string ⟨#[48, 49, 50, 51, 52, 53, 54, 55, 56, 57, 97, 98, 99, 100, 101, 102]⟩) (some (.int .u64 (d : Int))) (some (.int .u64 ((d : Int) + 1))) none).run Try.prog w = .ok (.string ⟨#[dig d]⟩) w := by
  have h := run_slice_string (P := Try.prog) (w := w) 9 digits .u64 .u64 (d : Int) ((d : Int) + 1) WHex.undS (by omega) (by omega) (by show (d : Int) + 1 ≤ 16; omega)
  have e1 : ((d : Int)).toNat = d := by omega
  have e2 : ((d : Int) + 1).toNat = d + 1 := by omega
  rw [e1, e2, digits_at d hd] at h
  exact h
theorem hex_ok (v : Int) (V m : Nat) (w : World) (h1 : 1 ≤ m) (h2 : m ≤ 16) (hV : V < 18446744073709551616) (hv : v = (V : Int)) (hl : V < 16 ^ m) :
    Calls Try.prog 29 #[.int .u64 v, .int .i64 (m : Int)] w fun e w' => e = .returned (.tuple #[.string ⟨(hexN V m).toArray⟩, .int .i64 0]) ∧ w = w' := by
  have HV := Lib.hid hV
  have Hv := Lib.hid hv
  have HL := Lib.hid hl
  clear hV hv hl
  go_enter Try.func29, Try.ntmps29
  go_wp2_with fail
  refine (WRefRoom.room4 v V m w h2 HV.out Hv.out true (by simpa using HL.out)).mono ?_
  rintro e w1 ⟨rfl, rfl⟩
  go_wp2
  go_loop [0, 6, 7, 8] (fun x b j _ => ∃ (k : Nat) (B : ByteArray), k ≤ m ∧ j = .int .i64 k ∧ x = .int .u64 ((V / 16 ^ k : Nat) : Int) ∧ b = .string B ∧ B.size ≤ 16 ∧ Hid (B = ⟨(hexN V k).toArray⟩)) (fun _ _ j _ => m - (intOf j).toNat)
  case atStart => exact ⟨0, ⟨#[]⟩, by omega, rfl, by rw [Hv.out]; simp, rfl, by decide, rfl⟩
  case round =>
    obtain ⟨k, B, hk, rfl, rfl, rfl, hB, HB⟩ := hrel
    have hq : V / 16 ^ k < 18446744073709551616 := Nat.lt_of_le_of_lt (Nat.div_le_self _ _) HV.out
    by_cases hlt : k < m
    · obtain ⟨q, hqe⟩ : ∃ q, q = V / 16 ^ k := ⟨_, rfl⟩
      rw [← hqe] at hq ⊢
      have HQ := Lib.hid hqe
      clear hqe
      obtain ⟨d, hd, hde⟩ : ∃ d : Nat, d < 16 ∧ (q : Int) % 16 = (d : Int) := ⟨q % 16, Nat.mod_lt _ (by omega), by omega⟩
      have hd' : (d : Int) < 16 := by omega
      have hsl := slice_digit d hd
      go_wp2
      go_round
      case rel =>
        have hB2 : (⟨#[dig d]⟩ ++ B : ByteArray) = ⟨(hexN V (k + 1)).toArray⟩ := by
          have e : V / 16 ^ k % 16 = d := by rw [← HQ.out]; omega
          rw [hexN_cons, HB.out, e]
          apply ByteArray.ext
          simp [ByteArray.data_append]
        refine ⟨k + 1, _, by omega, by go_num, congrArg (Value.int .u64) (by rw [HQ.out, Nat.pow_succ, ← Nat.div_div_eq_div_mul]; omega), rfl, ?_, hB2⟩
        rw [hB2, ByteArray.size]
        simp [hexN_length]; omega
      case measure => simp [intOf]; omega
    · obtain rfl : k = m := by omega
      go_wp2
      go_ret2
      exact ⟨ret_si HB.out rfl, rfl⟩
/-- As word.Hex. -/
theorem hex_any (v n : Int) (w : World) (hv : 0 ≤ v) (hv' : v < 18446744073709551616) :
    Calls Try.prog 29 #[.int .u64 v, .int .i64 n] w fun e w' => e = .returned (.tuple #[.string ⟨(WHex.hexS v n).1.toArray⟩, .int .i64 (WHex.hexS v n).2]) ∧ w = w' := by
  unfold WHex.hexS
  by_cases h : n < 1 ∨ 16 < n
  · rw [if_pos h]
    exact hex_bad v n w h
  · rw [if_neg h]
    obtain ⟨m, rfl⟩ := Int.eq_ofNat_of_zero_le (show 0 ≤ n by omega)
    by_cases hl : v.toNat < 16 ^ (m : Int).toNat
    · rw [if_pos hl]
      exact hex_ok v v.toNat m w (by omega) (by omega) (by omega) (by omega) hl
    · rw [if_neg hl]
      exact hex_long v v.toNat m w (by omega) (by omega) (by omega) (by omega) hl
theorem unhex_bad (s : ByteArray) (w : World) (h : s.size < 1 ∨ 16 < s.size) (hs : s.size ≤ maxLen) :
    Calls Try.prog 22 #[.string s] w fun e w' => e = .returned (.tuple #[.int .u64 0, .int .i64 2]) ∧ w = w' := by
  unfold maxLen at hs
  by_cases h1 : s.size < 1
  · go_enter Try.func22, Try.ntmps22
    go_wp2
    go_ret2
    exact ⟨rfl, rfl⟩
  · have h2 : 16 < s.size := by omega
    go_enter Try.func22, Try.ntmps22
    go_wp2
    go_ret2
    exact ⟨rfl, rfl⟩
theorem unhex_ok (s : ByteArray) (w : World) (h : 1 ≤ s.size) (h' : s.size ≤ 16) :
    Calls Try.prog 22 #[.string s] w fun e w' => e = .returned (.tuple #[.int .u64 (WUnhex.ans (unhexL 0 s.data.toList)).1, .int .i64 (WUnhex.ans (unhexL 0 s.data.toList)).2]) ∧ w = w' := by
  have h1 : ¬ s.size < 1 := by omega
  have h2 : ¬ 16 < s.size := by omega
  go_enter Try.func22, Try.ntmps22
  go_wp2
  go_loop [4, 5, 6, 7] (fun v j _ _ => ∃ k V : Nat, k ≤ s.size ∧ j = .int .i64 k ∧ v = .int .u64 (V : Int) ∧ Hid (unhexL 0 (s.data.toList.take k) = some V)) (fun _ j _ _ => s.size - (intOf j).toNat)
  case atStart => exact ⟨0, 0, by omega, rfl, rfl, rfl⟩
  case round =>
    obtain ⟨k, V, hk, rfl, rfl, HVV⟩ := hrel
    have hV := HVV.out
    by_cases hlt : k < s.size
    · have hts : s.data.toList.take (k + 1) = s.data.toList.take k ++ [s[k]] := by
        rw [List.take_succ_eq_append_getElem (by simpa using hlt)]; rfl
      have hall : s.data.toList = s.data.toList.take (k + 1) ++ s.data.toList.drop (k + 1) := (List.take_append_drop _ _).symm
      have hstep : unhexL 0 (s.data.toList.take (k + 1)) = unhexL V [s[k]] := by rw [hts, unhexL_append _ _ _ _ hV]
      have hbad : worth s[k] = none → unhexL 0 s.data.toList = none := fun hw => by
        rw [hall]; exact unhexL_none_append _ _ _ (by rw [hstep]; simp [unhexL, hw])
      have hVlt : V < 1152921504606846976 := by
        have h1 := unhexL_lt _ _ _ 0 hV (by omega)
        have h2 : (s.data.toList.take k).length = k := by simp; omega
        rw [h2, Nat.zero_add] at h1
        exact Nat.lt_of_lt_of_le h1 (WUnhex.pow16_le k (by omega))
      have HV := Lib.hid hstep; clear hstep hts hall hV
      have HB := Lib.hid hbad; clear hbad
      cases hw : worth s[k] with
      | none =>
        have HW := Lib.hid hw; clear hw
        go_wp2_with fail
        refine (WRefRoom.digit_none _ _ HW.out).mono ?_
        rintro e w1 ⟨rfl, rfl⟩
        go_wp2
        go_ret2
        have e := HB.out HW.out
        exact ⟨ret_ii (by rw [e]; rfl) (by rw [e]; rfl), rfl⟩
      | some d =>
        have hd := (dig_worth _ _ hw).2
        have HW := Lib.hid hw; clear hw
        go_wp2_with fail
        refine (WRefRoom.digit_some _ d _ HW.out).mono ?_
        rintro e w1 ⟨rfl, rfl⟩
        go_wp2
        go_round
        case rel => exact ⟨k + 1, 16 * V + d, by omega, by go_num, congrArg (Value.int .u64) (by omega), by show unhexL 0 (s.data.toList.take (k + 1)) = some (16 * V + d); rw [HV.out]; simp [unhexL, HW.out]⟩
        case measure => simp [intOf]; omega
    · have hV' : unhexL 0 s.data.toList = some V := by rw [List.take_of_length_le (by simp; omega)] at hV; exact hV
      have HV := Lib.hid hV'; clear hV' hV
      go_wp2
      go_ret2
      exact ⟨ret_ii (by rw [HV.out]; rfl) (by rw [HV.out]; rfl), rfl⟩
/-- As word.Unhex. -/
theorem unhex_any (s : ByteArray) (w : World) (hs : s.size ≤ maxLen) :
    Calls Try.prog 22 #[.string s] w fun e w' => e = .returned (.tuple #[.int .u64 (WUnhex.unhexS s.data.toList).1, .int .i64 (WUnhex.unhexS s.data.toList).2]) ∧ w = w' := by
  have hsz : s.data.toList.length = s.size := by simp
  unfold WUnhex.unhexS
  rw [hsz]
  by_cases h : s.size < 1 ∨ 16 < s.size
  · rw [if_pos h]
    exact unhex_bad s w h hs
  · rw [if_neg h]
    exact unhex_ok s w (by omega) (by omega)
end Go.Proofs.Ythoenmnbnigkaaa.WRefHex
