/- The contracts of disk.byteMayBe and disk.nameMayBe: which names may be. -/
import Derived.Test.YtbjemekkpmbhhaaProg
import Derived.WalkKit
import Derived.Lib.Hide
import Derived.Deep.OwnRows
namespace Go.Proofs.Ytbjemekkpmbhhaa.Nm
open Go Go.RowKit
def okByte (c : Nat) : Bool := (decide (97 ≤ c) && decide (c ≤ 122)) || (decide (48 ≤ c) && decide (c ≤ 57)) || decide (c = 46) || decide (c = 45)
def nameOk (s : ByteArray) : Bool := decide (1 ≤ s.size) && decide (s.size ≤ 64) && s.data.toList.all fun b => okByte b.toNat
theorem byte_any (c : Nat) (w : World) (hc : c < 256) :
    Calls Try.prog 69 #[.int .u8 c] w fun e w' => e = .returned (.bool (okByte c)) ∧ w' = w := by
  by_cases h1 : 97 ≤ c
  · by_cases h2 : c ≤ 122
    · have hv : okByte c = true := by simp [okByte, h1, h2]
      rw [hv]
      go_enter Try.func69, Try.ntmps69
      go_wp2
      go_ret
      exact ⟨rfl, rfl⟩
    · have hv : okByte c = false := by simp [okByte]; omega
      rw [hv]
      have h57 : ¬ c ≤ 57 := by omega
      have h46 : ((c : Int) == 46) = false := by simp; omega
      have h45 : ((c : Int) == 45) = false := by simp; omega
      go_enter Try.func69, Try.ntmps69
      go_wp2
      go_ret
      exact ⟨congrArg (fun b => Ending.returned (Value.bool b)) (by simp; omega), rfl⟩
  · by_cases h3 : 48 ≤ c
    · by_cases h4 : c ≤ 57
      · have hv : okByte c = true := by simp [okByte, h3, h4]
        rw [hv]
        go_enter Try.func69, Try.ntmps69
        go_wp2
        go_ret
        exact ⟨rfl, rfl⟩
      · have hv : okByte c = false := by simp [okByte]; omega
        rw [hv]
        have h46 : ((c : Int) == 46) = false := by simp; omega
        have h45 : ((c : Int) == 45) = false := by simp; omega
        go_enter Try.func69, Try.ntmps69
        go_wp2
        go_ret
        exact ⟨congrArg (fun b => Ending.returned (Value.bool b)) (by simp; omega), rfl⟩
    · by_cases h5 : c = 46
      · subst h5
        go_enter Try.func69, Try.ntmps69
        go_wp2
        go_ret
        exact ⟨rfl, rfl⟩
      · by_cases h6 : c = 45
        · subst h6
          go_enter Try.func69, Try.ntmps69
          go_wp2
          go_ret
          exact ⟨rfl, rfl⟩
        · have hv : okByte c = false := by simp [okByte]; omega
          rw [hv]
          have h46 : ((c : Int) == 46) = false := by simp; omega
          have h45 : ((c : Int) == 45) = false := by simp; omega
          go_enter Try.func69, Try.ntmps69
          go_wp2
          go_ret
          exact ⟨rfl, rfl⟩
theorem name_any (s : ByteArray) (w : World) (hs : s.size ≤ maxLen) :
    Calls Try.prog 57 #[.string s] w fun e w' => e = .returned (.bool (nameOk s)) ∧ w' = w := by
  unfold maxLen at hs
  by_cases h1 : s.size < 1
  · have hv : nameOk s = false := by simp [nameOk]; omega
    rw [hv]
    go_enter Try.func57, Try.ntmps57
    go_wp2
    go_ret
    exact ⟨rfl, rfl⟩
  by_cases h2 : 64 < s.size
  · have hv : nameOk s = false := by simp [nameOk]; omega
    rw [hv]
    go_enter Try.func57, Try.ntmps57
    go_wp2
    go_ret
    exact ⟨rfl, rfl⟩
  go_enter Try.func57, Try.ntmps57
  go_wp2
  go_loop [3, 14, 15, 16, 17, 18, 19, 20, 21, 22] (fun _ i _ _ _ _ _ _ _ _ => ∃ k : Nat, k ≤ s.size ∧ i = .int .i64 k ∧ (s.data.toList.take k).all (fun b => okByte b.toNat) = true)
    (fun _ i _ _ _ _ _ _ _ _ => s.size - (intOf i).toNat)
  case atStart => exact ⟨0, by omega, rfl, rfl⟩
  case round =>
    obtain ⟨k, hk, rfl, hall⟩ := hrel
    have HA := Lib.hid hall; clear hall
    have hts : k < s.size → s.data.toList.all (fun b => okByte b.toNat) = true → (∀ h : k < s.size, okByte (s[k]'h).toNat = true) := by
      intro h ha h'
      have := List.all_eq_true.1 ha (s[k]'(h')) (by
        have : s[k]'(h') = s.data.toList[k]'(by simpa using h') := rfl
        rw [this]; exact List.getElem_mem _)
      exact this
    have HT := Lib.hid hts; clear hts
    have hsz1 : 1 ≤ s.size := by omega
    by_cases hlt : k < s.size
    · have hb : (s[k]'hlt).toNat < 256 := (s[k]'hlt).toNat_lt
      cases hw : okByte (s[k]'hlt).toNat with
      | true =>
        have HW := Lib.hid hw; clear hw
        go_wp2_with fail
        refine (byte_any _ _ hb).mono ?_
        rintro e w1 ⟨rfl, rfl⟩
        go_wp2_with (simp only [HW.out])
        go_round
        case rel =>
          refine ⟨k + 1, by omega, by go_num, ?_⟩
          have hts : s.data.toList.take (k + 1) = s.data.toList.take k ++ [s[k]'hlt] := by
            rw [List.take_succ_eq_append_getElem (by simpa using hlt)]; rfl
          rw [hts, List.all_append, HA.out]
          simp [HW.out]
        case measure => simp [intOf]; omega
      | false =>
        have HW := Lib.hid hw; clear hw
        go_wp2_with fail
        refine (byte_any _ _ hb).mono ?_
        rintro e w1 ⟨rfl, rfl⟩
        rw [HW.out]
        go_wp2
        go_ret
        refine ⟨?_, rfl⟩
        have hf : s.data.toList.all (fun b => okByte b.toNat) = false := by
          rcases hx : s.data.toList.all (fun b => okByte b.toNat) with _ | _
          · rfl
          · have := HT.out hlt hx hlt
            rw [HW.out] at this; cases this
        have hn : nameOk s = false := by simp only [nameOk, hf, Bool.and_false]
        rw [hn]; rfl
    · have : k = s.size := by omega
      subst this
      go_wp2
      go_ret
      refine ⟨?_, rfl⟩
      have hf : s.data.toList.all (fun b => okByte b.toNat) = true := by
        have := HA.out
        rwa [List.take_of_length_le (by simp)] at this
      have hn : nameOk s = true := by
        simp only [nameOk, hf, Bool.and_true, Bool.and_eq_true, decide_eq_true_eq]; omega
      rw [hn]; rfl
end Go.Proofs.Ytbjemekkpmbhhaa.Nm
