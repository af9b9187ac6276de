/- The contract of word.Unhex: what it answers for every text, and that it leaves all old memory alone. -/
import Derived.Test.YthoenmnbnigkaaaDigit
import Derived.Laws.RangeAny
namespace Go.Proofs.Ythoenmnbnigkaaa.WUnhex
open Go Go.RowKit Go.Proofs.Ythoenmnbnigkaaa.Wm
theorem bad (s : ByteArray) (w : World) (h : s.size < 1 ∨ 16 < s.size) (hs : s.size ≤ maxLen) :
    Calls Try.prog 21 #[.string s] w fun e w' => e = .returned (.tuple #[.int .u64 0, .int .i64 2]) ∧ w = w' := by
  unfold maxLen at hs
  by_cases h1 : s.size < 1
  · go_enter Try.func21, Try.ntmps21
    go_wp2
    go_ret2
    exact ⟨rfl, rfl⟩
  · have h2 : 16 < s.size := by omega
    go_enter Try.func21, Try.ntmps21
    go_wp2
    go_ret2
    exact ⟨rfl, rfl⟩
/-- The number that is answered, and the error. -/
def ans : Option Nat → Int × Int
  | some v => (v, 0)
  | none => (0, 2)
theorem pow16_le (k : Nat) (h : k ≤ 15) : 16 ^ k ≤ 1152921504606846976 := by
  have := Nat.pow_le_pow_right (n := 16) (by omega) h
  simpa using this
theorem ok (s : ByteArray) (w : World) (h : 1 ≤ s.size) (h' : s.size ≤ 16) :
    Calls Try.prog 21 #[.string s] w fun e w' => e = .returned (.tuple #[.int .u64 (ans (unhexL 0 s.data.toList)).1, .int .i64 (ans (unhexL 0 s.data.toList)).2]) ∧ Below w.heap.size w w' := by
  have h1 : ¬ s.size < 1 := by omega
  have h2 : ¬ 16 < s.size := by omega
  go_enter Try.func21, Try.ntmps21
  go_wp2
  go_loopw [4, 6, 7, 8] (fun v _ _ _ wr => ∃ k V : Nat, k ≤ s.size ∧ wr = w.iter s k ∧ v = .int .u64 (V : Int) ∧ unhexL 0 (s.data.toList.take k) = some V) (fun _ _ _ _ wr => s.size - wr.iterPos w.heap.size)
  case atStart => exact ⟨0, 0, by omega, rfl, rfl, rfl⟩
  case round =>
    obtain ⟨k, V, hk, rfl, rfl, hV⟩ := hrel
    by_cases hlt : k < s.size
    · have hts : s.data.toList.take (k + 1) = s.data.toList.take k ++ [s[k]] := by
        rw [List.take_succ_eq_append_getElem (by simpa using hlt)]; rfl
      have hall : s.data.toList = s.data.toList.take (k + 1) ++ s.data.toList.drop (k + 1) := (List.take_append_drop _ _).symm
      have hstep : unhexL 0 (s.data.toList.take (k + 1)) = unhexL V [s[k]] := by rw [hts, unhexL_append _ _ _ _ hV]
      have hbad : worth s[k] = none → unhexL 0 s.data.toList = none := fun hw => by
        rw [hall]; exact unhexL_none_append _ _ _ (by rw [hstep]; simp [unhexL, hw])
      have hVlt : V < 1152921504606846976 := by
        have h1 := unhexL_lt _ _ _ 0 hV (by omega)
        have h2 : (s.data.toList.take k).length = k := by simp; omega
        rw [h2, Nat.zero_add] at h1
        exact Nat.lt_of_lt_of_le h1 (pow16_le k (by omega))
      have HV := Lib.hid hstep; clear hstep hts hall hV
      have HB := Lib.hid hbad; clear hbad
      by_cases ha : (s[k]'hlt).toNat < 128
      · have hnx : ∀ ty, (Instr.next (.pointer (some ⟨w.heap.size, 0, none⟩)) true ty).run Try.prog (w.iter s k) = _ := fun ty => run_next_ascii w s k ty hlt ha
        cases hw : worth s[k] with
        | none =>
          have HW := Lib.hid hw; clear hw
          go_wp2_with fail
          refine (WDigit.worth_none _ _ HW.out).mono ?_
          rintro e w1 ⟨rfl, rfl⟩
          go_wp2
          go_ret2
          have e := HB.out HW.out
          exact ⟨ret_ii (by rw [e]; rfl) (by rw [e]; rfl), (Below.refl _ _).alloc (Nat.le_refl _) _⟩
        | some d =>
          have hd := (dig_worth _ _ hw).2
          have HW := Lib.hid hw; clear hw
          go_wp2_with fail
          refine (WDigit.worth_some _ d _ HW.out).mono ?_
          rintro e w1 ⟨rfl, rfl⟩
          go_wp2
          go_roundw
          case rel => exact ⟨k + 1, 16 * V + d, by omega, rfl, congrArg (Value.int .u64) (unhex_step V d hVlt hd), by rw [HV.out]; simp [unhexL, HW.out]⟩
          case measure => simp; omega
      · have hnx : ∀ ty, (Instr.next (.pointer (some ⟨w.heap.size, 0, none⟩)) true ty).run Try.prog (w.iter s k) = _ := fun ty => run_next_any w s k ty hlt
        have hr := (decode_high s k hlt (by omega)).1
        have hw : worth s[k] = none := by
          unfold worth; rw [if_neg (by omega), if_neg (by omega)]
        have HW := Lib.hid hw; clear hw
        go_wp2_with fail
        refine (WDigit.worth_no _ _ (by omega) (by omega)).mono ?_
        rintro e w1 ⟨rfl, rfl⟩
        go_wp2
        go_ret2
        have e := HB.out HW.out
        exact ⟨ret_ii (by rw [e]; rfl) (by rw [e]; rfl), (Below.refl _ _).alloc (Nat.le_refl _) _⟩
    · have hnx : ∀ ty, (Instr.next (.pointer (some ⟨w.heap.size, 0, none⟩)) true ty).run Try.prog (w.iter s k) = _ := fun ty => run_next_end w s k ty hlt
      have hV' : unhexL 0 s.data.toList = some V := by rw [List.take_of_length_le (by simp; omega)] at hV; exact hV
      have HV := Lib.hid hV'; clear hV' hV
      go_wp2
      go_ret2
      exact ⟨ret_ii (by rw [HV.out]; rfl) (by rw [HV.out]; rfl), (Below.refl _ _).alloc (Nat.le_refl _) _⟩
/-- What Unhex answers: the number and the error. -/
def unhexS (l : List UInt8) : Int × Int := if l.length < 1 ∨ 16 < l.length then (0, 2) else ans (unhexL 0 l)
theorem any (s : ByteArray) (w : World) (hs : s.size ≤ maxLen) :
    Calls Try.prog 21 #[.string s] w fun e w' => e = .returned (.tuple #[.int .u64 (unhexS s.data.toList).1, .int .i64 (unhexS s.data.toList).2]) ∧ Below w.heap.size w w' := by
  have hsz : s.data.toList.length = s.size := by simp
  unfold unhexS
  rw [hsz]
  by_cases h : s.size < 1 ∨ 16 < s.size
  · rw [if_pos h]
    exact (bad s w h hs).mono fun _ _ hh => ⟨hh.1, hh.2 ▸ Below.refl _ _⟩
  · rw [if_neg h]
    exact ok s w (by omega) (by omega)
end Go.Proofs.Ythoenmnbnigkaaa.WUnhex
