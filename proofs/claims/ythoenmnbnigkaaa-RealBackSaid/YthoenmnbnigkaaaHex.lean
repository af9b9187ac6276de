/- The contract of word.Hex: what it answers for every number and every count, and that it leaves all old memory alone. -/
import Derived.Test.YthoenmnbnigkaaaDigit
import Derived.Deep.OwnRows
import Derived.Deep.QuietTactic
import Derived.BigQuiet
namespace Go.Proofs.Ythoenmnbnigkaaa.WHex
open Go Go.RowKit Go.Proofs.Ythoenmnbnigkaaa.Wm
theorem undL : Try.prog.underlying 46 = some (.slice 21) := by kernel_rfl
theorem undE : Try.prog.underlying 21 = some (.int .i32) := by kernel_rfl
theorem undS : Try.prog.underlying 9 = some .string := by kernel_rfl
theorem infoE : (Try.prog.info? 21).map (fun i => (i.zero, i.size, i.bytes)) = some (some (.int .i32 0), 1, 4) := by kernel_rfl
theorem addr_add (b j : Nat) : Addr.add ⟨b, 0, none⟩ j = ⟨b, j, none⟩ := by cases j <;> simp [Addr.add]
theorem bad (v n : Int) (w : World) (h : n < 1 ∨ 16 < n) :
    Calls Try.prog 28 #[.int .u64 v, .int .i64 n] w fun e w' => e = .returned (.tuple #[.string ⟨#[]⟩, .int .i64 2]) ∧ w = w' := by
  by_cases h1 : n < 1
  · go_enter Try.func28, Try.ntmps28
    go_wp2
    go_ret2
    exact ⟨rfl, rfl⟩
  · have h2 : 16 < n := by omega
    go_enter Try.func28, Try.ntmps28
    go_wp2
    go_ret2
    exact ⟨rfl, rfl⟩
theorem long (v n : Int) (w : World) (h : 1 ≤ n) (h' : n ≤ 16) (hv : 0 ≤ v) (hl : ¬ v.toNat < 16 ^ n.toNat) :
    Calls Try.prog 28 #[.int .u64 v, .int .i64 n] w fun e w' => e = .returned (.tuple #[.string ⟨#[]⟩, .int .i64 5]) ∧ w = w' := by
  have h0 : ¬ n < 1 := by omega
  have h2 : ¬ 16 < n := by omega
  have hr := room_no4 v.toNat n.toNat (4 * n).toNat (by omega) hl
  rw [Int.toNat_of_nonneg hv] at hr
  clear hl
  go_enter Try.func28, Try.ntmps28
  go_wp2
  go_ret2
  exact ⟨rfl, rfl⟩
theorem ok_var (v : Int) (V m : Nat) (w : World) (h : 1 ≤ m) (h' : m ≤ 16) (hl : V < 16 ^ m) (hV : Hid (v = (V : Int))) :
    Calls Try.prog 28 #[.int .u64 v, .int .i64 (m : Int)] w fun e w' => e = .returned (.tuple #[.string ⟨(hexN V m).toArray⟩, .int .i64 0]) ∧ Below w.heap.size w w' := by
  have hmk := fun W => run_make_row' (P := Try.prog) 46 21 (.int .i32 0) 4 undL infoE rfl .i64 .i64 m (by omega) (by omega) W
  have hl2 : (v / 2 ^ (4 * m) != 0) = false := by
    rw [hV.out, room_yes4 V m _ rfl hl]; rfl
  go_enter Try.func28, Try.ntmps28
  go_wp2
  clear hmk hl2
  go_loopw [7, 23] (fun _ j wr => ∃ k : Nat, k ≤ m ∧ j = .int .i64 k ∧ wr.rowIs w.heap.size 21 m (fun j => if m - k ≤ j then .int .i32 (digI (V / 16 ^ (m - 1 - j) % 16)) else .int .i32 0) ∧ Below w.heap.size w wr) (fun _ j _ => m - (intOf j).toNat)
  case atStart => exact ⟨0, by omega, rfl, (World.rowIs_made w (.int .i32 0) m 21).congr (fun i hi => by rw [if_neg (by omega)]), (Below.refl _ _).alloc (Nat.le_refl _) _⟩
  case round =>
    obtain ⟨k, hk, rfl, hrow, hb⟩ := hrel
    by_cases hlt : k < m
    · have hc := hrow.cell (i := m - 1 - k) (by omega)
      have hf := hrow.frozen (m - 1 - k)
      go_wp2_with fail
      refine (WDigit.digit_var _ (V / 16 ^ k % 16) _ (Nat.mod_lt _ (by omega)) (by rw [hV.out]; exact nibble V k (Nat.lt_of_lt_of_le hl (pow16_64 m h')))).mono ?_
      rintro e w1 ⟨rfl, rfl⟩
      go_wp2
      go_roundw
      case rel =>
        refine ⟨k + 1, by omega, by go_num, (hrow.set (m - 1 - k) _).congr (fun i hi => ?_), hb.setCell (Nat.le_refl _) _⟩
        by_cases hik : i = m - 1 - k
        · have e2 : m - 1 - i = k := by omega
          rw [if_pos hik, if_pos (by omega), e2]
        · rw [if_neg hik]
          by_cases hik : m - k ≤ i
          · rw [if_pos hik, if_pos (by omega)]
          · rw [if_neg hik, if_neg (by omega)]
      case measure => simp [intOf]; omega
    · have hcv := run_convert_runes (P := Try.prog) wr 46 9 21 ⟨w.heap.size, 0, none⟩ m m ((hexN V m).map (fun b => (b.toNat : Int))) (by simp [hexN_length]) undL undE undS (fun j hj => by
        have hj' : j < m := by simpa [hexN_length] using hj
        have hg := hexN_get m V (m - 1 - j) (by omega)
        have e1 : m - 1 - (m - 1 - j) = j := by omega
        rw [e1] at hg
        rw [addr_add, hrow.cell hj', if_pos (by omega), ← dig_digI _ (Nat.mod_lt _ (by omega))]
        simp [List.getD, hg])
      rw [List.take_of_length_le (by simp [hexN_length]), runesBytes_ascii _ (hexN_lt m V)] at hcv
      go_wp2
      go_ret2
      exact ⟨rfl, hb⟩
theorem ok (v n : Int) (w : World) (h : 1 ≤ n) (h' : n ≤ 16) (hv : 0 ≤ v) (hl : v.toNat < 16 ^ n.toNat) :
    Calls Try.prog 28 #[.int .u64 v, .int .i64 n] w fun e w' => e = .returned (.tuple #[.string ⟨(hexN v.toNat n.toNat).toArray⟩, .int .i64 0]) ∧ Below w.heap.size w w' := by
  obtain ⟨V, rfl⟩ := Int.eq_ofNat_of_zero_le hv
  obtain ⟨m, rfl⟩ := Int.eq_ofNat_of_zero_le (show 0 ≤ n by omega)
  exact ok_var _ V m w (by omega) (by omega) hl rfl
/-- What Hex answers: the text and the error. -/
def hexS (v n : Int) : List UInt8 × Int := if n < 1 ∨ 16 < n then ([], 2) else if v.toNat < 16 ^ n.toNat then (hexN v.toNat n.toNat, 0) else ([], 5)
theorem any (v n : Int) (w : World) (hv : 0 ≤ v) :
    Calls Try.prog 28 #[.int .u64 v, .int .i64 n] w fun e w' => e = .returned (.tuple #[.string ⟨(hexS v n).1.toArray⟩, .int .i64 (hexS v n).2]) ∧ Below w.heap.size w w' := by
  unfold hexS
  by_cases h : n < 1 ∨ 16 < n
  · rw [if_pos h]
    exact (bad v n w h).mono fun _ _ hh => ⟨hh.1, hh.2 ▸ Below.refl _ _⟩
  · rw [if_neg h]
    by_cases hl : v.toNat < 16 ^ n.toNat
    · rw [if_pos hl]
      exact ok v n w (by omega) (by omega) hv hl
    · rw [if_neg hl]
      exact (long v n w (by omega) (by omega) hv hl).mono fun _ _ hh => ⟨hh.1, hh.2 ▸ Below.refl _ _⟩
end Go.Proofs.Ythoenmnbnigkaaa.WHex
