/- The contract of word.Put: what it answers, and that it leaves all old memory alone, for every number and every count. -/
import Derived.Test.YtbjemekkpmbhhaaProg
import Derived.Test.YtbjemekkpmbhhaaWm
import Derived.WalkKit
import Derived.Lib.Hide
import Derived.Deep.OwnRows
namespace Go.Proofs.Ytbjemekkpmbhhaa.WPut
open Go Go.RowKit Go.Proofs.Ytbjemekkpmbhhaa.Wm
theorem undL : Try.prog.underlying 66 = some (.slice 5) := by kernel_rfl
theorem undE : Try.prog.underlying 5 = some (.int .u8) := by kernel_rfl
theorem undS : Try.prog.underlying 9 = some .string := by kernel_rfl
theorem infoE : (Try.prog.info? 5).map (fun i => (i.zero, i.size, i.bytes)) = some (some (.int .u8 0), 1, 1) := by kernel_rfl
def byteAt (v : Int) (j : Nat) : Int := v / 2 ^ (8 * j) % 256
theorem addr_add (b j : Nat) : Addr.add ⟨b, 0, none⟩ j = ⟨b, j, none⟩ := by cases j <;> simp [Addr.add]
/-- 'string(b)' of a whole own row of bytes. -/
theorem run_string_row {P : Program} (w : World) (src dst e : TypeId) (b n cap : Nat) (t : TypeId) (l : List UInt8) (f : Nat → Value)
    (hs : P.underlying src = some (.slice e)) (he : P.underlying e = some (.int .u8)) (hd : P.underlying dst = some .string)
    (hn : l.length = n) (h : w.rowIs b t n f) (hf : ∀ j (hj : j < l.length), f j = .int .u8 (l[j].toNat : Int)) :
    (convert src dst (.slice (some ⟨b, 0, none⟩) n cap)).run P w = .ok (.string ⟨l.toArray⟩) w := by
  subst hn
  refine run_convert_bytes_back w src dst e ⟨b, 0, none⟩ cap l hs he hd (fun j hj => ?_)
  have := h.cell hj
  rw [hf j hj] at this
  rw [addr_add]; exact this
theorem bad (v n : Int) (w : World) (h : n < 1 ∨ 8 < n) :
    Calls Try.prog 64 #[.int .u64 v, .int .i64 n] w fun e w' => e = .returned (.tuple #[.string ⟨#[]⟩, .int .i64 2]) ∧ w = w' := by
  by_cases h1 : n < 1
  · go_enter Try.func64, Try.ntmps64
    go_wp2
    go_ret2
    exact ⟨rfl, rfl⟩
  · have h2 : 8 < n := by omega
    go_enter Try.func64, Try.ntmps64
    go_wp2
    go_ret2
    exact ⟨rfl, rfl⟩
theorem long (v n : Int) (w : World) (h : 1 ≤ n) (h' : n ≤ 8) (hv : 0 ≤ v) (hl : ¬ v.toNat < 256 ^ n.toNat) :
    Calls Try.prog 64 #[.int .u64 v, .int .i64 n] w fun e w' => e = .returned (.tuple #[.string ⟨#[]⟩, .int .i64 5]) ∧ w = w' := by
  have h0 : ¬ n < 1 := by omega
  have h2 : ¬ 8 < n := by omega
  have hr := room_no v.toNat n.toNat (8 * n).toNat (by omega) hl
  rw [Int.toNat_of_nonneg hv] at hr
  clear hl
  go_enter Try.func64, Try.ntmps64
  go_wp2
  go_ret2
  exact ⟨rfl, rfl⟩
theorem ok_var (v : Int) (V m : Nat) (w : World) (h : 1 ≤ m) (h' : m ≤ 8) (hl : V < 256 ^ m) (hV : Hid (v = (V : Int))) :
    Calls Try.prog 64 #[.int .u64 v, .int .i64 (m : Int)] w fun e w' => e = .returned (.tuple #[.string ⟨(putN V m).toArray⟩, .int .i64 0]) ∧ Below w.heap.size w w' := by
  have hmk := fun W => run_make_row' (P := Try.prog) 66 5 (.int .u8 0) 1 undL infoE rfl .i64 .i64 m (by omega) (by omega) W
  have hl2 : (v / 2 ^ (8 * m) != 0) = false := by
    rw [hV.out, room_yes V m _ rfl hl]; rfl
  clear hl
  go_enter Try.func64, Try.ntmps64
  go_wp2
  clear hmk hl2
  go_loopw [7, 23] (fun _ j wr => ∃ k : Nat, k ≤ m ∧ j = .int .i64 k ∧ wr.rowIs w.heap.size 5 m (fun j => if j < k then .int .u8 (byteAt v j) else .int .u8 0) ∧ Below w.heap.size w wr) (fun _ j _ => m - (intOf j).toNat)
  case atStart => exact ⟨0, by omega, rfl, by simpa using World.rowIs_made w (.int .u8 0) m 5, (Below.refl _ _).alloc (Nat.le_refl _) _⟩
  case round =>
    obtain ⟨k, hk, rfl, hrow, hb⟩ := hrel
    by_cases hlt : k < m
    · have hc := hrow.cell hlt
      have hf := hrow.frozen k
      go_wp2
      go_roundw
      case rel =>
        refine ⟨k + 1, by omega, by go_num, (hrow.set k _).congr (fun i hi => ?_), hb.setCell (Nat.le_refl _) _⟩
        by_cases hik : i = k
        · subst hik
          rw [if_pos rfl, if_pos (by omega)]; rfl
        · rw [if_neg hik]
          by_cases hik : i < k
          · rw [if_pos hik, if_pos (by omega)]
          · rw [if_neg hik, if_neg (by omega)]
      case measure => simp [intOf]; omega
    · have hcv := run_string_row (P := Try.prog) wr 66 9 5 w.heap.size m m 5 (putN V m) _ undL undE undS (putN_length m V) hrow (fun j hj => by
        rw [if_pos (by rw [putN_length] at hj; omega), byteAt, hV.out, putN_byte V m j hj])
      go_wp2
      go_ret2
      exact ⟨rfl, hb⟩
theorem ok (v n : Int) (w : World) (h : 1 ≤ n) (h' : n ≤ 8) (hv : 0 ≤ v) (hl : v.toNat < 256 ^ n.toNat) :
    Calls Try.prog 64 #[.int .u64 v, .int .i64 n] w fun e w' => e = .returned (.tuple #[.string ⟨(putN v.toNat n.toNat).toArray⟩, .int .i64 0]) ∧ Below w.heap.size w w' := by
  obtain ⟨V, rfl⟩ := Int.eq_ofNat_of_zero_le hv
  obtain ⟨m, rfl⟩ := Int.eq_ofNat_of_zero_le (show 0 ≤ n by omega)
  exact ok_var _ V m w (by omega) (by omega) hl rfl
/-- What Put answers: the text and the error. -/
def putS (v n : Int) : List UInt8 × Int := if n < 1 ∨ 8 < n then ([], 2) else if v.toNat < 256 ^ n.toNat then (putN v.toNat n.toNat, 0) else ([], 5)
theorem any (v n : Int) (w : World) (hv : 0 ≤ v) :
    Calls Try.prog 64 #[.int .u64 v, .int .i64 n] w fun e w' => e = .returned (.tuple #[.string ⟨(putS v n).1.toArray⟩, .int .i64 (putS v n).2]) ∧ Below w.heap.size w w' := by
  unfold putS
  by_cases h : n < 1 ∨ 8 < n
  · rw [if_pos h]
    exact (bad v n w h).mono fun _ _ hh => ⟨hh.1, hh.2 ▸ Below.refl _ _⟩
  · rw [if_neg h]
    by_cases hl : v.toNat < 256 ^ n.toNat
    · rw [if_pos hl]
      exact ok v n w (by omega) (by omega) hv hl
    · rw [if_neg hl]
      exact (long v n w (by omega) (by omega) hv hl).mono fun _ _ hh => ⟨hh.1, hh.2 ▸ Below.refl _ _⟩
end Go.Proofs.Ytbjemekkpmbhhaa.WPut
