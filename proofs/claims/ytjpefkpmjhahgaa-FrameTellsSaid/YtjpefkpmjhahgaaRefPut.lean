/- The contracts of the document's own Put and Get (package fascicleref01): they answer as word.Put and word.Get do. -/
import Derived.Test.YtjpefkpmjhahgaaRefRoom
import Derived.Test.YtjpefkpmjhahgaaPut
import Derived.Test.YtjpefkpmjhahgaaGet
namespace Go.Proofs.Ytjpefkpmjhahgaa.WRefPut
open Go Go.RowKit Go.Proofs.Ytjpefkpmjhahgaa.Wm
theorem put_bad (v n : Int) (w : World) (h : n < 1 ∨ 8 < n) :
    Calls Try.prog 31 #[.int .u64 v, .int .i64 n] w fun e w' => e = .returned (.tuple #[.string ⟨#[]⟩, .int .i64 2]) ∧ w = w' := by
  by_cases h1 : n < 1
  · go_enter Try.func31, Try.ntmps31
    go_wp2
    go_ret2
    exact ⟨rfl, rfl⟩
  · have h2 : 8 < n := by omega
    go_enter Try.func31, Try.ntmps31
    go_wp2
    go_ret2
    exact ⟨rfl, rfl⟩
theorem put_long (v : Int) (V m : Nat) (w : World) (h1 : 1 ≤ m) (h2 : m ≤ 8) (hV : V < 18446744073709551616) (hv : v = (V : Int)) (hl : ¬ V < 256 ^ m) :
    Calls Try.prog 31 #[.int .u64 v, .int .i64 (m : Int)] w fun e w' => e = .returned (.tuple #[.string ⟨#[]⟩, .int .i64 5]) ∧ w = w' := by
  have HV := Lib.hid hV
  have Hv := Lib.hid hv
  have HL := Lib.hid hl
  clear hV hv hl
  go_enter Try.func31, Try.ntmps31
  go_wp2_with fail
  refine (WRefRoom.room8 v V m w h2 HV.out Hv.out false (by simpa using HL.out)).mono ?_
  rintro e w1 ⟨rfl, rfl⟩
  go_wp2
  go_ret2
  exact ⟨rfl, rfl⟩
def cells (l : List UInt8) : List Value := l.map fun b => Value.int .u8 (b.toNat : Int)
theorem byte_of (V : Nat) : IntKind.u8.wrap (V : Int) = ((UInt8.ofNat (V % 256)).toNat : Int) := by
  rw [IntKind.wrap_u8]
  simp only [UInt8.toNat_ofNat']
  omega
theorem byte_mod (V : Nat) : (V : Int) % 256 = ((UInt8.ofNat (V % 256)).toNat : Int) := by
  simp only [UInt8.toNat_ofNat']
  omega
theorem put_ok (v : Int) (V m : Nat) (w : World) (h1 : 1 ≤ m) (h2 : m ≤ 8) (hV : V < 18446744073709551616) (hv : v = (V : Int)) (hl : V < 256 ^ m) :
    Calls Try.prog 31 #[.int .u64 v, .int .i64 (m : Int)] w fun e w' => e = .returned (.tuple #[.string ⟨(putN V m).toArray⟩, .int .i64 0]) ∧ Below w.heap.size w w' := by
  obtain ⟨i0, hi, hz0, hz1, hz2⟩ := info_parts WPut.infoE
  have HV := Lib.hid hV
  have Hv := Lib.hid hv
  have HL := Lib.hid hl
  clear hV hv hl
  go_enter Try.func31, Try.ntmps31
  go_wp2_with fail
  refine (WRefRoom.room8 v V m w h2 HV.out Hv.out true (by simpa using HL.out)).mono ?_
  rintro e w1 ⟨rfl, rfl⟩
  go_wp2
  go_loopw [0, 6, 7] (fun x b j wr => ∃ k : Nat, k ≤ m ∧ j = .int .i64 k ∧ x = .int .u64 ((V / 256 ^ k : Nat) : Int) ∧ wr.ownsRow w.heap.size 5 1 b k (cells (putN V k)) ∧ Below w.heap.size w wr) (fun _ _ j _ => m - (intOf j).toNat)
  case atStart => exact ⟨0, by omega, rfl, by rw [Hv.out]; simp, World.ownsRow_nil _ _ _ _, Below.refl _ _⟩
  case round =>
    obtain ⟨k, hk, rfl, rfl, hown, hb⟩ := hrel
    have hq : V / 256 ^ k < 18446744073709551616 := Nat.lt_of_le_of_lt (Nat.div_le_self _ _) HV.out
    by_cases hlt : k < m
    · obtain ⟨q, hqe⟩ : ∃ q, q = V / 256 ^ k := ⟨_, rfl⟩
      rw [← hqe] at hq ⊢
      have HQ := Lib.hid hqe
      clear hqe
      have hsz := hb.size
      go_wp2_with (at_builtin; refine wpList_append_own _ rfl _ _ 38 rfl w.heap.size 5 i0 (.int .u8 0) 1 1 WPut.undL hi hz0 hz1 hz2 rfl (by decide) _ k _ rfl (hown.alloc _) ⟨wr.heap.size, 0, none⟩ 1 1 [.int .u8 ((UInt8.ofNat (q % 256)).toNat : Int)] rfl rfl ?c1 ?c2 ?c3 ?c4 ?c5 ?_)
      case c1 =>
        intro j u hj
        cases j with
        | zero =>
          simp only [List.getElem?_cons_zero, Option.some.injEq] at hj
          rw [← hj, ← byte_mod, WPut.addr_add, cell_of_row _ _ _ _ _ _ (heap_alloc_new wr _)]
          rfl
        | succ j => simp at hj
      case c2 => intro u hu; simp only [List.mem_singleton] at hu; subst hu; rfl
      case c3 => unfold maxLen; omega
      case c4 => omega
      case c5 => simp; omega
      intro v' w1 hown1 hgrow _
      have hB1 : Below w.heap.size w w1 := (hb.alloc hsz _).grown hgrow (by simp; omega) (fun b hbk => (hown.lt b hbk).1)
      have hown2 : w1.ownsRow w.heap.size 5 1 v' (k + 1) (cells (putN V (k + 1))) := by
        rw [putN_snoc, cells, List.map_append, ← HQ.out]; rw [byte_mod] at hown1; exact hown1
      clear hown hown1 hgrow hb
      go_wp2
      go_roundw
      case rel => exact ⟨k + 1, by omega, by go_num, congrArg (Value.int .u64) (by rw [HQ.out, Nat.pow_succ, ← Nat.div_div_eq_div_mul]; omega), hown2, hB1⟩
      case measure => simp [intOf]; omega
    · obtain rfl : k = m := by omega
      obtain ⟨hlen, hrow | ⟨g, cap, cur, rfl, hg, hcur, hcap, hmax, hcs, htake⟩⟩ := hown
      · omega
      · have hcv := run_convert_bytes_back (P := Try.prog) wr 38 9 5 ⟨g, 0, none⟩ cap (putN V k) WPut.undL WPut.undE WPut.undS (fun j hj => by
          rw [WPut.addr_add, cell_of_row _ _ _ _ _ _ hcur]
          have e : (cells (putN V k))[j]? = some (.int .u8 (((putN V k)[j]).toNat : Int)) := by
            rw [cells, List.getElem?_map, List.getElem?_eq_getElem hj]; rfl
          rw [← htake, List.getElem?_take] at e
          split at e
          · simpa using e
          · cases e)
        rw [putN_length] at hcv
        clear hcur htake hcs hlen
        go_wp2
        go_ret2
        exact ⟨rfl, hb⟩
/-- As word.Put. -/
theorem put_any (v n : Int) (w : World) (hv : 0 ≤ v) (hv' : v < 18446744073709551616) :
    Calls Try.prog 31 #[.int .u64 v, .int .i64 n] w fun e w' => e = .returned (.tuple #[.string ⟨(WPut.putS v n).1.toArray⟩, .int .i64 (WPut.putS v n).2]) ∧ Below w.heap.size w w' := by
  unfold WPut.putS
  by_cases h : n < 1 ∨ 8 < n
  · rw [if_pos h]
    exact (put_bad v n w h).mono fun _ _ hh => ⟨hh.1, hh.2 ▸ Below.refl _ _⟩
  · rw [if_neg h]
    obtain ⟨m, rfl⟩ := Int.eq_ofNat_of_zero_le (show 0 ≤ n by omega)
    by_cases hl : v.toNat < 256 ^ (m : Int).toNat
    · rw [if_pos hl]
      exact put_ok v v.toNat m w (by omega) (by omega) (by omega) (by omega) hl
    · rw [if_neg hl]
      exact (put_long v v.toNat m w (by omega) (by omega) (by omega) (by omega) hl).mono fun _ _ hh => ⟨hh.1, hh.2 ▸ Below.refl _ _⟩
theorem get_bad (s : ByteArray) (w : World) (h : s.size < 1 ∨ 8 < s.size) (hs : s.size ≤ maxLen) :
    Calls Try.prog 26 #[.string s] w fun e w' => e = .returned (.tuple #[.int .u64 0, .int .i64 2]) ∧ w = w' := by
  unfold maxLen at hs
  by_cases h1 : s.size < 1
  · go_enter Try.func26, Try.ntmps26
    go_wp2
    go_ret2
    exact ⟨rfl, rfl⟩
  · have h2 : 8 < s.size := by omega
    go_enter Try.func26, Try.ntmps26
    go_wp2
    go_ret2
    exact ⟨rfl, rfl⟩
theorem pow256_le (k : Nat) (h : k ≤ 7) : 256 ^ k ≤ 72057594037927936 := by
  have := Nat.pow_le_pow_right (n := 256) (by omega) h
  simpa using this
theorem get_ok (s : ByteArray) (w : World) (h : 1 ≤ s.size) (h' : s.size ≤ 8) :
    Calls Try.prog 26 #[.string s] w fun e w' => e = .returned (.tuple #[.int .u64 (getL s.data.toList), .int .i64 0]) ∧ w = w' := by
  have h1 : ¬ s.size < 1 := by omega
  have h2 : ¬ 8 < s.size := by omega
  go_enter Try.func26, Try.ntmps26
  go_wp2
  go_loop [4, 5] (fun v j => ∃ (k : Nat) (i : Int), Hid (i = (k : Int) - 1) ∧ k ≤ s.size ∧ j = .int .i64 i ∧ v = .int .u64 (getL (s.data.toList.drop k))) (fun _ j => (intOf j + 1).toNat)
  case atStart => exact ⟨s.size, _, rfl, by omega, rfl, by rw [List.drop_of_length_le (by simp)]; rfl⟩
  case round =>
    obtain ⟨k, i, HI, hk, rfl, rfl⟩ := hrel
    cases k with
    | zero =>
      have hi : i = -1 := by have := HI.out; omega
      subst hi
      go_wp2
      go_ret2
      exact ⟨rfl, rfl⟩
    | succ k =>
      have hi : i = (k : Int) := by have := HI.out; omega
      subst hi
      have hlt : k < s.size := by omega
      have hV : getL (s.data.toList.drop (k + 1)) < 72057594037927936 := by
        have h1 := getL_lt (s.data.toList.drop (k + 1))
        exact Nat.lt_of_lt_of_le h1 (pow256_le _ (by simp; omega))
      obtain ⟨V, hVe⟩ : ∃ V, V = getL (s.data.toList.drop (k + 1)) := ⟨_, rfl⟩
      have hst : getL (s.data.toList.drop k) = 256 * V + (s[k]).toNat := by
        have e : s.data.toList.drop k = s[k] :: s.data.toList.drop (k + 1) := by
          rw [List.drop_eq_getElem_cons (by simpa using hlt)]; rfl
        rw [e, getL, hVe, Nat.add_comm]
      rw [← hVe] at hV ⊢
      have hb8 := (s[k]).toNat_lt
      have HS := Lib.hid hst
      clear hst hVe HI
      go_wp2
      go_round
      case rel => exact ⟨k, (k : Int) - 1, rfl, by omega, rfl, congrArg (Value.int .u64) (by rw [HS.out]; omega)⟩
      case measure => simp [intOf]
/-- As word.Get. -/
theorem get_any (s : ByteArray) (w : World) (hs : s.size ≤ maxLen) :
    Calls Try.prog 26 #[.string s] w fun e w' => e = .returned (.tuple #[.int .u64 (WGet.getS s.data.toList).1, .int .i64 (WGet.getS s.data.toList).2]) ∧ w = w' := by
  have hsz : s.data.toList.length = s.size := by simp
  unfold WGet.getS
  rw [hsz]
  by_cases h : s.size < 1 ∨ 8 < s.size
  · rw [if_pos h]
    exact get_bad s w h hs
  · rw [if_neg h]
    exact get_ok s w (by omega) (by omega)
end Go.Proofs.Ytjpefkpmjhahgaa.WRefPut
