/- slices.Sort of a row of 64-bit numbers: the turning round, the heap. slices.Sort of a row of 64-bit numbers: the choice of a pivot. slices.Sort of a row of 64-bit numbers: the insertion sort. slices.Sort of a row of 64-bit numbers: the library's own contracts of bits.Len, of the next power of two and of the random numbers, laid over this program; the breaking of patterns. slices.Sort of a row of 64-bit numbers: the parting by a pivot. slices.Sort of a row of 64-bit numbers: the parting of those that are equal to a pivot. slices.Sort of a row of 64-bit numbers: the partial insertion sort. slices.Sort of a row of 64-bit numbers: it is sorted, and a permutation. slices.Sort of a row of 64-bit numbers of the call's own. -/
import Derived.Test.YtaoneiicoaiehaaGreatSx11
import Derived.Shelf.SlGeneric
import Derived.Ground.NamesProg
import Derived.Ground.SlsfProg
import Derived.Shelf.Small.Bits
import Derived.Shelf.SlSortCmp.Xorshift
import Derived.Deep.CutRange
import Derived.Test.YtaoneiicoaiehaaGreatMa11
namespace Go.Proofs.YtaoneiicoaiehaaGreat.Sr11
open Go Go.RowKit Go.Lib Go.Sort Go.Proofs.YtaoneiicoaiehaaGreat.Dh Go.Proofs.YtaoneiicoaiehaaGreat.Sx11
set_option maxHeartbeats 8000000 in
set_option maxRecDepth 100000 in
theorem reverse_any {w0 w : World} {b off : Nat} {d : Array Int} (cap x y : Nat) (h : Srt w0 w b off d) (hxy : x < y) (hy : y ≤ d.size) (hsz : d.size < 4611686018427387904) :
    Calls Tryz.prog 97 #[.slice (some ⟨b, off, none⟩) d.size cap, .int .i64 x, .int .i64 y] w fun e w' => e = .returned (.tuple #[]) ∧ ∃ d', PermIn x y d d' ∧ Srt w0 w' b off d' := by
  have HS := Lib.hid h
  clear h
  go_enter Tryz.func97, Tryz.ntmps97
  go_wp2
  go_loopg [6, 7] (y - x) (fun g1 vi vj wr => ∃ (i j : Nat) (dk : Array Int), vi = .int .i64 i ∧ vj = .int .i64 j ∧ x ≤ i ∧ j < y ∧ j - i ≤ g1 ∧ Hid (Srt w0 wr b off dk) ∧ Hid (PermIn x y d dk))
  case atStart => exact ⟨x, y - 1, d, rfl, by congr 1; omega, Nat.le_refl _, by omega, by omega, HS, Lib.hid (permIn_refl _ _ _)⟩
  case round =>
    clear HS
    obtain ⟨i, j, dk, rfl, rfl, hxi, hjy, hg1, HK, HP⟩ := hrel
    by_cases hlt : i < j
    · obtain ⟨G, hG, hcw, hfw⟩ := HK.out.fam
      have hsk := HP.out.1
      rw [hsk] at hcw hfw
      have HG := Lib.hid hG
      clear hG
      go_wp2
      go_region
      all_goals go_wp2
      go_roundg (j - 1 - (i + 1))
      case measure => omega
      case rel =>
        refine ⟨i + 1, j - 1, swp dk i j, by go_num, by congr 1; omega, by omega, by omega, by omega, ?_, ?_⟩
        · rw [HG.out, HG.out]
          exact Lib.hid ((HK.out.drewN 1).swap i j (by omega) (by omega))
        · exact Lib.hid (permIn_trans _ _ _ _ _ HP.out (swp_permIn _ _ _ i j hxi (by omega) (by omega) hjy (by omega)))
    · go_wp2
      go_end0
      exact ⟨rfl, dk, HP.out, HK.out⟩
theorem sift_out {hi f r : Nat} {d : Array Int} (h : hi ≤ 2 * r + 1) : siftDown ltInt hi f r d = d := by
  rw [siftDown, dif_pos h]
theorem sift_size (hi f : Nat) : ∀ (n r : Nat) (d : Array Int), hi - r ≤ n → (siftDown ltInt hi f r d).size = d.size
  | n, r, d, hn => by
    rw [siftDown]
    by_cases h : 2 * r + 1 ≥ hi
    · rw [dif_pos h]
    · rw [dif_neg h]
      cases n with
      | zero => omega
      | succ n =>
        split
        · split
          · rfl
          · split
            · rw [sift_size hi f n _ _ (by omega), size_swp]
            · rfl
        · split
          · rfl
          · rw [sift_size hi f n _ _ (by omega), size_swp]
theorem sift_right {hi f r : Nat} {d : Array Int} (h : 2 * r + 2 < hi) (hl : ltInt d[f + 2 * r + 1]! d[f + 2 * r + 2]! = true) :
    siftDown ltInt hi f r d = if ltInt d[f + r]! d[f + 2 * r + 2]! then siftDown ltInt hi f (2 * r + 2) (swp d (f + r) (f + 2 * r + 2)) else d := by
  rw [siftDown, dif_neg (by omega), if_pos (by rw [show f + (2 * r + 1) + 1 = f + 2 * r + 2 by omega, ← Nat.add_assoc, hl]; simpa using h), dif_pos h, ← Nat.add_assoc]
  cases ltInt d[f + r]! d[f + 2 * r + 2]! <;> rfl
theorem sift_left {hi f r : Nat} {d : Array Int} (h : 2 * r + 1 < hi) (hl : ¬ 2 * r + 2 < hi ∨ ltInt d[f + 2 * r + 1]! d[f + 2 * r + 2]! = false) :
    siftDown ltInt hi f r d = if ltInt d[f + r]! d[f + 2 * r + 1]! then siftDown ltInt hi f (2 * r + 1) (swp d (f + r) (f + 2 * r + 1)) else d := by
  rw [siftDown, dif_neg (by omega), if_neg (by
    rw [show f + (2 * r + 1) + 1 = f + 2 * r + 2 by omega, ← Nat.add_assoc]
    rcases hl with hl | hl
    · simp only [Bool.and_eq_true, decide_eq_true_eq]; omega
    · rw [hl]; simp), ← Nat.add_assoc]
  cases ltInt d[f + r]! d[f + 2 * r + 1]! <;> rfl
set_option maxHeartbeats 8000000 in
set_option maxRecDepth 100000 in
theorem sift_any {w0 w : World} {b off : Nat} {d : Array Int} (cap lo hi f : Nat) (h : Srt w0 w b off d) (hy : f + hi ≤ d.size) (hsz : d.size < 2305843009213693952) (hlo : lo ≤ d.size) :
    Calls Tryz.prog 119 #[.slice (some ⟨b, off, none⟩) d.size cap, .int .i64 lo, .int .i64 hi, .int .i64 f] w fun e w' => e = .returned (.tuple #[]) ∧ Srt w0 w' b off (siftDown ltInt hi f lo d) := by
  have HS := Lib.hid h
  clear h
  go_enter Tryz.func119, Tryz.ntmps119
  go_wp2
  go_loopg [8, 9] (d.size - lo) (fun g1 vi _ wr => ∃ (r : Nat) (dk : Array Int), vi = .int .i64 r ∧ r ≤ d.size ∧ d.size - r ≤ g1 ∧ dk.size = d.size ∧ Hid (Srt w0 wr b off dk) ∧ Hid (siftDown ltInt hi f r dk = siftDown ltInt hi f lo d))
  case atStart => exact ⟨lo, d, rfl, hlo, Nat.le_refl _, rfl, HS, Lib.hid rfl⟩
  case round =>
    clear HS
    obtain ⟨r, dk, rfl, hr, hg1, hsk, HK, HO⟩ := hrel
    by_cases hch : 2 * r + 1 < hi
    · obtain ⟨G, hG, hcw, hfw⟩ := HK.out.fam
      rw [hsk] at hcw hfw
      have HG := Lib.hid hG
      clear hG
      by_cases hc2 : 2 * r + 2 < hi
      · have hg2 : 2 * (r : Int) + 1 + 1 < (hi : Int) := by omega
        cases hl : ltInt (G (f + 2 * r + 1)) (G (f + 2 * r + 2)) with
        | true =>
          have HL := Lib.hid (sift_right (d := dk) (f := f) hc2 (by rw [← HG.out, ← HG.out]; exact hl))
          go_wp2
          go_quiet (first | (go_at_call 99; refine Calls.quiet_of_same (less_any _ _ _)))
          have HK2 := Lib.hid (HK.out.drewN nq)
          clear HK hcw hfw
          generalize wr.drewN nq = wq at HK2 ⊢
          clear nq
          obtain ⟨hcw, hfw⟩ := HK2.out.fams HG.out hsk
          cases hm : ltInt (G (f + r)) (G (f + 2 * r + 2)) with
          | true =>
            go_wp2
            go_quiet (first | (go_at_call 99; refine Calls.quiet_of_same (less_any _ _ _)))
            go_wp2
            go_region
            all_goals go_wp2
            go_roundg (d.size - (2 * r + 2))
            case measure => omega
            case rel =>
              refine ⟨2 * r + 2, swp dk (f + r) (f + 2 * r + 2), by first | rfl | go_num | (congr 1; omega), by omega, by omega, by rw [size_swp]; exact hsk, ?_, ?_⟩
              · have hx := (HK2.out.drewN (nq + 1)).swap (f + r) (f + 2 * r + 2) (by omega) (by omega)
                rw [← HG.out, ← HG.out] at hx
                exact Lib.hid hx
              · exact Lib.hid (by rw [← HO.out, HL.out, if_pos (by rw [← HG.out, ← HG.out]; exact hm)])
          | false =>
            go_wp2
            go_quiet (first | (go_at_call 99; refine Calls.quiet_of_same (less_any _ _ _)))
            go_wp2
            (try simp only [Exit.inBlock, Exit.then]); refine bodyPost_ret (results_none rfl _ _ _) rfl ?_
            exact ⟨rfl, by rw [← HO.out, HL.out, if_neg (by rw [← HG.out, ← HG.out, hm]; simp)]; exact HK2.out.drewN _⟩
        | false =>
          have HL := Lib.hid (sift_left (d := dk) (f := f) hch (.inr (by rw [← HG.out, ← HG.out]; exact hl)))
          go_wp2
          go_quiet (first | (go_at_call 99; refine Calls.quiet_of_same (less_any _ _ _)))
          have HK2 := Lib.hid (HK.out.drewN nq)
          clear HK hcw hfw
          generalize wr.drewN nq = wq at HK2 ⊢
          clear nq
          obtain ⟨hcw, hfw⟩ := HK2.out.fams HG.out hsk
          cases hm : ltInt (G (f + r)) (G (f + 2 * r + 1)) with
          | true =>
            go_wp2
            go_quiet (first | (go_at_call 99; refine Calls.quiet_of_same (less_any _ _ _)))
            go_wp2
            go_region
            all_goals go_wp2
            go_roundg (d.size - (2 * r + 1))
            case measure => omega
            case rel =>
              refine ⟨2 * r + 1, swp dk (f + r) (f + 2 * r + 1), by first | rfl | go_num | (congr 1; omega), by omega, by omega, by rw [size_swp]; exact hsk, ?_, ?_⟩
              · have hx := (HK2.out.drewN (nq + 1)).swap (f + r) (f + 2 * r + 1) (by omega) (by omega)
                rw [← HG.out, ← HG.out] at hx
                exact Lib.hid hx
              · exact Lib.hid (by rw [← HO.out, HL.out, if_pos (by rw [← HG.out, ← HG.out]; exact hm)])
          | false =>
            go_wp2
            go_quiet (first | (go_at_call 99; refine Calls.quiet_of_same (less_any _ _ _)))
            go_wp2
            (try simp only [Exit.inBlock, Exit.then]); refine bodyPost_ret (results_none rfl _ _ _) rfl ?_
            exact ⟨rfl, by rw [← HO.out, HL.out, if_neg (by rw [← HG.out, ← HG.out, hm]; simp)]; exact HK2.out.drewN _⟩
      · have hg2 : decide (2 * (r : Int) + 1 + 1 < (hi : Int)) = false := decide_eq_false (by omega)
        have HL := Lib.hid (sift_left (d := dk) (f := f) hch (.inl hc2))
        go_wp2
        go_quiet (first | (go_at_call 99; refine Calls.quiet_of_same (less_any _ _ _)))
        have HK2 := Lib.hid (HK.out.drewN nq)
        clear HK hcw hfw
        generalize wr.drewN nq = wq at HK2 ⊢
        clear nq
        obtain ⟨hcw, hfw⟩ := HK2.out.fams HG.out hsk
        cases hm : ltInt (G (f + r)) (G (f + 2 * r + 1)) with
        | true =>
          go_wp2
          go_quiet (first | (go_at_call 99; refine Calls.quiet_of_same (less_any _ _ _)))
          go_wp2
          go_region
          all_goals go_wp2
          go_roundg (d.size - (2 * r + 1))
          case measure => omega
          case rel =>
            refine ⟨2 * r + 1, swp dk (f + r) (f + 2 * r + 1), by first | rfl | go_num | (congr 1; omega), by omega, by omega, by rw [size_swp]; exact hsk, ?_, ?_⟩
            · have hx := (HK2.out.drewN (nq + 1)).swap (f + r) (f + 2 * r + 1) (by omega) (by omega)
              rw [← HG.out, ← HG.out] at hx
              exact Lib.hid hx
            · exact Lib.hid (by rw [← HO.out, HL.out, if_pos (by rw [← HG.out, ← HG.out]; exact hm)])
        | false =>
          go_wp2
          go_quiet (first | (go_at_call 99; refine Calls.quiet_of_same (less_any _ _ _)))
          go_wp2
          (try simp only [Exit.inBlock, Exit.then]); refine bodyPost_ret (results_none rfl _ _ _) rfl ?_
          exact ⟨rfl, by rw [← HO.out, HL.out, if_neg (by rw [← HG.out, ← HG.out, hm]; simp)]; exact HK2.out.drewN _⟩
    · go_wp2
      go_end0
      exact ⟨rfl, by rw [← HO.out, sift_out (by omega)]; exact HK.out⟩
set_option maxHeartbeats 8000000 in
set_option maxRecDepth 100000 in
theorem heap_any {w0 w : World} {b off : Nat} {d : Array Int} (cap x y : Nat) (h : Srt w0 w b off d) (hxy : x < y) (hy : y ≤ d.size) (hsz : d.size < 2305843009213693952) :
    Calls Tryz.prog 94 #[.slice (some ⟨b, off, none⟩) d.size cap, .int .i64 x, .int .i64 y] w fun e w' => e = .returned (.tuple #[]) ∧ Srt w0 w' b off (heapSort ltInt d x y) := by
  have HS := Lib.hid h
  clear h
  go_enter Tryz.func94, Tryz.ntmps94
  go_wp2
  go_loopg [9] ((y - x - 1) / 2 + 1) (fun g1 vi wr => ∃ (k : Nat) (dk : Array Int), vi = .int .i64 ((k : Int) - 1) ∧ k ≤ (y - x - 1) / 2 + 1 ∧ k ≤ g1 ∧ dk.size = d.size ∧ Hid (Srt w0 wr b off dk) ∧ Hid (heapBuild ltInt (y - x) x k dk = heapBuild ltInt (y - x) x ((y - x - 1) / 2 + 1) d))
  case atStart => exact ⟨(y - x - 1) / 2 + 1, d, by congr 1; omega, Nat.le_refl _, Nat.le_refl _, rfl, HS, Lib.hid rfl⟩
  case round =>
    clear HS
    obtain ⟨k, dk, rfl, hk, hg1, hsk, HK, HO⟩ := hrel
    by_cases hk0 : 0 < k
    · obtain ⟨i, rfl⟩ : ∃ i, k = i + 1 := ⟨k - 1, by omega⟩
      have hc := sift_any cap i (y - x) x HK.out (by omega) (by omega) (by omega)
      rw [hsk] at hc
      have e1 : ((i + 1 : Nat) : Int) - 1 = (i : Int) := by omega
      have e2 : ((y - x : Nat) : Int) = (y : Int) - (x : Int) := by omega
      rw [e2] at hc
      rw [e1]
      have HC := Lib.hid hc
      clear hc
      go_wp2_with fail
      refine HC.out.mono ?_
      rintro e w1 ⟨rfl, h1⟩
      have H1 := Lib.hid h1
      clear h1
      go_wp2
      go_roundg i
      case measure => omega
      case rel => exact ⟨i, _, rfl, by omega, by omega, by rw [sift_size _ _ _ _ _ (Nat.le_refl _)]; exact hsk, H1, Lib.hid (by rw [← HO.out]; rfl)⟩
    · obtain rfl : k = 0 := by omega
      go_wp2
      go_loopg [10] (y - x) (fun g2 vj wr2 => ∃ (k : Nat) (dj : Array Int), vj = .int .i64 ((k : Int) - 1) ∧ k ≤ y - x ∧ k ≤ g2 ∧ dj.size = d.size ∧ Hid (Srt w0 wr2 b off dj) ∧ Hid (heapPop ltInt x k dj = heapSort ltInt d x y))
      case atStart => exact ⟨y - x, dk, by congr 1; omega, Nat.le_refl _, Nat.le_refl _, hsk, HK, Lib.hid (by unfold heapSort; rw [← HO.out]; rfl)⟩
      case round =>
        clear HK HO
        obtain ⟨k, dj, rfl, hk, hg2, hsj, HJ, HO⟩ := hrel
        by_cases hk0 : 0 < k
        · obtain ⟨i, rfl⟩ : ∃ i, k = i + 1 := ⟨k - 1, by omega⟩
          have e1 : ((i + 1 : Nat) : Int) - 1 = (i : Int) := by omega
          rw [e1]
          obtain ⟨G, hG, hcw, hfw⟩ := HJ.out.fam
          rw [hsj] at hcw hfw
          have HG := Lib.hid hG
          clear hG
          obtain ⟨u, hu⟩ := HJ.out.again x (x + i) (by omega) (by omega) (.int .u64 (G (x + i)))
          have hx := (HJ.out.drewN 1).swap x (x + i) (by omega) (by omega)
          rw [← HG.out, ← HG.out] at hx
          have hs2 : (swp dj x (x + i)).size = d.size := by rw [size_swp]; exact hsj
          have hc := sift_any cap 0 i x hx (by omega) (by omega) (by omega)
          rw [hs2] at hc
          have HC := Lib.hid hc
          clear hc hx
          go_wp2
          go_region
          all_goals go_wp2_with fail
          refine HC.out.mono ?_
          rintro e w1 ⟨rfl, h1⟩
          have H1 := Lib.hid h1
          clear h1
          go_wp2
          go_roundg i
          case measure => omega
          case rel => exact ⟨i, _, rfl, by omega, by omega, by rw [sift_size _ _ _ _ _ (Nat.le_refl _)]; exact hs2, H1, Lib.hid (by rw [← HO.out]; rfl)⟩
        · obtain rfl : k = 0 := by omega
          go_wp2
          go_end0
          exact ⟨rfl, by rw [← HO.out]; exact HJ.out⟩
end Go.Proofs.YtaoneiicoaiehaaGreat.Sr11
namespace Go.Proofs.YtaoneiicoaiehaaGreat.Sm11
open Go Go.RowKit Go.Lib Go.Sort Go.Proofs.YtaoneiicoaiehaaGreat.Dh Go.Proofs.YtaoneiicoaiehaaGreat.Sx11
/-- With a count in a new block. -/
structure Cnt (w0 w : World) (b off : Nat) (d : Array Int) (c s : Nat) : Prop where
  srt : Srt w0 w b off d
  new : w0.heap.size ≤ c
  cell : w.cell? ⟨c, 0, none⟩ = some (.int .i64 (s : Int))
  free : w.frozen? ⟨c, 0, none⟩ = false
variable {w0 w : World} {b off c s : Nat} {d : Array Int}
theorem Cnt.drewN (h : Cnt w0 w b off d c s) (n : Nat) : Cnt w0 (w.drewN n) b off d c s := ⟨h.srt.drewN n, h.new, h.cell, h.free⟩
theorem Cnt.bump (h : Cnt w0 w b off d c s) (t : Nat) : Cnt w0 (w.setCell ⟨c, 0, none⟩ (.int .i64 (t : Int))) b off d c t :=
  ⟨h.srt.store c 0 _ h.new, h.new, World.cell?_setCell_same _ _ _ h.cell, by rw [World.frozen?_setCell]; exact h.free⟩
set_option maxHeartbeats 8000000 in
set_option maxRecDepth 100000 in
theorem order_any (cap x y : Nat) (h : Cnt w0 w b off d c s) (hx : x < d.size) (hy : y < d.size) (hs : s ≤ 1000) :
    Calls Tryz.prog 137 #[.slice (some ⟨b, off, none⟩) d.size cap, .int .i64 x, .int .i64 y, .pointer (some ⟨c, 0, none⟩)] w fun e w' =>
      ∃ p q t : Nat, e = .returned (.tuple #[.int .i64 p, .int .i64 q]) ∧ ((p = x ∧ q = y) ∨ (p = y ∧ q = x)) ∧ t ≤ s + 1 ∧ Cnt w0 w' b off d c t := by
  obtain ⟨G, hG, hcw, hfw⟩ := h.srt.fam
  have hcc := h.cell
  have hcf := h.free
  have HS := Lib.hid h
  clear h hG
  go_enter Tryz.func137, Tryz.ntmps137
  cases hl : ltInt (G y) (G x) with
  | true =>
    go_wp2
    go_quiet (first | (go_at_call 99; refine Calls.quiet_of_same (less_any _ _ _)))
    rw [hl]
    go_wp2
    go_ret2
    have hb := (HS.out.drewN nq).bump (s + 1)
    exact ⟨y, x, s + 1, rfl, .inr ⟨rfl, rfl⟩, Nat.le_refl _, by simpa using hb⟩
  | false =>
    go_wp2
    go_quiet (first | (go_at_call 99; refine Calls.quiet_of_same (less_any _ _ _)))
    rw [hl]
    go_wp2
    go_ret2
    exact ⟨x, y, s, rfl, .inl ⟨rfl, rfl⟩, Nat.le_succ _, HS.out.drewN nq⟩
set_option maxHeartbeats 8000000 in
set_option maxRecDepth 100000 in
theorem median_any (cap x y z : Nat) (h : Cnt w0 w b off d c s) (hx : x < d.size) (hy : y < d.size) (hz : z < d.size) (hs : s ≤ 900) :
    Calls Tryz.prog 123 #[.slice (some ⟨b, off, none⟩) d.size cap, .int .i64 x, .int .i64 y, .int .i64 z, .pointer (some ⟨c, 0, none⟩)] w fun e w' =>
      ∃ p t : Nat, e = .returned (.int .i64 p) ∧ (p = x ∨ p = y ∨ p = z) ∧ t ≤ s + 3 ∧ Cnt w0 w' b off d c t := by
  have H1 := Lib.hid (order_any cap x y h hx hy (by omega))
  clear h
  go_enter Tryz.func123, Tryz.ntmps123
  go_wp2_with fail
  refine H1.out.mono ?_
  rintro e w1 ⟨x1, y1, s1, rfl, hxy, hs1, hc1⟩
  have H2 := Lib.hid (order_any cap y1 z hc1 (by omega) hz (by omega))
  clear H1 hc1
  go_wp2_with fail
  refine H2.out.mono ?_
  rintro e w2 ⟨y2, z2, s2, rfl, hyz, hs2, hc2⟩
  have H3 := Lib.hid (order_any cap x1 y2 hc2 (by omega) (by omega) (by omega))
  clear H2 hc2
  go_wp2_with fail
  refine H3.out.mono ?_
  rintro e w3 ⟨x3, y3, s3, rfl, hxy3, hs3, hc3⟩
  have H4 := Lib.hid hc3
  clear H3 hc3
  go_wp2
  go_ret
  exact ⟨y3, s3, rfl, by omega, by omega, H4.out⟩
set_option maxHeartbeats 8000000 in
set_option maxRecDepth 100000 in
theorem near_any (cap x : Nat) (h : Cnt w0 w b off d c s) (h0 : 0 < x) (hx : x + 1 < d.size) (hsz : d.size < 2305843009213693952) (hs : s ≤ 900) :
    Calls Tryz.prog 122 #[.slice (some ⟨b, off, none⟩) d.size cap, .int .i64 x, .pointer (some ⟨c, 0, none⟩)] w fun e w' =>
      ∃ p t : Nat, e = .returned (.int .i64 p) ∧ (p + 1 = x ∨ p = x ∨ p = x + 1) ∧ t ≤ s + 3 ∧ Cnt w0 w' b off d c t := by
  have hc := median_any cap (x - 1) x (x + 1) h (by omega) (by omega) hx hs
  have e1 : ((x - 1 : Nat) : Int) = (x : Int) - 1 := by omega
  have e2 : ((x + 1 : Nat) : Int) = (x : Int) + 1 := by omega
  rw [e1, e2] at hc
  have H1 := Lib.hid hc
  clear h hc
  go_enter Tryz.func122, Tryz.ntmps122
  go_wp2_with fail
  refine H1.out.mono ?_
  rintro e w1 ⟨p, s1, rfl, hp, hs1, hc1⟩
  have H4 := Lib.hid hc1
  clear hc1
  go_wp2
  go_ret
  exact ⟨p, s1, rfl, by omega, by omega, H4.out⟩
/-- What choosePivot answers. -/
def Picks (w0 : World) (b off : Nat) (d : Array Int) (x y : Nat) (e : Ending) (w' : World) : Prop :=
  ∃ p k : Nat, e = .returned (.tuple #[.int .i64 p, .int .i64 k]) ∧ x ≤ p ∧ p < y ∧ (k = 0 ∨ k = 1 ∨ k = 2) ∧ Srt w0 w' b off d
theorem Cnt.start (h : Srt w0 w b off d) : Cnt w0 (w.alloc (.cells #[.int .i64 0] 3)) b off d w.heap.size 0 :=
  ⟨h.alloc _, h.tread.size, by simp, by simp⟩
set_option maxHeartbeats 8000000 in
set_option maxRecDepth 100000 in
theorem pick_any (cap x y : Nat) (h : Srt w0 w b off d) (hxy : x < y) (hy : y ≤ d.size) (hsz : d.size < 2305843009213693952) :
    Calls Tryz.prog 96 #[.slice (some ⟨b, off, none⟩) d.size cap, .int .i64 x, .int .i64 y] w fun e w' => Picks w0 b off d x y e w' := by
  have HS := Lib.hid h
  have h0 := Cnt.start h
  obtain ⟨l, rfl⟩ : ∃ l, y = x + l := ⟨y - x, by omega⟩
  rw [Int.natCast_add]
  clear h
  by_cases h8 : l < 8
  · have HC := Lib.hid h0
    have hcc := h0.cell
    clear h0
    go_enter Tryz.func96, Tryz.ntmps96
    go_wp2
    go_ret2
    exact ⟨x + l / 4 * 2, 1, by go_num, by omega, by omega, by omega, HC.out.srt⟩
  · -- what stands behind: the count is read, the answer told
    have TAIL : ∀ (w2 : World) (j s : Nat), Cnt w0 w2 b off d w.heap.size s → x ≤ j → j < x + l → Picks w0 b off d x (x + l) (.returned (.tuple #[.int .i64 j, .int .i64 ((if s = 0 then 1 else if s = 12 then 2 else 0 : Nat) : Int)])) w2 := by
      intro w2 j s hc h1 h2
      refine ⟨j, _, rfl, h1, h2, ?_, hc.srt⟩
      split
      · exact .inr (.inl rfl)
      · split
        · exact .inr (.inr rfl)
        · exact .inl rfl
    have HT := Lib.hid TAIL
    clear TAIL
    by_cases h50 : l < 50
    · have hc := median_any cap (x + l / 4) (x + l / 4 * 2) (x + l / 4 * 3) h0 (by omega) (by omega) (by omega) (by omega)
      clear h0
      have e1 : ((x + l / 4 : Nat) : Int) = (x : Int) + ((x : Int) + (l : Int) - (x : Int)) / 4 := by omega
      have e2 : ((x + l / 4 * 2 : Nat) : Int) = (x : Int) + ((x : Int) + (l : Int) - (x : Int)) / 4 * 2 := by omega
      have e3 : ((x + l / 4 * 3 : Nat) : Int) = (x : Int) + ((x : Int) + (l : Int) - (x : Int)) / 4 * 3 := by omega
      rw [e1, e2, e3] at hc
      have H1 := Lib.hid hc
      clear hc e1 e2 e3
      go_enter Tryz.func96, Tryz.ntmps96
      go_wp2_with fail
      refine H1.out.mono ?_
      rintro e w1 ⟨p, s, rfl, hp, hs1, hc1⟩
      have hcc := hc1.cell
      have HC := Lib.hid hc1
      clear H1 hc1
      by_cases hs0 : s = 0
      · subst hs0
        go_wp2
        go_ret2
        exact HT.out _ _ _ HC.out (by omega) (by omega)
      · by_cases hs12 : s = 12
        · subst hs12
          go_wp2
          go_ret2
          exact HT.out _ _ _ HC.out (by omega) (by omega)
        · go_wp2
          go_ret2
          have := HT.out _ p _ HC.out (by omega) (by omega)
          rw [if_neg hs0, if_neg hs12] at this
          exact this
    · have hc := near_any cap (x + l / 4) h0 (by omega) (by omega) hsz (by omega)
      clear h0
      have e1 : ((x + l / 4 : Nat) : Int) = (x : Int) + ((x : Int) + (l : Int) - (x : Int)) / 4 := by omega
      rw [e1] at hc
      have H1 := Lib.hid hc
      clear hc e1
      go_enter Tryz.func96, Tryz.ntmps96
      go_wp2_with fail
      refine H1.out.mono ?_
      rintro e w1 ⟨p1, s1, rfl, hp1, hs1, hc1⟩
      have hc := near_any cap (x + l / 4 * 2) hc1 (by omega) (by omega) hsz (by omega)
      have e2 : ((x + l / 4 * 2 : Nat) : Int) = (x : Int) + ((x : Int) + (l : Int) - (x : Int)) / 4 * 2 := by omega
      rw [e2] at hc
      have H2 := Lib.hid hc
      clear H1 hc1 hc e2
      go_wp2_with fail
      refine H2.out.mono ?_
      rintro e w2 ⟨p2, s2, rfl, hp2, hs2, hc2⟩
      have hc := near_any cap (x + l / 4 * 3) hc2 (by omega) (by omega) hsz (by omega)
      have e3 : ((x + l / 4 * 3 : Nat) : Int) = (x : Int) + ((x : Int) + (l : Int) - (x : Int)) / 4 * 3 := by omega
      rw [e3] at hc
      have H3 := Lib.hid hc
      clear H2 hc2 hc e3
      go_wp2_with fail
      refine H3.out.mono ?_
      rintro e w3 ⟨p3, s3, rfl, hp3, hs3, hc3⟩
      have H4 := Lib.hid (median_any cap p1 p2 p3 hc3 (by omega) (by omega) (by omega) (by omega))
      clear H3 hc3
      go_wp2_with fail
      refine H4.out.mono ?_
      rintro e w4 ⟨p, s, rfl, hp, hs4, hc4⟩
      have hcc := hc4.cell
      have HC := Lib.hid hc4
      clear H4 hc4
      by_cases hs0 : s = 0
      · subst hs0
        go_wp2
        go_ret2
        exact HT.out _ _ _ HC.out (by omega) (by omega)
      · by_cases hs12 : s = 12
        · subst hs12
          go_wp2
          go_ret2
          exact HT.out _ _ _ HC.out (by omega) (by omega)
        · go_wp2
          go_ret2
          have := HT.out _ p _ HC.out (by omega) (by omega)
          rw [if_neg hs0, if_neg hs12] at this
          exact this
end Go.Proofs.YtaoneiicoaiehaaGreat.Sm11
namespace Go.Proofs.YtaoneiicoaiehaaGreat.Si11
open Go Go.RowKit Go.Lib Go.Sort Go.Proofs.YtaoneiicoaiehaaGreat.Dh Go.Proofs.YtaoneiicoaiehaaGreat.Sx11
theorem inner_go (a j : Nat) (d : Array Int) (hj : a < j) (hl : ltInt d[j]! d[j - 1]! = true) : insInner ltInt a j d = insInner ltInt a (j - 1) (swp d j (j - 1)) := by
  cases j with
  | zero => omega
  | succ k =>
    rw [insInner, if_pos (by simp only [Nat.add_sub_cancel] at hl; rw [hl]; simpa using hj)]
    rfl
theorem inner_stop (a j : Nat) (d : Array Int) (h : j ≤ a ∨ ltInt d[j]! d[j - 1]! = false) : insInner ltInt a j d = d := by
  cases j with
  | zero => rfl
  | succ k =>
    rw [insInner, if_neg]
    simp only [Nat.add_sub_cancel] at h
    rcases h with h | h
    · simp only [Bool.and_eq_true, decide_eq_true_eq]; omega
    · rw [h]; simp
set_option maxHeartbeats 8000000 in
set_option maxRecDepth 100000 in
theorem ins_any {w0 w : World} {b off : Nat} {d : Array Int} (cap x y : Nat) (h : Srt w0 w b off d) (hxy : x ≤ y) (hy : y ≤ d.size) (hsz : d.size < 4611686018427387904) :
    Calls Tryz.prog 93 #[.slice (some ⟨b, off, none⟩) d.size cap, .int .i64 x, .int .i64 y] w fun e w' => e = .returned (.tuple #[]) ∧ Srt w0 w' b off (insertionSort ltInt d x y) := by
  have HS := Lib.hid h
  clear h
  go_enter Tryz.func93, Tryz.ntmps93
  go_wp2
  go_loopg [6] (y - x) (fun g1 vi wr => ∃ (i : Nat) (dk : Array Int), vi = .int .i64 i ∧ x < i ∧ i ≤ y + 1 ∧ y + 1 - i ≤ g1 + 1 ∧ dk.size = d.size ∧ Hid (Srt w0 wr b off dk) ∧ Hid (insOuter ltInt x y i dk = insOuter ltInt x y (x + 1) d))
  case atStart => exact ⟨x + 1, d, by go_num, by omega, by omega, by omega, rfl, HS, Lib.hid rfl⟩
  case round =>
    clear HS
    obtain ⟨i, dk, rfl, hxi, hiy, hg1, hsk, HK, HO⟩ := hrel
    by_cases hlt : i < y
    · go_wp2
      go_loopg [7] i (fun g2 vj wr2 => ∃ (j : Nat) (dj : Array Int), vj = .int .i64 j ∧ x ≤ j ∧ j ≤ i ∧ j ≤ g2 ∧ dj.size = d.size ∧ Hid (Srt w0 wr2 b off dj) ∧ Hid (insInner ltInt x j dj = insInner ltInt x i dk))
      case atStart => exact ⟨i, dk, rfl, by omega, Nat.le_refl _, Nat.le_refl _, hsk, HK, Lib.hid rfl⟩
      case round =>
        clear HK
        obtain ⟨j, dj, rfl, hxj, hji, hg2, hsj, HJ, HI⟩ := hrel
        have OUT : Hid ((j ≤ x ∨ ltInt dj[j]! dj[j - 1]! = false) → insOuter ltInt x y (i + 1) dj = insOuter ltInt x y (x + 1) d) := Lib.hid fun hs => by
          rw [← HO.out, insOuter.eq_1 ltInt x y i dk, if_pos hlt, ← HI.out, inner_stop _ _ _ hs]
        by_cases hja : x < j
        · have hgt : (j : Int) > (x : Int) := by omega
          obtain ⟨G, hG, hcw, hfw⟩ := HJ.out.fam
          rw [hsj] at hcw hfw
          cases hl : ltInt (G j) (G (j - 1)) with
          | true =>
            have HG := Lib.hid hG
            clear hG
            go_wp2
            go_quiet (first | (go_at_call 99; refine Calls.quiet_of_same (less_any _ _ _)))
            go_wp2
            go_region
            all_goals go_wp2
            go_roundg (j - 1)
            case measure => omega
            case rel =>
              refine ⟨j - 1, swp dj j (j - 1), by first | rfl | go_num | (congr 1; omega), by omega, by omega, Nat.le_refl _, by rw [size_swp]; exact hsj, ?_, ?_⟩
              · rw [HG.out, HG.out]
                exact Lib.hid ((HJ.out.drewN _).swap j (j - 1) (by omega) (by omega))
              · rw [HG.out, HG.out] at hl
                exact Lib.hid (by rw [← HI.out, inner_go x j dj hja hl])
          | false =>
            have HG := Lib.hid hG
            clear hG
            go_wp2
            go_quiet (first | (go_at_call 99; refine Calls.quiet_of_same (less_any _ _ _)))
            go_wp2
            go_roundg (y - (i + 1))
            case measure => omega
            case rel => exact ⟨i + 1, dj, by go_num, by omega, by omega, by omega, hsj, Lib.hid (HJ.out.drewN _), Lib.hid (OUT.out (Or.inr (by rw [← HG.out, ← HG.out]; exact hl)))⟩
        · have hgt : ¬ (j : Int) > (x : Int) := by omega
          go_wp2
          go_quiet (first | (go_at_call 99; refine Calls.quiet_of_same (less_any _ _ _)))
          go_wp2
          go_roundg (y - (i + 1))
          case measure => omega
          case rel => exact ⟨i + 1, dj, by go_num, by omega, by omega, by omega, hsj, Lib.hid (HJ.out.drewN _), Lib.hid (OUT.out (Or.inl (by omega)))⟩
    · go_wp2
      go_end0
      refine ⟨rfl, ?_⟩
      have e : dk = insertionSort ltInt d x y := by
        unfold insertionSort
        rw [← HO.out, insOuter.eq_1 ltInt x y i dk, if_neg hlt]
      rw [← e]; exact HK.out
end Go.Proofs.YtaoneiicoaiehaaGreat.Si11
namespace Go.Proofs.YtaoneiicoaiehaaGreat.Ln11
open Go Go.RowKit Go.Lib Go.Shelf Go.Sort Go.Proofs Go.Proofs.YtaoneiicoaiehaaGreat.Dh Go.Proofs.YtaoneiicoaiehaaGreat.Sx11
def lenLay_ren : Go.Shelf.Ren := ⟨fun | 125 => 68 | 128 => 102 | 129 => 103 | n => n, fun | 46 => 110 | 3 => 3 | 51 => 149 | 53 => 33 | 4 => 4 | 5 => 5 | 9 => 9 | n => n, fun | n => n⟩
theorem lenLay : Go.Proofs.Lays.n125 Tryz.prog lenLay_ren := {
  mixed := by kernel_rfl
  f125 := Tryz.func68.trans (congrArg some (by kernel_rfl))
  f128 := Tryz.func102.trans (congrArg some (by kernel_rfl))
  f129 := Tryz.func103.trans (congrArg some (by kernel_rfl))
  t3 := Tryz.underlying3
  a3 := Tryz.isAgg3
  z3 := Tryz.sizeOf3
  v3 := Tryz.zeroValue3
  t4 := Tryz.underlying4
  a4 := Tryz.isAgg4
  z4 := Tryz.sizeOf4
  v4 := Tryz.zeroValue4
  t5 := Tryz.underlying5
  a5 := Tryz.isAgg5
  z5 := Tryz.sizeOf5
  v5 := Tryz.zeroValue5
  t9 := Tryz.underlying9
  a9 := Tryz.isAgg9
  z9 := Tryz.sizeOf9
  v9 := Tryz.zeroValue9
  t46 := Tryz.underlying110
  a46 := Tryz.isAgg110
  z46 := Tryz.sizeOf110
  v46 := Tryz.zeroValue110
  t51 := Tryz.underlying149
  a51 := Tryz.isAgg149
  z51 := Tryz.sizeOf149
  v51 := Tryz.zeroValue149
  t53 := Tryz.underlying33
  a53 := Tryz.isAgg33
  z53 := Tryz.sizeOf33
  v53 := Tryz.zeroValue33 }
def xorLay_ren : Go.Shelf.Ren := ⟨fun | 48 => 121 | n => n, fun | 76 => 175 | 55 => 33 | 0 => 0 | 66 => 160 | 39 => 110 | n => n, fun | n => n⟩
theorem xorLay : Go.Proofs.SlLaysF0.n48 Tryz.prog xorLay_ren := {
  mixed := by kernel_rfl
  f48 := Tryz.func121.trans (congrArg some (by kernel_rfl))
  t0 := Tryz.underlying0
  a0 := Tryz.isAgg0
  z0 := Tryz.sizeOf0
  v0 := Tryz.zeroValue0
  t39 := Tryz.underlying110
  a39 := Tryz.isAgg110
  z39 := Tryz.sizeOf110
  v39 := Tryz.zeroValue110
  t55 := Tryz.underlying33
  a55 := Tryz.isAgg33
  z55 := Tryz.sizeOf33
  v55 := Tryz.zeroValue33
  t66 := Tryz.underlying160
  a66 := Tryz.isAgg160
  z66 := Tryz.sizeOf160
  v66 := Tryz.zeroValue160
  t76 := Tryz.underlying175
  a76 := Tryz.isAgg175
  z76 := Tryz.sizeOf175
  v76 := Tryz.zeroValue175 }
def powLay_ren : Go.Shelf.Ren := ⟨fun | 47 => 120 | 15 => 68 | 28 => 102 | 29 => 103 | n => n, fun | 3 => 3 | 39 => 110 | 53 => 149 | 55 => 33 | 4 => 4 | 5 => 5 | 9 => 9 | n => n, fun | n => n⟩
theorem powLay : Go.Proofs.SlLaysF0.n47 Tryz.prog powLay_ren := {
  mixed := by kernel_rfl
  f15 := Tryz.func68.trans (congrArg some (by kernel_rfl))
  f28 := Tryz.func102.trans (congrArg some (by kernel_rfl))
  f29 := Tryz.func103.trans (congrArg some (by kernel_rfl))
  f47 := Tryz.func120.trans (congrArg some (by kernel_rfl))
  t3 := Tryz.underlying3
  a3 := Tryz.isAgg3
  z3 := Tryz.sizeOf3
  v3 := Tryz.zeroValue3
  t4 := Tryz.underlying4
  a4 := Tryz.isAgg4
  z4 := Tryz.sizeOf4
  v4 := Tryz.zeroValue4
  t5 := Tryz.underlying5
  a5 := Tryz.isAgg5
  z5 := Tryz.sizeOf5
  v5 := Tryz.zeroValue5
  t9 := Tryz.underlying9
  a9 := Tryz.isAgg9
  z9 := Tryz.sizeOf9
  v9 := Tryz.zeroValue9
  t39 := Tryz.underlying110
  a39 := Tryz.isAgg110
  z39 := Tryz.sizeOf110
  v39 := Tryz.zeroValue110
  t53 := Tryz.underlying149
  a53 := Tryz.isAgg149
  z53 := Tryz.sizeOf149
  v53 := Tryz.zeroValue149
  t55 := Tryz.underlying33
  a55 := Tryz.isAgg33
  z55 := Tryz.sizeOf33
  v55 := Tryz.zeroValue33 }
theorem len_any (n : Nat) (hn : n < 4611686018427387904) (w : World) :
    Calls Tryz.prog 68 #[.int .u64 n] w fun e w' => e = .returned (.int .i64 (bitsLen n : Nat)) ∧ w' = w := by
  have h := Any.bits_Len lenLay (n : Int) w (by omega) (by omega)
  rwa [Int.toNat_natCast, bitLen_eq _ (by omega)] at h
theorem pow_any (n : Nat) (hn : n < 4611686018427387904) (w : World) :
    Calls Tryz.prog 120 #[.int .i64 n] w fun e w' => e = .returned (.int .u64 ((1 <<< bitsLen n : Nat) : Int)) ∧ w' = w :=
  AnyF.nextPowerOfTwo powLay n hn w
theorem xor_any (c X : Nat) (hX : X < 18446744073709551616) (w : World) (hc : w.cell? ⟨c, 0, none⟩ = some (.int .u64 X)) (hf : w.frozen? ⟨c, 0, none⟩ = false) :
    Calls Tryz.prog 121 #[.pointer (some ⟨c, 0, none⟩)] w fun e w' => e = .returned (.int .u64 (xorNextN X : Nat)) ∧ w' = (w.setCell ⟨c, 0, none⟩ (.int .u64 (xorNextN X : Nat))).drewN 3 :=
  AnyF.xorshift_Next xorLay c 0 X hX w hc hf
/-- With the random number's block. -/
structure Rnd (w0 w : World) (b off : Nat) (d : Array Int) (c X : Nat) : Prop where
  srt : Srt w0 w b off d
  new : w0.heap.size ≤ c
  fits : X < 18446744073709551616
  cell : w.cell? ⟨c, 0, none⟩ = some (.int .u64 (X : Int))
  free : w.frozen? ⟨c, 0, none⟩ = false
theorem Rnd.drewN {w0 w : World} {b off c X : Nat} {d : Array Int} (h : Rnd w0 w b off d c X) (n : Nat) : Rnd w0 (w.drewN n) b off d c X := ⟨h.srt.drewN n, h.new, h.fits, h.cell, h.free⟩
theorem Rnd.next {w0 w : World} {b off c X : Nat} {d : Array Int} (h : Rnd w0 w b off d c X) : Rnd w0 (w.setCell ⟨c, 0, none⟩ (.int .u64 (xorNextN X : Nat))) b off d c (xorNextN X) :=
  ⟨h.srt.store c 0 _ h.new, h.new, xorNextN_lt _ h.fits, World.cell?_setCell_same _ _ _ h.cell, by rw [World.frozen?_setCell]; exact h.free⟩
theorem Rnd.swapd {w0 w : World} {b off c X : Nat} {d : Array Int} (h : Rnd w0 w b off d c X) (i j : Nat) (hi : i < d.size) (hj : j < d.size) :
    Rnd w0 ((w.setCell ⟨b, off + i, none⟩ (.int .u64 d[j]!)).setCell ⟨b, off + j, none⟩ (.int .u64 d[i]!)).drew b off (swp d i j) c X := by
  have hne : c ≠ b := by have := h.srt.old; have := h.new; omega
  refine ⟨h.srt.swapd i j hi hj, h.new, h.fits, ?_, ?_⟩
  · show ((w.setCell ⟨b, off + i, none⟩ _).setCell ⟨b, off + j, none⟩ _).cell? _ = _
    rw [World.cell?_setCell_other _ _ _ _ (by intro e; simp only [Addr.mk.injEq] at e; exact hne e.1.symm), World.cell?_setCell_other _ _ _ _ (by intro e; simp only [Addr.mk.injEq] at e; exact hne e.1.symm)]
    exact h.cell
  · show ((w.setCell ⟨b, off + i, none⟩ _).setCell ⟨b, off + j, none⟩ _).frozen? _ = _
    rw [World.frozen?_setCell, World.frozen?_setCell]; exact h.free
set_option maxHeartbeats 16000000 in
set_option maxRecDepth 100000 in
theorem break_any {w0 w : World} {b off : Nat} {d : Array Int} (cap x l : Nat) (h : Srt w0 w b off d) (hl : 12 < l) (hy : x + l ≤ d.size) (hsz : d.size < 2305843009213693952) :
    Calls Tryz.prog 95 #[.slice (some ⟨b, off, none⟩) d.size cap, .int .i64 x, .int .i64 ((x : Int) + (l : Int))] w fun e w' => e = .returned (.tuple #[]) ∧ ∃ d', PermIn x (x + l) d d' ∧ Srt w0 w' b off d' := by
  have h0 : Rnd w0 (w.alloc (.cells #[.int .u64 (l : Int)] 160)) b off d w.heap.size l := ⟨h.alloc _, h.tread.size, by omega, by simp, by simp⟩
  have H0 := Lib.hid h0
  have hp := pow_any l (by omega) (w.alloc (.cells #[.int .u64 (l : Int)] 160))
  have hM2 := two_pow_bitsLen_le (n := l) (by omega)
  obtain ⟨M, hM⟩ : ∃ M, M = 1 <<< bitsLen l := ⟨_, rfl⟩
  rw [← hM] at hp
  have hM0 : 0 < M := by rw [hM, Nat.one_shiftLeft]; exact Nat.two_pow_pos _
  have hM3 : M ≤ 2 * l := by rw [hM, Nat.one_shiftLeft]; exact hM2
  have HP := Lib.hid hp
  clear h0 hp hM2 hM h
  go_enter Tryz.func95, Tryz.ntmps95
  go_wp2_with fail
  have e : (x : Int) + (l : Int) - (x : Int) = (l : Int) := by omega
  rw [e]
  clear e
  refine HP.out.mono ?_
  rintro e w1 ⟨rfl, rfl⟩
  clear HP
  go_wp2_with fail
  generalize w.alloc (.cells #[.int .u64 (l : Int)] 160) = wq at H0 ⊢
  obtain ⟨c, hc⟩ : ∃ c, c = w.heap.size := ⟨_, rfl⟩
  rw [← hc] at H0 ⊢
  clear hc
  obtain ⟨q, hq⟩ : ∃ q, q = x + l / 4 * 2 - 1 := ⟨_, rfl⟩
  have hq1 : x + 1 ≤ q := by omega
  have hq2 : q + 3 ≤ x + l := by omega
  have eq1 : (x : Int) + (l : Int) / 4 * 2 - 1 = (q : Int) := by omega
  have eq2 : (x : Int) + (l : Int) / 4 * 2 + 1 = (q : Int) + 2 := by omega
  have EQ2 := Lib.hid eq2
  rw [eq1]
  clear eq1 eq2 hq
  go_loopg [9, 10] 3 (fun g1 vi _ wr => ∃ (i X : Nat) (dk : Array Int), vi = .int .i64 (i : Int) ∧ q ≤ i ∧ i ≤ q + 3 ∧ q + 3 - i ≤ g1 ∧ Hid (Rnd w0 wr b off dk c X) ∧ Hid (PermIn x (x + l) d dk))
  case atStart => exact ⟨q, l, d, rfl, by omega, by omega, by omega, H0, Lib.hid (permIn_refl _ _ _)⟩
  case round =>
    clear H0
    obtain ⟨i, X, dk, rfl, hi, hi2, hg, HK, HP⟩ := hrel
    have hsk := HP.out.1
    by_cases hi3 : i < q + 3
    · have hr := xor_any c X HK.out.fits wr HK.out.cell HK.out.free
      have hk2 := HK.out.next.drewN 3
      obtain ⟨r, hrr⟩ : ∃ r, r = xorNextN X := ⟨_, rfl⟩
      rw [← hrr] at hr hk2
      generalize (wr.setCell ⟨c, 0, none⟩ (.int .u64 (r : Nat))).drewN 3 = wn at hr hk2
      have HR := Lib.hid hr
      have hb := bits_and_u64_nat r (M - 1) hk2.fits (by omega)
      have hb2 : ((M - 1 : Nat) : Int) = (M : Int) - 1 := by omega
      rw [hb2] at hb
      have ho : r &&& (M - 1) ≤ M - 1 := Nat.and_le_right
      obtain ⟨o, hoo⟩ : ∃ o, o = r &&& (M - 1) := ⟨_, rfl⟩
      rw [← hoo] at hb ho
      have HK2 := Lib.hid hk2
      clear hr hk2 hrr hoo HK hb2
      have hgd : (i : Int) ≤ (x : Int) + (l : Int) / 4 * 2 + 1 := by have := EQ2.out; omega
      go_wp2_with fail
      refine HR.out.mono ?_
      rintro e w1 ⟨rfl, rfl⟩
      clear HR
      have hfam := HK2.out.srt.fam
      obtain ⟨G, hG, hcw, hfw⟩ := hfam
      rw [hsk] at hcw hfw
      have HG := Lib.hid hG
      clear hG
      by_cases hol : o < l
      · obtain ⟨u, hu⟩ := HK2.out.srt.again i (x + o) (by omega) (by omega) (.int .u64 (G (x + o)))
        have hsw := HK2.out.swapd i (x + o) (by omega) (by omega)
        rw [← HG.out, ← HG.out] at hsw
        have HSW := Lib.hid hsw
        clear hsw
        go_wp2_with fail
        go_region
        all_goals go_wp2
        go_roundg (q + 3 - (i + 1))
        case measure => omega
        case rel => exact ⟨i + 1, r, _, by go_num, by omega, by omega, Nat.le_refl _, HSW, Lib.hid (permIn_trans _ _ _ _ _ HP.out (swp_permIn _ _ _ i (x + o) (by omega) (by omega) (by omega) (by omega) (by omega)))⟩
      · obtain ⟨p, rfl⟩ : ∃ p, o = l + p := ⟨o - l, by omega⟩
        obtain ⟨u, hu⟩ := HK2.out.srt.again i (x + p) (by omega) (by omega) (.int .u64 (G (x + p)))
        have hsw := HK2.out.swapd i (x + p) (by omega) (by omega)
        rw [← HG.out, ← HG.out] at hsw
        have HSW := Lib.hid hsw
        clear hsw
        go_wp2_with fail
        have ep : (l : Int) + (p : Int) - (l : Int) = (p : Int) := by omega
        rw [ep]
        clear ep
        go_region
        all_goals go_wp2
        go_roundg (q + 3 - (i + 1))
        case measure => omega
        case rel => exact ⟨i + 1, r, _, by go_num, by omega, by omega, Nat.le_refl _, HSW, Lib.hid (permIn_trans _ _ _ _ _ HP.out (swp_permIn _ _ _ i (x + p) (by omega) (by omega) (by omega) (by omega) (by omega)))⟩
    · have hgd : decide ((i : Int) ≤ (x : Int) + (l : Int) / 4 * 2 + 1) = false := decide_eq_false (by have := EQ2.out; omega)
      go_wp2
      go_end0
      exact ⟨rfl, dk, HP.out, HK.out.srt⟩
end Go.Proofs.YtaoneiicoaiehaaGreat.Ln11
namespace Go.Proofs.YtaoneiicoaiehaaGreat.Sk11
open Go Go.RowKit Go.Lib Go.Sort Go.Proofs.YtaoneiicoaiehaaGreat.Dh Go.Proofs.YtaoneiicoaiehaaGreat.Sx11
theorem up_go {p : Int → Bool} {d : Array Int} {j i : Nat} (h : i ≤ j) (hp : p d[i]! = true) : scanUp p d j i = scanUp p d j (i + 1) := by
  rw [scanUp.eq_1 p d j i, if_pos (by rw [hp]; simpa using h)]
theorem up_stop {p : Int → Bool} {d : Array Int} {j i : Nat} (h : ¬ i ≤ j ∨ p d[i]! = false) : scanUp p d j i = i := by
  rw [scanUp.eq_1 p d j i, if_neg]
  rcases h with h | h
  · simp only [Bool.and_eq_true, decide_eq_true_eq]; omega
  · rw [h]; simp
theorem down_go {p : Int → Bool} {d : Array Int} {i j : Nat} (h : i ≤ j) (h0 : 0 < j) (hp : p d[j]! = true) : scanDown p d i j = scanDown p d i (j - 1) := by
  cases j with
  | zero => omega
  | succ j => rw [scanDown, if_pos (by rw [hp]; simpa using h)]; rfl
theorem down_stop {p : Int → Bool} {d : Array Int} {i j : Nat} (h : ¬ i ≤ j ∨ p d[j]! = false) : scanDown p d i j = j := by
  cases j with
  | zero => rfl
  | succ j =>
    rw [scanDown, if_neg]
    rcases h with h | h
    · simp only [Bool.and_eq_true, decide_eq_true_eq]; omega
    · rw [h]; simp
theorem pl_out {x i j i1 j1 : Nat} {dk : Array Int} (hI : i1 = scanUp (fun z => ltInt z dk[x]!) dk j i) (hJ : j1 = scanDown (fun z => !ltInt z dk[x]!) dk i1 j) (h : i1 > j1) : partLoop ltInt x i j dk = (j1, dk) := by
  rw [partLoop_eq, ← hI, ← hJ, if_pos h]
theorem pl_go {x i j i1 j1 : Nat} {dk : Array Int} (hI : i1 = scanUp (fun z => ltInt z dk[x]!) dk j i) (hJ : j1 = scanDown (fun z => !ltInt z dk[x]!) dk i1 j) (h : ¬ i1 > j1) : partLoop ltInt x i j dk = partLoop ltInt x (i1 + 1) (j1 - 1) (swp dk i1 j1) := by
  rw [partLoop_eq, ← hI, ← hJ, if_neg h]
theorem pe_out {x i j i1 j1 : Nat} {dk : Array Int} (hI : i1 = scanUp (fun z => !ltInt dk[x]! z) dk j i) (hJ : j1 = scanDown (fun z => ltInt dk[x]! z) dk i1 j) (h : i1 > j1) : partEqLoop ltInt x i j dk = (i1, dk) := by
  rw [partEqLoop_eq, ← hI, ← hJ, if_pos h]
theorem pe_go {x i j i1 j1 : Nat} {dk : Array Int} (hI : i1 = scanUp (fun z => !ltInt dk[x]! z) dk j i) (hJ : j1 = scanDown (fun z => ltInt dk[x]! z) dk i1 j) (h : ¬ i1 > j1) : partEqLoop ltInt x i j dk = partEqLoop ltInt x (i1 + 1) (j1 - 1) (swp dk i1 j1) := by
  rw [partEqLoop_eq, ← hI, ← hJ, if_neg h]
set_option maxHeartbeats 32000000 in
set_option maxRecDepth 100000 in
theorem part_any {w0 w : World} {b off : Nat} {d : Array Int} (cap x y m : Nat) (h : Srt w0 w b off d) (hxy : x < y) (hy : y ≤ d.size) (hm : x ≤ m) (hm2 : m < y) (hsz : d.size < 2305843009213693952) :
    Calls Tryz.prog 101 #[.slice (some ⟨b, off, none⟩) d.size cap, .int .i64 x, .int .i64 y, .int .i64 m] w fun e w' =>
      ∃ k : Bool, e = .returned (.tuple #[.int .i64 (partition ltInt d x y m).1, .bool k]) ∧ Srt w0 w' b off (partition ltInt d x y m).2.2 := by
  obtain ⟨d1, hd1⟩ : ∃ d1, d1 = swp d x m := ⟨_, rfl⟩
  have hs1 : d1.size = d.size := by rw [hd1, size_swp]
  obtain ⟨G, hG, hcw, hfw⟩ := h.fam
  obtain ⟨u, hu⟩ := h.again x m (by omega) (by omega) (.int .u64 (G m))
  have hsw := h.swapd x m (by omega) (by omega)
  rw [← hG, ← hG, ← hd1] at hsw
  have hp1 := partition_fst (lt := ltInt) d x y m
  have hp2 := partition_arr (lt := ltInt) d x y m
  rw [← hd1] at hp1 hp2
  rw [hp1, hp2]
  obtain ⟨R, hR⟩ : ∃ R, R = partLoop ltInt x (x + 1) (y - 1) d1 := ⟨_, rfl⟩
  rw [← hR]
  have HSW := Lib.hid hsw
  have HP := Lib.hid hR.symm
  clear hsw hp1 hp2 hd1 hG hR
  go_enter Tryz.func101, Tryz.ntmps101
  go_wp2_with fail
  go_region
  all_goals go_wp2_with fail
  have HK := HSW
  clear HSW hcw hfw hu u
  generalize ((w.setCell ⟨b, off + x, none⟩ (.int .u64 (G m))).setCell ⟨b, off + m, none⟩ (.int .u64 (G x))).drew = ws at HK ⊢
  clear h
  obtain ⟨i, hi⟩ : ∃ i, i = x + 1 := ⟨_, rfl⟩
  obtain ⟨j, hj⟩ : ∃ j, j = y - 1 := ⟨_, rfl⟩
  have ei : (x : Int) + 1 = (i : Int) := by omega
  have ej : (y : Int) - 1 = (j : Int) := by omega
  rw [ei, ej]
  rw [← hi, ← hj] at HP
  have hxi : x < i := by omega
  have hij : i ≤ j + 1 := by omega
  have hjy : j < y := by omega
  clear ei ej hi hj
  obtain ⟨dk, hdk⟩ : ∃ dk, dk = d1 := ⟨_, rfl⟩
  rw [← hdk] at HK HP hs1
  have hsk := hs1
  clear hdk hs1 d1
  go_loopg [10] (j + 1 - i) (fun g1 vi wr => ∃ i1 : Nat, vi = .int .i64 i1 ∧ i ≤ i1 ∧ i1 ≤ j + 1 ∧ j + 1 - i1 ≤ g1 ∧ Hid (Srt w0 wr b off dk) ∧ Hid (scanUp (fun z => ltInt z dk[x]!) dk j i1 = scanUp (fun z => ltInt z dk[x]!) dk j i))
  case atStart => exact ⟨i, by first | rfl | go_num | (congr 1; omega), Nat.le_refl _, hij, Nat.le_refl _, HK, Lib.hid rfl⟩
  case round =>
    clear HK
    obtain ⟨i1, rfl, hi1, hi2, hg1, HK, HU⟩ := hrel
    by_cases hle : i1 ≤ j
    · have hlez : (i1 : Int) ≤ (j : Int) := by omega
      obtain ⟨G, hG, hcw, hfw⟩ := HK.out.fam
      rw [hsk] at hcw hfw
      have HG := Lib.hid hG
      clear hG
      cases hl : ltInt (G i1) (G x) with
      | true =>
        go_wp2
        go_quiet (first | (go_at_call 99; refine Calls.quiet_of_same (less_any _ _ _)))
        go_wp2
        go_roundg (j + 1 - (i1 + 1))
        case measure => omega
        case rel => exact ⟨i1 + 1, by go_num, by omega, by omega, Nat.le_refl _, Lib.hid (HK.out.drewN _), Lib.hid (by rw [← HU.out]; exact (up_go (p := (fun z => ltInt z dk[x]!)) hle (by rw [← HG.out, ← HG.out]; exact hl)).symm)⟩
      | false =>
        have HI := Lib.hid ((up_stop (p := (fun z => ltInt z dk[x]!)) (d := dk) (j := j) (i := i1) (.inr (by rw [← HG.out, ← HG.out]; exact hl))).symm.trans HU.out)
        have HLU := Lib.hid (show ltInt dk[i1]! dk[x]! = false from by rw [← HG.out, ← HG.out]; exact hl)
        go_wp2
        go_quiet (first | (go_at_call 99; refine Calls.quiet_of_same (less_any _ _ _)))
        have HK2 := Lib.hid (HK.out.drewN nq)
        clear HK hcw hfw HG HU hl
        generalize wr.drewN nq = wa at HK2 ⊢
        clear nq
        have HK := HK2
        clear HK2
        go_wp2
        go_loopg [11] j (fun g2 vj wr2 => ∃ j1 : Nat, vj = .int .i64 j1 ∧ j1 ≤ j ∧ i1 ≤ j1 + 1 ∧ j1 ≤ g2 ∧ Hid (Srt w0 wr2 b off dk) ∧ Hid (scanDown (fun z => !ltInt z dk[x]!) dk i1 j1 = scanDown (fun z => !ltInt z dk[x]!) dk i1 j))
        case atStart => exact ⟨j, rfl, Nat.le_refl _, hi2, Nat.le_refl _, HK, Lib.hid rfl⟩
        case round =>
          clear HK
          obtain ⟨j1, rfl, hj1, hj2, hg2, HK, HD⟩ := hrel
          by_cases hle2 : i1 ≤ j1
          · have hlez2 : (i1 : Int) ≤ (j1 : Int) := by omega
            obtain ⟨G, hG, hcw, hfw⟩ := HK.out.fam
            rw [hsk] at hcw hfw
            have HG := Lib.hid hG
            clear hG
            cases hl : ltInt (G j1) (G x) with
            | false =>
              go_wp2
              go_quiet (first | (go_at_call 99; refine Calls.quiet_of_same (less_any _ _ _)))
              go_wp2
              go_roundg (j1 - 1)
              case measure => omega
              case rel => exact ⟨j1 - 1, by first | rfl | go_num | (congr 1; omega), by omega, by omega, Nat.le_refl _, Lib.hid (HK.out.drewN _), Lib.hid (by rw [← HD.out]; exact (down_go (p := (fun z => !ltInt z dk[x]!)) (d := dk) (i := i1) (j := j1) hle2 (by omega) (by rw [← HG.out, ← HG.out, hl]; rfl)).symm)⟩
            | true =>
              have HJ := Lib.hid ((down_stop (p := (fun z => !ltInt z dk[x]!)) (d := dk) (i := i1) (j := j1) (.inr (by rw [← HG.out, ← HG.out, hl]; rfl))).symm.trans HD.out)
              have HLD := Lib.hid (show ltInt dk[j1]! dk[x]! = true from by rw [← HG.out, ← HG.out]; exact hl)
              go_wp2
              go_quiet (first | (go_at_call 99; refine Calls.quiet_of_same (less_any _ _ _)))
              have HK3 := Lib.hid (HK.out.drewN nq)
              clear HK hcw hfw HG HD hl
              generalize wr.drewN nq = wb at HK3 ⊢
              clear nq
              have hne : i1 ≠ j1 := fun e => by have h1 := HLU.out; have h2 := HLD.out; rw [e] at h1; rw [h1] at h2; cases h2
              obtain ⟨G, hG, hcw, hfw⟩ := HK3.out.fam
              rw [hsk] at hcw hfw
              obtain ⟨u, hu⟩ := HK3.out.again i1 j1 (by omega) (by omega) (.int .u64 (G j1))
              have hsw := HK3.out.swapd i1 j1 (by omega) (by omega)
              rw [← hG, ← hG] at hsw
              have HSW := Lib.hid hsw
              clear hsw hG
              have hngz : ¬ (i1 : Int) > (j1 : Int) := by omega
              have HP2 := Lib.hid (show partLoop ltInt x (i1 + 1) (j1 - 1) (swp dk i1 j1) = R from by rw [← HP.out]; exact (pl_go HI.out HJ.out (by omega)).symm)
              go_wp2_with fail
              go_region
              all_goals go_wp2
              clear HK3 hcw hfw hu HI HJ HLU HLD HP
              go_loopg [10, 11] (j1 - 1 + 1 - (i1 + 1)) (fun g1 vi vj wr => ∃ (i j : Nat) (dk : Array Int), vi = .int .i64 i ∧ vj = .int .i64 j ∧ x < i ∧ i ≤ j + 1 ∧ j < y ∧ j + 1 - i ≤ g1 ∧ dk.size = d.size ∧ Hid (Srt w0 wr b off dk) ∧ Hid (partLoop ltInt x i j dk = R))
              case atStart => exact ⟨i1 + 1, j1 - 1, swp dk i1 j1, by go_num, by first | rfl | go_num | (congr 1; omega), by omega, by omega, by omega, Nat.le_refl _, by rw [size_swp]; exact hsk, HSW, HP2⟩
              case round =>
                clear HSW HP2 hsk
                clear hne hngz hle hle2 hlez hlez2 hi1 hi2 hj1 hj2 hxi hij hjy
                obtain ⟨i, j, dk, rfl, rfl, hxi, hij, hjy, hgo, hsk, HK, HP⟩ := hrel
                go_wp2
                go_loopg [10] (j + 1 - i) (fun g1 vi wr => ∃ i1 : Nat, vi = .int .i64 i1 ∧ i ≤ i1 ∧ i1 ≤ j + 1 ∧ j + 1 - i1 ≤ g1 ∧ Hid (Srt w0 wr b off dk) ∧ Hid (scanUp (fun z => ltInt z dk[x]!) dk j i1 = scanUp (fun z => ltInt z dk[x]!) dk j i))
                case atStart => exact ⟨i, by first | rfl | go_num | (congr 1; omega), Nat.le_refl _, hij, Nat.le_refl _, HK, Lib.hid rfl⟩
                case round =>
                  clear HK
                  obtain ⟨i1, rfl, hi1, hi2, hg1, HK, HU⟩ := hrel
                  by_cases hle : i1 ≤ j
                  · have hlez : (i1 : Int) ≤ (j : Int) := by omega
                    obtain ⟨G, hG, hcw, hfw⟩ := HK.out.fam
                    rw [hsk] at hcw hfw
                    have HG := Lib.hid hG
                    clear hG
                    cases hl : ltInt (G i1) (G x) with
                    | true =>
                      go_wp2
                      go_quiet (first | (go_at_call 99; refine Calls.quiet_of_same (less_any _ _ _)))
                      go_wp2
                      go_roundg (j + 1 - (i1 + 1))
                      case measure => omega
                      case rel => exact ⟨i1 + 1, by go_num, by omega, by omega, Nat.le_refl _, Lib.hid (HK.out.drewN _), Lib.hid (by rw [← HU.out]; exact (up_go (p := (fun z => ltInt z dk[x]!)) hle (by rw [← HG.out, ← HG.out]; exact hl)).symm)⟩
                    | false =>
                      have HI := Lib.hid ((up_stop (p := (fun z => ltInt z dk[x]!)) (d := dk) (j := j) (i := i1) (.inr (by rw [← HG.out, ← HG.out]; exact hl))).symm.trans HU.out)
                      have HLU := Lib.hid (show ltInt dk[i1]! dk[x]! = false from by rw [← HG.out, ← HG.out]; exact hl)
                      go_wp2
                      go_quiet (first | (go_at_call 99; refine Calls.quiet_of_same (less_any _ _ _)))
                      have HK2 := Lib.hid (HK.out.drewN nq)
                      clear HK hcw hfw HG HU hl
                      generalize wr.drewN nq = wa at HK2 ⊢
                      clear nq
                      have HK := HK2
                      clear HK2
                      go_wp2
                      go_loopg [11] j (fun g2 vj wr2 => ∃ j1 : Nat, vj = .int .i64 j1 ∧ j1 ≤ j ∧ i1 ≤ j1 + 1 ∧ j1 ≤ g2 ∧ Hid (Srt w0 wr2 b off dk) ∧ Hid (scanDown (fun z => !ltInt z dk[x]!) dk i1 j1 = scanDown (fun z => !ltInt z dk[x]!) dk i1 j))
                      case atStart => exact ⟨j, rfl, Nat.le_refl _, hi2, Nat.le_refl _, HK, Lib.hid rfl⟩
                      case round =>
                        clear HK
                        obtain ⟨j1, rfl, hj1, hj2, hg2, HK, HD⟩ := hrel
                        by_cases hle2 : i1 ≤ j1
                        · have hlez2 : (i1 : Int) ≤ (j1 : Int) := by omega
                          obtain ⟨G, hG, hcw, hfw⟩ := HK.out.fam
                          rw [hsk] at hcw hfw
                          have HG := Lib.hid hG
                          clear hG
                          cases hl : ltInt (G j1) (G x) with
                          | false =>
                            go_wp2
                            go_quiet (first | (go_at_call 99; refine Calls.quiet_of_same (less_any _ _ _)))
                            go_wp2
                            go_roundg (j1 - 1)
                            case measure => omega
                            case rel => exact ⟨j1 - 1, by first | rfl | go_num | (congr 1; omega), by omega, by omega, Nat.le_refl _, Lib.hid (HK.out.drewN _), Lib.hid (by rw [← HD.out]; exact (down_go (p := (fun z => !ltInt z dk[x]!)) (d := dk) (i := i1) (j := j1) hle2 (by omega) (by rw [← HG.out, ← HG.out, hl]; rfl)).symm)⟩
                          | true =>
                            have HJ := Lib.hid ((down_stop (p := (fun z => !ltInt z dk[x]!)) (d := dk) (i := i1) (j := j1) (.inr (by rw [← HG.out, ← HG.out, hl]; rfl))).symm.trans HD.out)
                            have HLD := Lib.hid (show ltInt dk[j1]! dk[x]! = true from by rw [← HG.out, ← HG.out]; exact hl)
                            go_wp2
                            go_quiet (first | (go_at_call 99; refine Calls.quiet_of_same (less_any _ _ _)))
                            have HK3 := Lib.hid (HK.out.drewN nq)
                            clear HK hcw hfw HG HD hl
                            generalize wr.drewN nq = wb at HK3 ⊢
                            clear nq
                            have hne : i1 ≠ j1 := fun e => by have h1 := HLU.out; have h2 := HLD.out; rw [e] at h1; rw [h1] at h2; cases h2
                            obtain ⟨G, hG, hcw, hfw⟩ := HK3.out.fam
                            rw [hsk] at hcw hfw
                            obtain ⟨u, hu⟩ := HK3.out.again i1 j1 (by omega) (by omega) (.int .u64 (G j1))
                            have hsw := HK3.out.swapd i1 j1 (by omega) (by omega)
                            rw [← hG, ← hG] at hsw
                            have HSW := Lib.hid hsw
                            clear hsw hG
                            have hngz : ¬ (i1 : Int) > (j1 : Int) := by omega
                            have HP2 := Lib.hid (show partLoop ltInt x (i1 + 1) (j1 - 1) (swp dk i1 j1) = R from by rw [← HP.out]; exact (pl_go HI.out HJ.out (by omega)).symm)
                            go_wp2_with fail
                            go_region
                            all_goals go_wp2
                            go_roundg (j1 - 1 + 1 - (i1 + 1))
                            case measure => omega
                            case rel => exact ⟨i1 + 1, j1 - 1, swp dk i1 j1, by go_num, by first | rfl | go_num | (congr 1; omega), by omega, by omega, by omega, by omega, by rw [size_swp]; exact hsk, HSW, HP2⟩
                        · have hlez2 : decide ((i1 : Int) ≤ (j1 : Int)) = false := decide_eq_false (by omega)
                          have hgtz : (i1 : Int) > (j1 : Int) := by omega
                          have HJ := Lib.hid ((down_stop (p := (fun z => !ltInt z dk[x]!)) (d := dk) (i := i1) (j := j1) (.inl hle2)).symm.trans HD.out)
                          go_wp2
                          go_quiet (first | (go_at_call 99; refine Calls.quiet_of_same (less_any _ _ _)))
                          have HK3 := Lib.hid (HK.out.drewN nq)
                          clear HK HD
                          generalize wr.drewN nq = wb at HK3 ⊢
                          clear nq
                          have HR := Lib.hid (show R = (j1, dk) from by rw [← HP.out]; exact pl_out HI.out HJ.out (by omega))
                          obtain ⟨G, hG, hcw, hfw⟩ := HK3.out.fam
                          rw [hsk] at hcw hfw
                          obtain ⟨u, hu⟩ := HK3.out.again j1 x (by omega) (by omega) (.int .u64 (G x))
                          have hsw := HK3.out.swapd j1 x (by omega) (by omega)
                          rw [← hG, ← hG] at hsw
                          have HSW := Lib.hid hsw
                          clear hsw hG
                          go_wp2_with fail
                          go_region
                          all_goals go_wp2_with fail
                          go_ret2
                          exact ⟨false, by rw [HR.out]; rfl, by rw [HR.out]; exact HSW.out⟩
                  · have hlez : decide ((i1 : Int) ≤ (j : Int)) = false := decide_eq_false (by omega)
                    have HI := Lib.hid ((up_stop (p := (fun z => ltInt z dk[x]!)) (d := dk) (j := j) (i := i1) (.inl hle)).symm.trans HU.out)
                    go_wp2
                    go_quiet (first | (go_at_call 99; refine Calls.quiet_of_same (less_any _ _ _)))
                    have HK2 := Lib.hid (HK.out.drewN nq)
                    clear HK HU
                    generalize wr.drewN nq = wa at HK2 ⊢
                    clear nq
                    have HK := HK2
                    clear HK2
                    go_wp2
                    go_loopg [11] 0 (fun g2 vj wr2 => vj = .int .i64 j ∧ Hid (Srt w0 wr2 b off dk))
                    case atStart => exact ⟨rfl, HK⟩
                    case round =>
                      clear HK
                      obtain ⟨rfl, HK⟩ := hrel
                      obtain ⟨j1, hj1⟩ : ∃ j1, j1 = j := ⟨_, rfl⟩
                      have hgtz : (i1 : Int) > (j : Int) := by omega
                      have HJ := Lib.hid (show j1 = scanDown (fun z => !ltInt z dk[x]!) dk i1 j from by rw [hj1]; exact (down_stop (p := (fun z => !ltInt z dk[x]!)) (.inl hle)).symm)
                      go_wp2
                      go_quiet (first | (go_at_call 99; refine Calls.quiet_of_same (less_any _ _ _)))
                      have HK3 := Lib.hid (HK.out.drewN nq)
                      clear HK
                      generalize wr.drewN nq = wb at HK3 ⊢
                      clear nq
                      obtain rfl := hj1
                      have HR := Lib.hid (show R = (j1, dk) from by rw [← HP.out]; exact pl_out HI.out HJ.out (by omega))
                      obtain ⟨G, hG, hcw, hfw⟩ := HK3.out.fam
                      rw [hsk] at hcw hfw
                      obtain ⟨u, hu⟩ := HK3.out.again j1 x (by omega) (by omega) (.int .u64 (G x))
                      have hsw := HK3.out.swapd j1 x (by omega) (by omega)
                      rw [← hG, ← hG] at hsw
                      have HSW := Lib.hid hsw
                      clear hsw hG
                      go_wp2_with fail
                      go_region
                      all_goals go_wp2_with fail
                      go_ret2
                      exact ⟨false, by rw [HR.out]; rfl, by rw [HR.out]; exact HSW.out⟩
          · have hlez2 : decide ((i1 : Int) ≤ (j1 : Int)) = false := decide_eq_false (by omega)
            have hgtz : (i1 : Int) > (j1 : Int) := by omega
            have HJ := Lib.hid ((down_stop (p := (fun z => !ltInt z dk[x]!)) (d := dk) (i := i1) (j := j1) (.inl hle2)).symm.trans HD.out)
            go_wp2
            go_quiet (first | (go_at_call 99; refine Calls.quiet_of_same (less_any _ _ _)))
            have HK3 := Lib.hid (HK.out.drewN nq)
            clear HK HD
            generalize wr.drewN nq = wb at HK3 ⊢
            clear nq
            have HR := Lib.hid (show R = (j1, dk) from by rw [← HP.out]; exact pl_out HI.out HJ.out (by omega))
            obtain ⟨G, hG, hcw, hfw⟩ := HK3.out.fam
            rw [hsk] at hcw hfw
            obtain ⟨u, hu⟩ := HK3.out.again j1 x (by omega) (by omega) (.int .u64 (G x))
            have hsw := HK3.out.swapd j1 x (by omega) (by omega)
            rw [← hG, ← hG] at hsw
            have HSW := Lib.hid hsw
            clear hsw hG
            go_wp2_with fail
            go_region
            all_goals go_wp2_with fail
            go_ret2
            exact ⟨true, by rw [HR.out]; rfl, by rw [HR.out]; exact HSW.out⟩
    · have hlez : decide ((i1 : Int) ≤ (j : Int)) = false := decide_eq_false (by omega)
      have HI := Lib.hid ((up_stop (p := (fun z => ltInt z dk[x]!)) (d := dk) (j := j) (i := i1) (.inl hle)).symm.trans HU.out)
      go_wp2
      go_quiet (first | (go_at_call 99; refine Calls.quiet_of_same (less_any _ _ _)))
      have HK2 := Lib.hid (HK.out.drewN nq)
      clear HK HU
      generalize wr.drewN nq = wa at HK2 ⊢
      clear nq
      have HK := HK2
      clear HK2
      go_wp2
      go_loopg [11] 0 (fun g2 vj wr2 => vj = .int .i64 j ∧ Hid (Srt w0 wr2 b off dk))
      case atStart => exact ⟨rfl, HK⟩
      case round =>
        clear HK
        obtain ⟨rfl, HK⟩ := hrel
        obtain ⟨j1, hj1⟩ : ∃ j1, j1 = j := ⟨_, rfl⟩
        have hgtz : (i1 : Int) > (j : Int) := by omega
        have HJ := Lib.hid (show j1 = scanDown (fun z => !ltInt z dk[x]!) dk i1 j from by rw [hj1]; exact (down_stop (p := (fun z => !ltInt z dk[x]!)) (.inl hle)).symm)
        go_wp2
        go_quiet (first | (go_at_call 99; refine Calls.quiet_of_same (less_any _ _ _)))
        have HK3 := Lib.hid (HK.out.drewN nq)
        clear HK
        generalize wr.drewN nq = wb at HK3 ⊢
        clear nq
        obtain rfl := hj1
        have HR := Lib.hid (show R = (j1, dk) from by rw [← HP.out]; exact pl_out HI.out HJ.out (by omega))
        obtain ⟨G, hG, hcw, hfw⟩ := HK3.out.fam
        rw [hsk] at hcw hfw
        obtain ⟨u, hu⟩ := HK3.out.again j1 x (by omega) (by omega) (.int .u64 (G x))
        have hsw := HK3.out.swapd j1 x (by omega) (by omega)
        rw [← hG, ← hG] at hsw
        have HSW := Lib.hid hsw
        clear hsw hG
        go_wp2_with fail
        go_region
        all_goals go_wp2_with fail
        go_ret2
        exact ⟨true, by rw [HR.out]; rfl, by rw [HR.out]; exact HSW.out⟩
end Go.Proofs.YtaoneiicoaiehaaGreat.Sk11
namespace Go.Proofs.YtaoneiicoaiehaaGreat.Se11
open Go Go.RowKit Go.Lib Go.Sort Go.Proofs.YtaoneiicoaiehaaGreat.Dh Go.Proofs.YtaoneiicoaiehaaGreat.Sx11 Go.Proofs.YtaoneiicoaiehaaGreat.Sk11
set_option maxHeartbeats 32000000 in
set_option maxRecDepth 100000 in
theorem peq_any {w0 w : World} {b off : Nat} {d : Array Int} (cap x y m : Nat) (h : Srt w0 w b off d) (hxy : x < y) (hy : y ≤ d.size) (hm2 : m < y) (hsz : d.size < 2305843009213693952) :
    Calls Tryz.prog 100 #[.slice (some ⟨b, off, none⟩) d.size cap, .int .i64 x, .int .i64 y, .int .i64 m] w fun e w' =>
      e = .returned (.int .i64 (partitionEqual ltInt d x y m).1) ∧ Srt w0 w' b off (partitionEqual ltInt d x y m).2 := by
  obtain ⟨d1, hd1⟩ : ∃ d1, d1 = swp d x m := ⟨_, rfl⟩
  have hs1 : d1.size = d.size := by rw [hd1, size_swp]
  obtain ⟨G, hG, hcw, hfw⟩ := h.fam
  obtain ⟨u, hu⟩ := h.again x m (by omega) (by omega) (.int .u64 (G m))
  have hsw := h.swapd x m (by omega) (by omega)
  rw [← hG, ← hG, ← hd1] at hsw
  unfold partitionEqual
  rw [← hd1]
  obtain ⟨R, hR⟩ : ∃ R, R = partEqLoop ltInt x (x + 1) (y - 1) d1 := ⟨_, rfl⟩
  rw [← hR]
  have HSW := Lib.hid hsw
  have HP := Lib.hid hR.symm
  clear hsw hd1 hG hR
  go_enter Tryz.func100, Tryz.ntmps100
  go_wp2_with fail
  go_region
  all_goals go_wp2_with fail
  have HK := HSW
  clear HSW hcw hfw hu u
  generalize ((w.setCell ⟨b, off + x, none⟩ (.int .u64 (G m))).setCell ⟨b, off + m, none⟩ (.int .u64 (G x))).drew = ws at HK ⊢
  clear h
  obtain ⟨i, hi⟩ : ∃ i, i = x + 1 := ⟨_, rfl⟩
  obtain ⟨j, hj⟩ : ∃ j, j = y - 1 := ⟨_, rfl⟩
  have ei : (x : Int) + 1 = (i : Int) := by omega
  have ej : (y : Int) - 1 = (j : Int) := by omega
  rw [ei, ej]
  rw [← hi, ← hj] at HP
  have hxi : x < i := by omega
  have hij : i ≤ j + 1 := by omega
  have hjy : j < y := by omega
  clear ei ej hi hj
  obtain ⟨dk, hdk⟩ : ∃ dk, dk = d1 := ⟨_, rfl⟩
  rw [← hdk] at HK HP hs1
  have hsk := hs1
  clear hdk hs1 d1
  go_loopg [9, 10] (j + 1 - i) (fun g1 vi vj wr => ∃ (i j : Nat) (dk : Array Int), vi = .int .i64 i ∧ vj = .int .i64 j ∧ x < i ∧ i ≤ j + 1 ∧ j < y ∧ j + 1 - i ≤ g1 ∧ dk.size = d.size ∧ Hid (Srt w0 wr b off dk) ∧ Hid (partEqLoop ltInt x i j dk = R))
  case atStart => exact ⟨i, j, dk, rfl, rfl, hxi, hij, hjy, Nat.le_refl _, hsk, HK, HP⟩
  case round =>
    clear HK HP hxi hij hjy hsk
    obtain ⟨i, j, dk, rfl, rfl, hxi, hij, hjy, hgo, hsk, HK, HP⟩ := hrel
    go_wp2
    go_loopg [9] (j + 1 - i) (fun g1 vi wr => ∃ i1 : Nat, vi = .int .i64 i1 ∧ i ≤ i1 ∧ i1 ≤ j + 1 ∧ j + 1 - i1 ≤ g1 ∧ Hid (Srt w0 wr b off dk) ∧ Hid (scanUp (fun z => !ltInt dk[x]! z) dk j i1 = scanUp (fun z => !ltInt dk[x]! z) dk j i))
    case atStart => exact ⟨i, by first | rfl | go_num | (congr 1; omega), Nat.le_refl _, hij, Nat.le_refl _, HK, Lib.hid rfl⟩
    case round =>
      clear HK
      obtain ⟨i1, rfl, hi1, hi2, hg1, HK, HU⟩ := hrel
      by_cases hle : i1 ≤ j
      · have hlez : (i1 : Int) ≤ (j : Int) := by omega
        obtain ⟨G, hG, hcw, hfw⟩ := HK.out.fam
        rw [hsk] at hcw hfw
        have HG := Lib.hid hG
        clear hG
        cases hl : ltInt (G x) (G i1) with
        | false =>
          go_wp2
          go_quiet (first | (go_at_call 99; refine Calls.quiet_of_same (less_any _ _ _)))
          go_wp2
          go_roundg (j + 1 - (i1 + 1))
          case measure => omega
          case rel => exact ⟨i1 + 1, by go_num, by omega, by omega, Nat.le_refl _, Lib.hid (HK.out.drewN _), Lib.hid (by rw [← HU.out]; exact (up_go (p := (fun z => !ltInt dk[x]! z)) hle (by rw [← HG.out, ← HG.out, hl]; rfl)).symm)⟩
        | true =>
          have HI := Lib.hid ((up_stop (p := (fun z => !ltInt dk[x]! z)) (d := dk) (j := j) (i := i1) (.inr (by rw [← HG.out, ← HG.out, hl]; rfl))).symm.trans HU.out)
          have HLU := Lib.hid (show ltInt dk[x]! dk[i1]! = true from by rw [← HG.out, ← HG.out]; exact hl)
          go_wp2
          go_quiet (first | (go_at_call 99; refine Calls.quiet_of_same (less_any _ _ _)))
          have HK2 := Lib.hid (HK.out.drewN nq)
          clear HK hcw hfw HG HU hl
          generalize wr.drewN nq = wa at HK2 ⊢
          clear nq
          have HK := HK2
          clear HK2
          go_wp2
          go_loopg [10] j (fun g2 vj wr2 => ∃ j1 : Nat, vj = .int .i64 j1 ∧ j1 ≤ j ∧ i1 ≤ j1 + 1 ∧ j1 ≤ g2 ∧ Hid (Srt w0 wr2 b off dk) ∧ Hid (scanDown (fun z => ltInt dk[x]! z) dk i1 j1 = scanDown (fun z => ltInt dk[x]! z) dk i1 j))
          case atStart => exact ⟨j, rfl, Nat.le_refl _, hi2, Nat.le_refl _, HK, Lib.hid rfl⟩
          case round =>
            clear HK
            obtain ⟨j1, rfl, hj1, hj2, hg2, HK, HD⟩ := hrel
            by_cases hle2 : i1 ≤ j1
            · have hlez2 : (i1 : Int) ≤ (j1 : Int) := by omega
              obtain ⟨G, hG, hcw, hfw⟩ := HK.out.fam
              rw [hsk] at hcw hfw
              have HG := Lib.hid hG
              clear hG
              cases hl : ltInt (G x) (G j1) with
              | true =>
                go_wp2
                go_quiet (first | (go_at_call 99; refine Calls.quiet_of_same (less_any _ _ _)))
                go_wp2
                go_roundg (j1 - 1)
                case measure => omega
                case rel => exact ⟨j1 - 1, by first | rfl | go_num | (congr 1; omega), by omega, by omega, Nat.le_refl _, Lib.hid (HK.out.drewN _), Lib.hid (by rw [← HD.out]; exact (down_go (p := (fun z => ltInt dk[x]! z)) (d := dk) (i := i1) (j := j1) hle2 (by omega) (by rw [← HG.out, ← HG.out]; exact hl)).symm)⟩
              | false =>
                have HJ := Lib.hid ((down_stop (p := (fun z => ltInt dk[x]! z)) (d := dk) (i := i1) (j := j1) (.inr (by rw [← HG.out, ← HG.out]; exact hl))).symm.trans HD.out)
                have HLD := Lib.hid (show ltInt dk[x]! dk[j1]! = false from by rw [← HG.out, ← HG.out]; exact hl)
                go_wp2
                go_quiet (first | (go_at_call 99; refine Calls.quiet_of_same (less_any _ _ _)))
                have HK3 := Lib.hid (HK.out.drewN nq)
                clear HK hcw hfw HG HD hl
                generalize wr.drewN nq = wb at HK3 ⊢
                clear nq
                have hne : i1 ≠ j1 := fun e => by have h1 := HLU.out; have h2 := HLD.out; rw [e] at h1; rw [h1] at h2; cases h2
                obtain ⟨G, hG, hcw, hfw⟩ := HK3.out.fam
                rw [hsk] at hcw hfw
                obtain ⟨u, hu⟩ := HK3.out.again i1 j1 (by omega) (by omega) (.int .u64 (G j1))
                have hsw := HK3.out.swapd i1 j1 (by omega) (by omega)
                rw [← hG, ← hG] at hsw
                have HSW := Lib.hid hsw
                clear hsw hG
                have hngz : ¬ (i1 : Int) > (j1 : Int) := by omega
                have HP2 := Lib.hid (show partEqLoop ltInt x (i1 + 1) (j1 - 1) (swp dk i1 j1) = R from by rw [← HP.out]; exact (pe_go HI.out HJ.out (by omega)).symm)
                go_wp2_with fail
                go_region
                all_goals go_wp2
                go_roundg (j1 - 1 + 1 - (i1 + 1))
                case measure => omega
                case rel => exact ⟨i1 + 1, j1 - 1, swp dk i1 j1, by go_num, by first | rfl | go_num | (congr 1; omega), by omega, by omega, by omega, by omega, by rw [size_swp]; exact hsk, HSW, HP2⟩
            · have hlez2 : decide ((i1 : Int) ≤ (j1 : Int)) = false := decide_eq_false (by omega)
              have hgtz : (i1 : Int) > (j1 : Int) := by omega
              have HJ := Lib.hid ((down_stop (p := (fun z => ltInt dk[x]! z)) (d := dk) (i := i1) (j := j1) (.inl hle2)).symm.trans HD.out)
              go_wp2
              go_quiet (first | (go_at_call 99; refine Calls.quiet_of_same (less_any _ _ _)))
              have HK3 := Lib.hid (HK.out.drewN nq)
              clear HK HD
              generalize wr.drewN nq = wb at HK3 ⊢
              clear nq
              have HR := Lib.hid (show R = (i1, dk) from by rw [← HP.out]; exact pe_out HI.out HJ.out (by omega))
              go_wp2
              go_ret
              exact ⟨by rw [HR.out]; rfl, by rw [HR.out]; exact HK3.out⟩
      · have hlez : decide ((i1 : Int) ≤ (j : Int)) = false := decide_eq_false (by omega)
        have HI := Lib.hid ((up_stop (p := (fun z => !ltInt dk[x]! z)) (d := dk) (j := j) (i := i1) (.inl hle)).symm.trans HU.out)
        go_wp2
        go_quiet (first | (go_at_call 99; refine Calls.quiet_of_same (less_any _ _ _)))
        have HK2 := Lib.hid (HK.out.drewN nq)
        clear HK HU
        generalize wr.drewN nq = wa at HK2 ⊢
        clear nq
        have HK := HK2
        clear HK2
        go_wp2
        go_loopg [10] 0 (fun g2 vj wr2 => vj = .int .i64 j ∧ Hid (Srt w0 wr2 b off dk))
        case atStart => exact ⟨rfl, HK⟩
        case round =>
          clear HK
          obtain ⟨rfl, HK⟩ := hrel
          obtain ⟨j1, hj1⟩ : ∃ j1, j1 = j := ⟨_, rfl⟩
          have hgtz : (i1 : Int) > (j : Int) := by omega
          have HJ := Lib.hid (show j1 = scanDown (fun z => ltInt dk[x]! z) dk i1 j from by rw [hj1]; exact (down_stop (p := (fun z => ltInt dk[x]! z)) (.inl hle)).symm)
          go_wp2
          go_quiet (first | (go_at_call 99; refine Calls.quiet_of_same (less_any _ _ _)))
          have HK3 := Lib.hid (HK.out.drewN nq)
          clear HK
          generalize wr.drewN nq = wb at HK3 ⊢
          clear nq
          obtain rfl := hj1
          have HR := Lib.hid (show R = (i1, dk) from by rw [← HP.out]; exact pe_out HI.out HJ.out (by omega))
          go_wp2
          go_ret
          exact ⟨by rw [HR.out]; rfl, by rw [HR.out]; exact HK3.out⟩
end Go.Proofs.YtaoneiicoaiehaaGreat.Se11
namespace Go.Proofs.YtaoneiicoaiehaaGreat.Sq11
open Go Go.RowKit Go.Lib Go.Sort Go.Proofs.YtaoneiicoaiehaaGreat.Dh Go.Proofs.YtaoneiicoaiehaaGreat.Sx11
theorem scan_go {y i : Nat} {d : Array Int} (h : i < y) (hl : ltInt d[i]! d[i - 1]! = false) : scanSorted ltInt d y i = scanSorted ltInt d y (i + 1) := by
  rw [scanSorted.eq_1 ltInt d y i, if_pos (by rw [hl]; simpa using h)]
theorem scan_stop {y i : Nat} {d : Array Int} (h : ¬ i < y ∨ ltInt d[i]! d[i - 1]! = true) : scanSorted ltInt d y i = i := by
  rw [scanSorted.eq_1 ltInt d y i, if_neg]
  rcases h with h | h
  · simp only [Bool.and_eq_true, decide_eq_true_eq]; omega
  · rw [h]; simp
theorem down_stop {j : Nat} {d : Array Int} (h : j = 0 ∨ ltInt d[j]! d[j - 1]! = false) : shiftDown ltInt j d = d := by
  cases j with
  | zero => rfl
  | succ j =>
    rcases h with h | h
    · omega
    · rw [shiftDown, if_pos (by simp only [Nat.add_sub_cancel] at h; rw [h]; rfl)]
theorem down_go {j : Nat} {d : Array Int} (h0 : 0 < j) (h : ltInt d[j]! d[j - 1]! = true) : shiftDown ltInt j d = shiftDown ltInt (j - 1) (swp d j (j - 1)) := by
  cases j with
  | zero => omega
  | succ j => rw [shiftDown, if_neg (by simp only [Nat.add_sub_cancel] at h; rw [h]; simp)]; rfl
theorem up_stop {y j : Nat} {d : Array Int} (h : ¬ j < y ∨ ltInt d[j]! d[j - 1]! = false) : shiftUp ltInt y j d = d := by
  rw [shiftUp.eq_1 ltInt y j d]
  by_cases hj : j < y
  · rcases h with h | h
    · exact absurd hj h
    · rw [if_pos hj, if_pos (by rw [h]; rfl)]
  · rw [if_neg hj]
theorem up_go {y j : Nat} {d : Array Int} (hj : j < y) (h : ltInt d[j]! d[j - 1]! = true) : shiftUp ltInt y j d = shiftUp ltInt y (j + 1) (swp d j (j - 1)) := by
  rw [shiftUp.eq_1 ltInt y j d, if_pos hj, if_neg (by rw [h]; simp)]
theorem ins_done {x y s i : Nat} {d : Array Int} (h : scanSorted ltInt d y i = y) : partialIns ltInt x y (s + 1) i d = (d, true) := by
  rw [partialIns_succ, if_pos h]
theorem ins_short {x y s i : Nat} {d : Array Int} (h : scanSorted ltInt d y i ≠ y) (h5 : y - x < 50) : partialIns ltInt x y (s + 1) i d = (d, false) := by
  rw [partialIns_succ, if_neg h, if_pos h5]
theorem ins_go {x y s i i1 : Nat} {d : Array Int} (hi : scanSorted ltInt d y i = i1) (h : i1 ≠ y) (h5 : ¬ y - x < 50) :
    partialIns ltInt x y (s + 1) i d = partialIns ltInt x y s i1 (fixUp ltInt y i1 (fixDown ltInt x i1 (swp d i1 (i1 - 1)))) := by
  subst hi
  rw [partialIns_succ, if_neg h, if_neg h5]
theorem shiftDown_size : ∀ (j : Nat) (d : Array Int), (shiftDown ltInt j d).size = d.size
  | 0, _ => rfl
  | j + 1, d => by
    rw [shiftDown]
    split
    · rfl
    · rw [shiftDown_size j, size_swp]
theorem shiftUp_size (y : Nat) : ∀ (n j : Nat) (d : Array Int), y - j ≤ n → (shiftUp ltInt y j d).size = d.size
  | n, j, d, hn => by
    rw [shiftUp.eq_1 ltInt y j d]
    split
    · split
      · rfl
      · cases n with
        | zero => omega
        | succ n => rw [shiftUp_size y n _ _ (by omega), size_swp]
    · rfl
set_option maxHeartbeats 32000000 in
set_option maxRecDepth 100000 in
theorem pins_any {w0 w : World} {b off : Nat} {d : Array Int} (cap x y : Nat) (h : Srt w0 w b off d) (hxy : x < y) (hy : y ≤ d.size) (hsz : d.size < 2305843009213693952) :
    Calls Tryz.prog 98 #[.slice (some ⟨b, off, none⟩) d.size cap, .int .i64 x, .int .i64 y] w fun e w' =>
      e = .returned (.bool (partialInsertionSort ltInt d x y).2) ∧ Srt w0 w' b off (partialInsertionSort ltInt d x y).1 := by
  have HS := Lib.hid h
  clear h
  obtain ⟨R, hR⟩ : ∃ R, R = partialInsertionSort ltInt d x y := ⟨_, rfl⟩
  rw [← hR]
  have HR := Lib.hid hR.symm
  clear hR
  go_enter Tryz.func98, Tryz.ntmps98
  go_wp2
  go_loopg [7, 8] 5 (fun g1 vi vk wr => ∃ (s i : Nat) (dk : Array Int), vk = .int .i64 (5 - (s : Int)) ∧ vi = .int .i64 (i : Int) ∧ s ≤ 5 ∧ s ≤ g1 ∧ (x < i ∧ i ≤ y) ∧ dk.size = d.size ∧ Hid (Srt w0 wr b off dk) ∧ Hid (partialIns ltInt x y s i dk = R))
  case atStart => exact ⟨5, x + 1, d, rfl, by go_num, Nat.le_refl _, Nat.le_refl _, by omega, rfl, HS, HR⟩
  case round =>
    clear HS HR
    obtain ⟨s, i, dk, rfl, rfl, hs5, hsg, hiy, hsk, HK, HP⟩ := hrel
    by_cases hs0 : 0 < s
    · obtain ⟨s, rfl⟩ : ∃ q, s = q + 1 := ⟨s - 1, by omega⟩
      have hsz5 : (5 : Int) - ((s + 1 : Nat) : Int) < 5 := by omega
      go_wp2
      go_loopg [7] y (fun g2 vi wr2 => ∃ i1 : Nat, vi = .int .i64 (i1 : Int) ∧ i ≤ i1 ∧ i1 ≤ y ∧ y - i1 ≤ g2 ∧ Hid (Srt w0 wr2 b off dk) ∧ Hid (scanSorted ltInt dk y i1 = scanSorted ltInt dk y i))
      case atStart => exact ⟨i, rfl, Nat.le_refl _, by omega, by omega, HK, Lib.hid rfl⟩
      case round =>
        clear HK
        obtain ⟨i1, rfl, hi1, hi2, hg2, HK, HU⟩ := hrel
        by_cases hlt : i1 < y
        · have hltz : (i1 : Int) < (y : Int) := by omega
          obtain ⟨G, hG, hcw, hfw⟩ := HK.out.fam
          rw [hsk] at hcw hfw
          have HG := Lib.hid hG
          clear hG
          cases hl : ltInt (G i1) (G (i1 - 1)) with
          | false =>
            go_wp2
            go_quiet (first | (go_at_call 99; refine Calls.quiet_of_same (less_any _ _ _)))
            go_wp2
            go_roundg (y - (i1 + 1))
            case measure => omega
            case rel => exact ⟨i1 + 1, by go_num, by omega, by omega, Nat.le_refl _, Lib.hid (HK.out.drewN _), Lib.hid (by rw [← HU.out]; exact (scan_go hlt (by rw [← HG.out, ← HG.out]; exact hl)).symm)⟩
          | true =>
            have HI := Lib.hid (HU.out.symm.trans (scan_stop (d := dk) (y := y) (i := i1) (.inr (by rw [← HG.out, ← HG.out]; exact hl))))
            have hney : ¬ (i1 : Int) = (y : Int) := by omega
            go_wp2
            go_quiet (first | (go_at_call 99; refine Calls.quiet_of_same (less_any _ _ _)))
            have HK2 := Lib.hid (HK.out.drewN nq)
            clear HK hcw hfw HG HU hl
            generalize wr.drewN nq = wa at HK2 ⊢
            clear nq
            by_cases h50 : y - x < 50
            · have h50z : (y : Int) - (x : Int) < 50 := by omega
              have HE := Lib.hid (show R = (dk, false) from by rw [← HP.out]; exact ins_short (by rw [HI.out]; omega) h50)
              go_wp2
              go_ret
              exact ⟨by rw [HE.out]; rfl, by rw [HE.out]; exact HK2.out⟩
            · have h50z : ¬ (y : Int) - (x : Int) < 50 := by omega
              have HN := Lib.hid ((ins_go (x := x) (s := s) HI.out (by omega) h50).symm.trans HP.out)
              obtain ⟨G, hG, hcw, hfw⟩ := HK2.out.fam
              rw [hsk] at hcw hfw
              have hsw := HK2.out.swapd i1 (i1 - 1) (by omega) (by omega)
              rw [← hG, ← hG] at hsw
              have HS2 := Lib.hid hsw
              obtain ⟨d2, hd2⟩ : ∃ d2, d2 = swp dk i1 (i1 - 1) := ⟨_, rfl⟩
              have hs2 : d2.size = d.size := by rw [hd2, size_swp]; exact hsk
              rw [← hd2] at HS2 HN
              clear hsw hG hd2
              go_wp2_with fail
              go_region
              clear HK2 HI HP hcw hfw
              generalize ((wa.setCell ⟨b, off + i1, none⟩ (.int .u64 (G (i1 - 1)))).setCell ⟨b, off + (i1 - 1), none⟩ (.int .u64 (G i1))).drew = ws at HS2 ⊢
              go_upto_if 61 with fail
              go_cut [] from 58 to 94 (fun wc => Hid (Srt w0 wc b off (fixDown ltInt x i1 d2)))
              case first =>
                by_cases h2 : i1 - x ≥ 2
                · have h2z : (i1 : Int) - (x : Int) ≥ 2 := by omega
                  have HF := Lib.hid (show fixDown ltInt x i1 d2 = shiftDown ltInt (i1 - 1) d2 from by unfold fixDown; rw [if_pos h2])
                  go_wp2_with fail
                  go_loopg [9] i1 (fun g2 vj wr2 => ∃ (j : Nat) (dk : Array Int), vj = .int .i64 (j : Int) ∧ j < i1 ∧ j ≤ g2 ∧ dk.size = d.size ∧ Hid (Srt w0 wr2 b off dk) ∧ Hid (shiftDown ltInt j dk = fixDown ltInt x i1 d2))
                  case atStart => exact ⟨i1 - 1, d2, by first | rfl | go_num | (congr 1; omega), by omega, by omega, hs2, HS2, Lib.hid HF.out.symm⟩
                  case round =>
                    clear HF
                    obtain ⟨j, dk, rfl, hj1, hjg, hsk, HK, HO⟩ := hrel
                    by_cases hj0 : 1 ≤ j
                    · have hj0z : (j : Int) ≥ 1 := by omega
                      obtain ⟨G, hG, hcw, hfw⟩ := HK.out.fam
                      rw [hsk] at hcw hfw
                      have HG := Lib.hid hG
                      clear hG
                      cases hl : ltInt (G j) (G (j - 1)) with
                      | true =>
                        go_wp2
                        go_quiet (first | (go_at_call 99; refine Calls.quiet_of_same (less_any _ _ _)))
                        go_wp2
                        go_region
                        all_goals go_wp2
                        go_roundg (j - 1)
                        case measure => omega
                        case rel =>
                          refine ⟨j - 1, swp dk j (j - 1), by first | rfl | go_num | (congr 1; omega), by omega, Nat.le_refl _, by rw [size_swp]; exact hsk, ?_, Lib.hid (by rw [← HO.out]; exact (down_go hj0 (by rw [← HG.out, ← HG.out]; exact hl)).symm)⟩
                          rw [HG.out, HG.out]
                          exact Lib.hid ((HK.out.drewN _).swap j (j - 1) (by omega) (by omega))
                      | false =>
                        go_wp2
                        go_quiet (first | (go_at_call 99; refine Calls.quiet_of_same (less_any _ _ _)))
                        go_wp2
                        go_meet
                        case rel => exact Lib.hid (by rw [← HO.out, down_stop (.inr (by rw [← HG.out, ← HG.out]; exact hl))]; exact HK.out.drewN _)
                    · have hj0z : ¬ (j : Int) ≥ 1 := by omega
                      go_wp2
                      go_meet
                      case rel => exact Lib.hid (by rw [← HO.out, down_stop (.inl (by omega))]; exact HK.out)
                · have h2z : ¬ (i1 : Int) - (x : Int) ≥ 2 := by omega
                  go_wp2_with fail
                  go_meet
                  case rel => exact Lib.hid (by unfold fixDown; rw [if_neg h2]; exact HS2.out)
              case rest =>
                obtain ⟨d3, hd3⟩ : ∃ d3, d3 = fixDown ltInt x i1 d2 := ⟨_, rfl⟩
                have hs3 : d3.size = d.size := by rw [hd3]; unfold fixDown; split <;> first | exact hs2 | (rw [shiftDown_size]; exact hs2)
                rw [← hd3] at hcut HN
                have HS3 := hcut
                clear hcut hd3 HS2
                go_upto_if 98 with fail
                have hs4 : (fixUp ltInt y i1 d3).size = d.size := by unfold fixUp; split <;> first | exact hs3 | (rw [shiftUp_size _ _ _ _ (Nat.le_refl _)]; exact hs3)
                by_cases h2 : y - i1 ≥ 2
                · have h2z : (y : Int) - (i1 : Int) ≥ 2 := by omega
                  have HF := Lib.hid (show fixUp ltInt y i1 d3 = shiftUp ltInt y (i1 + 1) d3 from by unfold fixUp; rw [if_pos h2])
                  go_wp2_with fail
                  go_loopg [10] y (fun g2 vj wr2 => ∃ (j : Nat) (dk : Array Int), vj = .int .i64 (j : Int) ∧ i1 < j ∧ j ≤ y ∧ y - j ≤ g2 ∧ dk.size = d.size ∧ Hid (Srt w0 wr2 b off dk) ∧ Hid (shiftUp ltInt y j dk = fixUp ltInt y i1 d3))
                  case atStart => exact ⟨i1 + 1, d3, by first | rfl | go_num | (congr 1; omega), by omega, by omega, by omega, hs3, HS3, Lib.hid HF.out.symm⟩
                  case round =>
                    clear HF
                    obtain ⟨j, dk, rfl, hj1, hj2, hjg, hsk, HK, HO⟩ := hrel
                    by_cases hj0 : j < y
                    · have hj0z : (j : Int) < (y : Int) := by omega
                      obtain ⟨G, hG, hcw, hfw⟩ := HK.out.fam
                      rw [hsk] at hcw hfw
                      have HG := Lib.hid hG
                      clear hG
                      cases hl : ltInt (G j) (G (j - 1)) with
                      | true =>
                        go_wp2
                        go_quiet (first | (go_at_call 99; refine Calls.quiet_of_same (less_any _ _ _)))
                        go_wp2
                        go_region
                        all_goals go_wp2
                        go_roundg (y - (j + 1))
                        case measure => omega
                        case rel =>
                          refine ⟨j + 1, swp dk j (j - 1), by first | rfl | go_num | (congr 1; omega), by omega, by omega, Nat.le_refl _, by rw [size_swp]; exact hsk, ?_, Lib.hid (by rw [← HO.out]; exact (up_go hj0 (by rw [← HG.out, ← HG.out]; exact hl)).symm)⟩
                          rw [HG.out, HG.out]
                          exact Lib.hid ((HK.out.drewN _).swap j (j - 1) (by omega) (by omega))
                      | false =>
                        go_wp2
                        go_quiet (first | (go_at_call 99; refine Calls.quiet_of_same (less_any _ _ _)))
                        go_wp2
                        go_roundg s
                        case measure => omega
                        case rel => exact ⟨s, i1, _, by first | rfl | go_num | (congr 1; omega), rfl, by omega, by omega, by omega, hs4, Lib.hid (by rw [← HO.out, up_stop (.inr (by rw [← HG.out, ← HG.out]; exact hl))]; exact HK.out.drewN _), HN⟩
                    · have hj0z : ¬ (j : Int) < (y : Int) := by omega
                      go_wp2
                      go_roundg s
                      case measure => omega
                      case rel => exact ⟨s, i1, _, by first | rfl | go_num | (congr 1; omega), rfl, by omega, by omega, by omega, hs4, Lib.hid (by rw [← HO.out, up_stop (.inl hj0)]; exact HK.out), HN⟩
                · have h2z : ¬ (y : Int) - (i1 : Int) ≥ 2 := by omega
                  go_wp2
                  go_roundg s
                  case measure => omega
                  case rel => exact ⟨s, i1, _, by first | rfl | go_num | (congr 1; omega), rfl, by omega, by omega, by omega, hs4, Lib.hid (by unfold fixUp; rw [if_neg h2]; exact HS3.out), HN⟩
        · have hltz : decide ((i1 : Int) < (y : Int)) = false := decide_eq_false (by omega)
          obtain rfl : i1 = y := by omega
          have HI := Lib.hid (HU.out.symm.trans (scan_stop (d := dk) (y := i1) (i := i1) (.inl hlt)))
          have HE := Lib.hid (show R = (dk, true) from by rw [← HP.out]; exact ins_done HI.out)
          go_wp2
          go_quiet (first | (go_at_call 99; refine Calls.quiet_of_same (less_any _ _ _)))
          go_wp2
          go_ret
          exact ⟨by rw [HE.out]; rfl, by rw [HE.out]; exact HK.out.drewN _⟩
    · obtain rfl : s = 0 := by omega
      go_wp2
      go_ret
      exact ⟨by rw [← HP.out]; rfl, by rw [← HP.out]; exact HK.out⟩
end Go.Proofs.YtaoneiicoaiehaaGreat.Sq11
namespace Go.Proofs.YtaoneiicoaiehaaGreat.Sd11
open Go Go.RowKit Go.Lib Go.Sort Go.Proofs.YtaoneiicoaiehaaGreat.Dh Go.Proofs.YtaoneiicoaiehaaGreat.Sx11 Go.Proofs.YtaoneiicoaiehaaGreat.Si11 Go.Proofs.YtaoneiicoaiehaaGreat.Sr11 Go.Proofs.YtaoneiicoaiehaaGreat.Sm11 Go.Proofs.YtaoneiicoaiehaaGreat.Ln11 Go.Proofs.YtaoneiicoaiehaaGreat.Sq11 Go.Proofs.YtaoneiicoaiehaaGreat.Sk11 Go.Proofs.YtaoneiicoaiehaaGreat.Se11
set_option maxHeartbeats 64000000 in
set_option maxRecDepth 100000 in
theorem pdq_any (cap : Nat) {w0 : World} {b off : Nat} : ∀ (n : Nat) {w : World} {d : Array Int} (x y lim : Nat), y - x ≤ n → Srt w0 w b off d → x ≤ y → y ≤ d.size → lim ≤ 100 → d.size < 2305843009213693952 → Below ltInt x y d →
    Calls Tryz.prog 67 #[.slice (some ⟨b, off, none⟩) d.size cap, .int .i64 x, .int .i64 y, .int .i64 lim] w fun e w' => e = .returned (.tuple #[]) ∧ ∃ d', PermIn x y d d' ∧ SortedIn ltInt x y d' ∧ Srt w0 w' b off d' := by
    intro n
    induction n using Nat.strongRecOn with
    | ind n ih =>
    intro w d x y lim hn h hxy hy hlim hsz hB
    have HREC := Lib.hid ih
    clear ih
    have HS := Lib.hid h
    have HB := Lib.hid hB
    clear h hB
    go_enter Tryz.func67, Tryz.ntmps67
    go_wp2
    go_loopg [1, 2, 3, 8, 9] (y - x) (fun g1 va vc vl vb vp wr => ∃ (a c lm : Nat) (wb wp : Bool) (dk : Array Int), va = .int .i64 (a : Int) ∧ vc = .int .i64 (c : Int) ∧ vl = .int .i64 (lm : Int) ∧ vb = .bool wb ∧ vp = .bool wp ∧ x ≤ a ∧ a ≤ c ∧ c ≤ y ∧ c - a ≤ g1 ∧ c - a ≤ n ∧ lm ≤ 100 ∧ dk.size = d.size ∧ Hid (Srt w0 wr b off dk) ∧ Hid (Below ltInt a c dk) ∧ Hid (∀ R, PermIn a c dk R → SortedIn ltInt a c R → PermIn x y d R ∧ SortedIn ltInt x y R))
    case atStart => exact ⟨x, y, lim, true, true, d, rfl, rfl, rfl, rfl, rfl, Nat.le_refl _, hxy, Nat.le_refl _, Nat.le_refl _, hn, hlim, rfl, HS, HB, Lib.hid fun R h1 h2 => ⟨h1, h2⟩⟩
    case round =>
      clear HS HB hn
      obtain ⟨a, c, lm, wb, wp, dk, rfl, rfl, rfl, rfl, rfl, hxa, hac, hcy, hg1, hn, hlm, hsk, HK, HB, HF⟩ := hrel
      by_cases h12 : c - a ≤ 12
      · have h12z : (c : Int) - (a : Int) ≤ 12 := by omega
        have hc := ins_any cap a c HK.out hac (by omega) (by omega)
        rw [hsk] at hc
        have HC := Lib.hid hc
        have HI := Lib.hid (insertionSort_holds swo_ltInt dk a c hac (by omega))
        clear hc
        go_wp2_with fail
        refine HC.out.mono ?_
        rintro e w1 ⟨rfl, h1⟩
        have H1 := Lib.hid h1
        clear h1
        go_wp2
        (try simp only [Exit.inBlock, Exit.then]); refine bodyPost_ret (results_none rfl _ _ _) rfl ?_
        exact ⟨rfl, _, (HF.out _ HI.out.1 HI.out.2).1, (HF.out _ HI.out.1 HI.out.2).2, H1.out⟩
      · have h12z : ¬ (c : Int) - (a : Int) ≤ 12 := by omega
        by_cases hl0 : lm = 0
        · have hl0z : (lm : Int) = 0 := by omega
          have hc := heap_any cap a c HK.out (by omega) (by omega) (by omega)
          rw [hsk] at hc
          have HC := Lib.hid hc
          have HI := Lib.hid (heapSort_holds swo_ltInt dk a c hac (by omega))
          clear hc
          go_wp2_with fail
          refine HC.out.mono ?_
          rintro e w1 ⟨rfl, h1⟩
          have H1 := Lib.hid h1
          clear h1
          go_wp2
          (try simp only [Exit.inBlock, Exit.then]); refine bodyPost_ret (results_none rfl _ _ _) rfl ?_
          exact ⟨rfl, _, (HF.out _ HI.out.1 HI.out.2).1, (HF.out _ HI.out.1 HI.out.2).2, H1.out⟩
        · have hl0z : ¬ (lm : Int) = 0 := by omega
          go_upto_if 35 with fail
          go_cut [3] from 19 to 133 (fun s3 wc => ∃ (l2 : Nat) (d1 : Array Int), s3 = .int .i64 (l2 : Int) ∧ l2 ≤ 100 ∧ Hid (PermIn a c dk d1) ∧ Hid (Srt w0 wc b off d1))
          case first =>
            cases wb
            · have hc := break_any cap a (c - a) HK.out (by omega) (by omega) (by omega)
              have e1 : (a : Int) + ((c - a : Nat) : Int) = (c : Int) := by omega
              have e2 : a + (c - a) = c := by omega
              rw [hsk, e1, e2] at hc
              have HC := Lib.hid hc
              clear hc e1 e2
              go_wp2_with fail
              refine HC.out.mono ?_
              rintro e w1 ⟨rfl, d1, hp1, h1⟩
              have H1 := Lib.hid h1
              have HP1 := Lib.hid hp1
              clear h1 hp1
              go_wp2
              go_meet
              case rel => exact ⟨lm - 1, d1, by first | rfl | go_num | (congr 1; omega), by omega, HP1, H1⟩
            · go_wp2_with fail
              go_meet
              case rel => exact ⟨lm, dk, rfl, hlm, Lib.hid (permIn_refl _ _ _), HK⟩
          case rest =>
            obtain ⟨l2, d1, rfl, hl2, HP1, HK1⟩ := hcut
            clear HK hl0 hl0z hlm
            have hs1 : d1.size = d.size := HP1.out.1.trans hsk
            have hc := pick_any cap a c HK1.out (by omega) (by omega) (by omega)
            rw [hs1] at hc
            have HC := Lib.hid hc
            clear hc
            go_wp2_with fail
            refine HC.out.mono ?_
            rintro e w2 ⟨p, k, rfl, hp1, hp2, hk, h2⟩
            have HK2 := Lib.hid h2
            clear h2 HC HK1
            go_upto_if 50 with fail
            go_cut [11, 12] from 19 to 133 (fun s11 s12 wc => ∃ (p2 k2 : Nat) (d2 : Array Int), s11 = .int .i64 (p2 : Int) ∧ s12 = .int .i64 (k2 : Int) ∧ a ≤ p2 ∧ p2 < c ∧ Hid (PermIn a c dk d2) ∧ Hid (Srt w0 wc b off d2))
            case first =>
              by_cases hk2 : k = 2
              · subst hk2
                have hc := reverse_any cap a c HK2.out (by omega) (by omega) (by omega)
                rw [hs1] at hc
                have HC := Lib.hid hc
                clear hc
                go_wp2_with fail
                refine HC.out.mono ?_
                rintro e w3 ⟨rfl, d2, hp, h3⟩
                have H3 := Lib.hid h3
                have HP := Lib.hid hp
                clear h3 hp HC
                go_wp2
                go_meet
                case rel => exact ⟨c - 1 - (p - a), 1, d2, by first | rfl | go_num | (congr 1; omega), rfl, by omega, by omega, Lib.hid (permIn_trans _ _ _ _ _ HP1.out HP.out), H3⟩
              · have hkz : ¬ (k : Int) = 2 := by omega
                go_wp2_with fail
                go_meet
                case rel => exact ⟨p, k, d1, rfl, rfl, hp1, hp2, HP1, HK2⟩
            case rest =>
              obtain ⟨p2, k2, d2, rfl, rfl, hq1, hq2, HP2, HK3⟩ := hcut
              clear HK2 hp1 hp2 hk HP1 hs1
              have hs2 : d2.size = d.size := HP2.out.1.trans hsk
              go_upto_region 15 with fail
              go_cut [68] from 19 to 133 (fun s68 wx => (∃ q : Bool, s68 = .bool q) ∧ Hid (Srt w0 wx b off d2))
              case first =>
                by_cases hk1 : k2 = 1
                · subst hk1
                  cases wb <;> cases wp <;> (go_wp2_with fail; go_meet; case rel => exact ⟨⟨_, rfl⟩, HK3⟩)
                · have hkz : ¬ (k2 : Int) = 1 := by omega
                  cases wb <;> cases wp <;> (go_wp2_with fail; go_meet; case rel => exact ⟨⟨_, rfl⟩, HK3⟩)
              case rest =>
                obtain ⟨⟨q, rfl⟩, HKx⟩ := hcut
                clear HK3
                go_upto_if 68 with fail
                go_cut [] from 19 to 133 (fun wc => ∃ d3 : Array Int, Hid (PermIn a c dk d3) ∧ Hid (Srt w0 wc b off d3))
                case first =>
                  cases q
                  · go_wp2_with fail
                    go_meet
                    case rel => exact ⟨d2, HP2, HKx⟩
                  · have hc := pins_any cap a c HKx.out (by omega) (by omega) (by omega)
                    have hi := partialInsertionSort_holds swo_ltInt d2 a c (by omega) (by omega) (HB.out.perm (by omega) HP2.out)
                    rw [hs2] at hc
                    obtain ⟨R, hR⟩ : ∃ R, R = partialInsertionSort ltInt d2 a c := ⟨_, rfl⟩
                    rw [← hR] at hc hi
                    clear hR
                    obtain ⟨dr, br⟩ := R
                    have HC := Lib.hid hc
                    have HI := Lib.hid hi
                    clear hc hi
                    go_wp2_with fail
                    refine HC.out.mono ?_
                    rintro e w3 ⟨rfl, h3⟩
                    have H3 := Lib.hid h3
                    clear h3 HC
                    cases br
                    · go_wp2
                      go_meet
                      case rel => exact ⟨dr, Lib.hid (permIn_trans _ _ _ _ _ HP2.out HI.out.1), H3⟩
                    · go_wp2
                      (try simp only [Exit.inBlock, Exit.then]); refine bodyPost_ret (results_none rfl _ _ _) rfl ?_
                      have hi1 : PermIn a c d2 dr := HI.out.1
                      have hi2 : SortedIn ltInt a c dr := HI.out.2 (by first | trivial | rfl)
                      have hf := HF.out _ (permIn_trans _ _ _ _ _ HP2.out hi1) hi2
                      exact ⟨rfl, dr, hf.1, hf.2, H3.out⟩
                case rest =>
                  obtain ⟨d3, HP3, HK3⟩ := hcut
                  clear HKx HP2 hs2
                  have hs3 : d3.size = d.size := HP3.out.1.trans hsk
                  have HB3 := Lib.hid (HB.out.perm (by omega) HP3.out)
                  go_upto_region 17 with fail
                  go_cut [87] from 19 to 133 (fun s87 wx => ∃ q : Bool, s87 = .bool q ∧ Hid (q = true → 0 < a ∧ ltInt d3[a - 1]! d3[p2]! = false) ∧ Hid (Srt w0 wx b off d3))
                  case first =>
                    obtain ⟨G, hG, hcw, hfw⟩ := HK3.out.fam
                    rw [hs3] at hcw hfw
                    have HG := Lib.hid hG
                    clear hG
                    by_cases ha0 : 0 < a
                    · have ha0z : (a : Int) > 0 := by omega
                      cases hl : ltInt (G (a - 1)) (G p2) with
                      | true =>
                        go_wp2_with fail
                        go_quiet (first | (go_at_call 99; refine Calls.quiet_of_same (less_any _ _ _)))
                        try go_wp2_with fail
                        go_meet
                        case rel => exact ⟨false, rfl, Lib.hid (fun h => by cases h), Lib.hid (HK3.out.drewN _)⟩
                      | false =>
                        go_wp2_with fail
                        go_quiet (first | (go_at_call 99; refine Calls.quiet_of_same (less_any _ _ _)))
                        try go_wp2_with fail
                        go_meet
                        case rel => exact ⟨true, rfl, Lib.hid (fun _ => ⟨ha0, by rw [← HG.out, ← HG.out]; exact hl⟩), Lib.hid (HK3.out.drewN _)⟩
                    · have ha0z : ¬ (a : Int) > 0 := by omega
                      go_wp2_with fail
                      go_quiet (first | (go_at_call 99; refine Calls.quiet_of_same (less_any _ _ _)))
                      try go_wp2_with fail
                      go_meet
                      case rel => exact ⟨false, rfl, Lib.hid (fun h => by cases h), Lib.hid (HK3.out.drewN _)⟩
                  case rest =>
                    obtain ⟨q, rfl, hq, HK4⟩ := hcut
                    clear HK3
                    cases q
                    · clear hq
                      have hc := part_any cap a c p2 HK4.out (by omega) (by omega) hq1 hq2 (by omega)
                      rw [hs3] at hc
                      obtain ⟨mid, ap, d4, hx⟩ : ∃ mid ap d4, partition ltInt d3 a c p2 = (mid, ap, d4) := ⟨_, _, _, rfl⟩
                      rw [hx] at hc
                      obtain ⟨hm1, hm2, hs4, hbl, hbr, hL, hR⟩ := round_part swo_ltInt (partition_holds _) hq1 hq2 (by omega) HB3.out hx
                      have HBL := Lib.hid hbl
                      have HBR := Lib.hid hbr
                      have HL := Lib.hid hL
                      have HR := Lib.hid hR
                      have hs4' : d4.size = d.size := hs4.trans hs3
                      have HC := Lib.hid hc
                      clear hc hx hbl hbr hL hR hs4
                      go_wp2_with fail
                      refine HC.out.mono ?_
                      rintro e w4 ⟨kb, rfl, h4⟩
                      have H4 := Lib.hid h4
                      clear h4 HC
                      by_cases hlr : mid - a < c - mid
                      · have hlrz : (mid : Int) - (a : Int) < (c : Int) - (mid : Int) := by omega
                        have hr := HREC.out (mid - a) (by omega) a mid l2 (Nat.le_refl _) H4.out hm1 (by omega) hl2 (by omega) HBL.out
                        rw [hs4'] at hr
                        have HC := Lib.hid hr
                        clear hr
                        go_wp2_with fail
                        refine HC.out.mono ?_
                        rintro e w5 ⟨rfl, L, hL1, hL2, h5⟩
                        obtain ⟨hB5, hfin⟩ := HL.out L hL1 hL2
                        have H5 := Lib.hid h5
                        have HB5 := Lib.hid hB5
                        have HFIN := Lib.hid hfin
                        have hs5 : L.size = d.size := hL1.1.trans hs4'
                        clear h5 hB5 hfin hL1 hL2 HC
                        go_wp2
                        go_roundg (c - (mid + 1))
                        case measure => omega
                        case rel => exact ⟨mid + 1, c, l2, _, _, L, by first | rfl | go_num, rfl, rfl, rfl, rfl, by omega, by omega, by omega, Nat.le_refl _, by omega, hl2, hs5, H5, HB5, Lib.hid fun R h1 h2 => HF.out R (permIn_trans _ _ _ _ _ HP3.out (HFIN.out R h1 h2).1) (HFIN.out R h1 h2).2⟩
                      · have hlrz : ¬ (mid : Int) - (a : Int) < (c : Int) - (mid : Int) := by omega
                        have hr := HREC.out (c - (mid + 1)) (by omega) (mid + 1) c l2 (Nat.le_refl _) H4.out (by omega) (by omega) hl2 (by omega) HBR.out
                        have e1 : ((mid + 1 : Nat) : Int) = (mid : Int) + 1 := by omega
                        rw [hs4', e1] at hr
                        have HC := Lib.hid hr
                        clear hr e1
                        go_wp2_with fail
                        refine HC.out.mono ?_
                        rintro e w5 ⟨rfl, L, hL1, hL2, h5⟩
                        obtain ⟨hB5, hfin⟩ := HR.out L hL1 hL2
                        have H5 := Lib.hid h5
                        have HB5 := Lib.hid hB5
                        have HFIN := Lib.hid hfin
                        have hs5 : L.size = d.size := hL1.1.trans hs4'
                        clear h5 hB5 hfin hL1 hL2 HC
                        go_wp2
                        go_roundg (mid - a)
                        case measure => omega
                        case rel => exact ⟨a, mid, l2, _, _, L, rfl, rfl, rfl, rfl, rfl, by omega, by omega, by omega, Nat.le_refl _, by omega, hl2, hs5, H5, HB5, Lib.hid fun R h1 h2 => HF.out R (permIn_trans _ _ _ _ _ HP3.out (HFIN.out R h1 h2).1) (HFIN.out R h1 h2).2⟩
                    · obtain ⟨ha0, hnl⟩ := hq.out rfl
                      have hc := peq_any cap a c p2 HK4.out (by omega) (by omega) hq2 (by omega)
                      rw [hs3] at hc
                      obtain ⟨mid, d4, hx⟩ : ∃ mid d4, partitionEqual ltInt d3 a c p2 = (mid, d4) := ⟨_, _, rfl⟩
                      rw [hx] at hc
                      obtain ⟨hm1, hm2, hs4, hb4, hfin⟩ := round_eq swo_ltInt (partitionEqual_holds _) ha0 hq1 hq2 (by omega) HB3.out hnl hx
                      have HB4 := Lib.hid hb4
                      have HFIN := Lib.hid hfin
                      have hs4' : d4.size = d.size := hs4.trans hs3
                      have HC := Lib.hid hc
                      clear hc hx hb4 hfin hs4 hnl hq
                      go_wp2_with fail
                      refine HC.out.mono ?_
                      rintro e w4 ⟨rfl, h4⟩
                      have H4 := Lib.hid h4
                      clear h4 HC
                      go_wp2
                      go_roundg (c - mid)
                      case measure => omega
                      case rel => exact ⟨mid, c, l2, wb, wp, d4, rfl, rfl, rfl, rfl, rfl, by omega, by omega, by omega, Nat.le_refl _, by omega, hl2, hs4', H4, HB4, Lib.hid fun R h1 h2 => HF.out R (permIn_trans _ _ _ _ _ HP3.out (HFIN.out R h1 h2).1) (HFIN.out R h1 h2).2⟩
end Go.Proofs.YtaoneiicoaiehaaGreat.Sd11
namespace Go.Proofs.YtaoneiicoaiehaaGreat.So11
open Go Go.RowKit Go.Lib Go.Sort Go.Proofs.YtaoneiicoaiehaaGreat.Dh Go.Proofs.YtaoneiicoaiehaaGreat.Sx11 Go.Proofs.YtaoneiicoaiehaaGreat.Ln11 Go.Proofs.YtaoneiicoaiehaaGreat.Sd11 Go.Proofs.YtaoneiicoaiehaaGreat.Nu11 Go.Proofs.YtaoneiicoaiehaaGreat.Ma11
def arr (l : List Nat) : Array Int := (l.map fun n : Nat => (n : Int)).toArray
theorem arr_size (l : List Nat) : (arr l).size = l.length := by simp [arr]
theorem arr_get (l : List Nat) (k : Nat) (h : k < l.length) : (arr l)[k]! = (l[k] : Int) := by
  rw [getElem!_pos _ k (by rw [arr_size]; exact h)]
  simp [arr]
theorem back {l : List Nat} {d : Array Int} (hp : PermIn 0 l.length (arr l) d) (hs : SortedIn ltInt 0 l.length d) :
    ∃ l' : List Nat, l'.Perm l ∧ Asc l' ∧ d = arr l' := by
  have hsz : d.size = l.length := by rw [hp.1, arr_size]
  have h1 : d.toList.Perm (l.map fun n : Nat => (n : Int)) := by
    have h := hp.2.2
    rw [show d.extract 0 l.length = d from by rw [← hsz]; simp, show (arr l).extract 0 l.length = arr l from by rw [← arr_size l]; simp] at h
    exact h
  refine ⟨d.toList.map Int.toNat, ?_, ?_, ?_⟩
  · have h := h1.map Int.toNat
    rw [List.map_map] at h
    have e : (Int.toNat ∘ fun n : Nat => (n : Int)) = id := by funext n; simp
    rwa [e, List.map_id] at h
  · intro i j hj hij
    have hj' : j < d.size := by simpa using hj
    have h := hs i j (Nat.zero_le _) hij (by omega)
    rw [getElem!_pos _ i (by omega), getElem!_pos _ j hj'] at h
    have h' : ¬ d[j] < d[i] := of_decide_eq_false h
    simp only [List.getElem_map, Array.getElem_toList]
    omega
  · apply Array.ext
    · rw [arr_size]; simp
    · intro k hk1 hk2
      have hm : d[k] ∈ l.map fun n : Nat => (n : Int) := h1.mem_iff.1 (by simp)
      obtain ⟨n, _, hn⟩ := List.mem_map.1 hm
      have e := arr_get (d.toList.map Int.toNat) k (by simpa using hk1)
      rw [getElem!_pos _ k hk2] at e
      rw [e]
      simp only [List.getElem_map, Array.getElem_toList]
      omega
set_option maxHeartbeats 4000000 in
set_option maxRecDepth 100000 in
theorem sort_any {w : World} {B : Nat} {l : List Nat} {v : Value} (h : Own B l v w) (hne : l ≠ []) (hlen : l.length ≤ 1099511627776) :
    ∃ A c, v = .slice A l.length c ∧ Calls Tryz.prog 41 #[v] w fun e w' => e = .returned (.tuple #[]) ∧ ∃ l' : List Nat, l'.Perm l ∧ Asc l' ∧ Nums w' A l' ∧ Below B w w' := by
  rcases h.shape with ⟨_, h0⟩ | ⟨g, c, rfl, hB, hlt, hc⟩
  · exact absurd h0 hne
  · refine ⟨_, c, rfl, ?_⟩
    have hS : Srt w w g 0 (arr l) := ⟨Tread.refl _ _, hlt, fun t ht => by
      rw [arr_size] at ht
      rw [Nat.zero_add, arr_get l t ht]
      exact hc t ht⟩
    have hp := fun W (hW : Srt w W g 0 (arr l)) (lim : Nat) (hl : lim ≤ 100) => pdq_any c (arr l).size 0 l.length lim (by rw [arr_size]; exact Nat.le_refl _) hW (Nat.zero_le _) (by rw [arr_size]; exact Nat.le_refl _) hl (by rw [arr_size]; omega) (.inl rfl)
    simp only [arr_size] at hp
    have hL := len_any l.length (by omega) w
    have hb : bitsLen l.length ≤ 62 := (bitsLen_le_iff l.length 62).2 (by omega)
    have HP := Lib.hid (hp w hS (bitsLen l.length) (by omega))
    have HL := Lib.hid hL
    have HB := Lib.hid hB
    clear hp hL hc h hS
    obtain ⟨m, hm⟩ : ∃ m, m = bitsLen l.length := ⟨_, rfl⟩
    rw [← hm] at HP HL
    clear hm hb
    go_enter Tryz.func41, Tryz.ntmps41
    go_wp2_with fail
    refine HL.out.mono ?_
    rintro e w1 ⟨rfl, rfl⟩
    go_wp2_with fail
    refine HP.out.mono ?_
    rintro e w2 ⟨rfl, d', hd1, hd2, hd3⟩
    obtain ⟨l', h1, h2, rfl⟩ := back hd1 hd2
    have H1 := Lib.hid h1
    have H2 := Lib.hid h2
    have H3 := Lib.hid hd3
    clear hd1 hd2 hd3 h1 h2
    go_wp2
    go_end0
    have hln := H1.out.length_eq
    refine ⟨rfl, l', H1.out, H2.out, fun _ => ⟨g, 0, rfl, H3.out.lt, fun k hk => ?_⟩, ⟨H3.out.tread.os, H3.out.tread.tape, H3.out.tread.output, H3.out.tread.size, fun k hk => H3.out.tread.block k (by omega) (by have := HB.out; omega)⟩⟩
    have h := (H3.out.row k (by rw [arr_size]; exact hk)).1
    rw [arr_get l' k hk] at h
    exact h
end Go.Proofs.YtaoneiicoaiehaaGreat.So11
