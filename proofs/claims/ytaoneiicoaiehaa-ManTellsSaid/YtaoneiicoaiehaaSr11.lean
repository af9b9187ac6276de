/- slices.Sort of a row of 64-bit numbers: the turning round, the heap. -/
import Derived.Test.YtaoneiicoaiehaaSx11
namespace Go.Proofs.Ytaoneiicoaiehaa.Sr11
open Go Go.RowKit Go.Lib Go.Sort Go.Proofs.Ytaoneiicoaiehaa.Dh Go.Proofs.Ytaoneiicoaiehaa.Sx11
set_option maxHeartbeats 8000000 in
set_option maxRecDepth 100000 in
theorem reverse_any {w0 w : World} {b off : Nat} {d : Array Int} (cap x y : Nat) (h : Srt w0 w b off d) (hxy : x < y) (hy : y ≤ d.size) (hsz : d.size < 4611686018427387904) :
    Calls Try.prog 71 #[.slice (some ⟨b, off, none⟩) d.size cap, .int .i64 x, .int .i64 y] w fun e w' => e = .returned (.tuple #[]) ∧ ∃ d', PermIn x y d d' ∧ Srt w0 w' b off d' := by
  have HS := Lib.hid h
  clear h
  go_enter Try.func71, Try.ntmps71
  go_wp2
  go_loopg [6, 7] (y - x) (fun g1 vi vj wr => ∃ (i j : Nat) (dk : Array Int), vi = .int .i64 i ∧ vj = .int .i64 j ∧ x ≤ i ∧ j < y ∧ j - i ≤ g1 ∧ Hid (Srt w0 wr b off dk) ∧ Hid (PermIn x y d dk))
  case atStart => exact ⟨x, y - 1, d, rfl, by congr 1; omega, Nat.le_refl _, by omega, by omega, HS, Lib.hid (permIn_refl _ _ _)⟩
  case round =>
    clear HS
    obtain ⟨i, j, dk, rfl, rfl, hxi, hjy, hg1, HK, HP⟩ := hrel
    by_cases hlt : i < j
    · obtain ⟨G, hG, hcw, hfw⟩ := HK.out.fam
      have hsk := HP.out.1
      rw [hsk] at hcw hfw
      have HG := Lib.hid hG
      clear hG
      go_wp2
      go_region
      all_goals go_wp2
      go_roundg (j - 1 - (i + 1))
      case measure => omega
      case rel =>
        refine ⟨i + 1, j - 1, swp dk i j, by go_num, by congr 1; omega, by omega, by omega, by omega, ?_, ?_⟩
        · rw [HG.out, HG.out]
          exact Lib.hid ((HK.out.drewN 1).swap i j (by omega) (by omega))
        · exact Lib.hid (permIn_trans _ _ _ _ _ HP.out (swp_permIn _ _ _ i j hxi (by omega) (by omega) hjy (by omega)))
    · go_wp2
      go_end0
      exact ⟨rfl, dk, HP.out, HK.out⟩
theorem sift_out {hi f r : Nat} {d : Array Int} (h : hi ≤ 2 * r + 1) : siftDown ltInt hi f r d = d := by
  rw [siftDown, dif_pos h]
theorem sift_size (hi f : Nat) : ∀ (n r : Nat) (d : Array Int), hi - r ≤ n → (siftDown ltInt hi f r d).size = d.size
  | n, r, d, hn => by
    rw [siftDown]
    by_cases h : 2 * r + 1 ≥ hi
    · rw [dif_pos h]
    · rw [dif_neg h]
      cases n with
      | zero => omega
      | succ n =>
        split
        · split
          · rfl
          · split
            · rw [sift_size hi f n _ _ (by omega), size_swp]
            · rfl
        · split
          · rfl
          · rw [sift_size hi f n _ _ (by omega), size_swp]
theorem sift_right {hi f r : Nat} {d : Array Int} (h : 2 * r + 2 < hi) (hl : ltInt d[f + 2 * r + 1]! d[f + 2 * r + 2]! = true) :
    siftDown ltInt hi f r d = if ltInt d[f + r]! d[f + 2 * r + 2]! then siftDown ltInt hi f (2 * r + 2) (swp d (f + r) (f + 2 * r + 2)) else d := by
  rw [siftDown, dif_neg (by omega), if_pos (by rw [show f + (2 * r + 1) + 1 = f + 2 * r + 2 by omega, ← Nat.add_assoc, hl]; simpa using h), dif_pos h, ← Nat.add_assoc]
  cases ltInt d[f + r]! d[f + 2 * r + 2]! <;> rfl
theorem sift_left {hi f r : Nat} {d : Array Int} (h : 2 * r + 1 < hi) (hl : ¬ 2 * r + 2 < hi ∨ ltInt d[f + 2 * r + 1]! d[f + 2 * r + 2]! = false) :
    siftDown ltInt hi f r d = if ltInt d[f + r]! d[f + 2 * r + 1]! then siftDown ltInt hi f (2 * r + 1) (swp d (f + r) (f + 2 * r + 1)) else d := by
  rw [siftDown, dif_neg (by omega), if_neg (by
    rw [show f + (2 * r + 1) + 1 = f + 2 * r + 2 by omega, ← Nat.add_assoc]
    rcases hl with hl | hl
    · simp only [Bool.and_eq_true, decide_eq_true_eq]; omega
    · rw [hl]; simp), ← Nat.add_assoc]
  cases ltInt d[f + r]! d[f + 2 * r + 1]! <;> rfl
set_option maxHeartbeats 8000000 in
set_option maxRecDepth 100000 in
theorem sift_any {w0 w : World} {b off : Nat} {d : Array Int} (cap lo hi f : Nat) (h : Srt w0 w b off d) (hy : f + hi ≤ d.size) (hsz : d.size < 2305843009213693952) (hlo : lo ≤ d.size) :
    Calls Try.prog 91 #[.slice (some ⟨b, off, none⟩) d.size cap, .int .i64 lo, .int .i64 hi, .int .i64 f] w fun e w' => e = .returned (.tuple #[]) ∧ Srt w0 w' b off (siftDown ltInt hi f lo d) := by
  have HS := Lib.hid h
  clear h
  go_enter Try.func91, Try.ntmps91
  go_wp2
  go_loopg [8, 9] (d.size - lo) (fun g1 vi _ wr => ∃ (r : Nat) (dk : Array Int), vi = .int .i64 r ∧ r ≤ d.size ∧ d.size - r ≤ g1 ∧ dk.size = d.size ∧ Hid (Srt w0 wr b off dk) ∧ Hid (siftDown ltInt hi f r dk = siftDown ltInt hi f lo d))
  case atStart => exact ⟨lo, d, rfl, hlo, Nat.le_refl _, rfl, HS, Lib.hid rfl⟩
  case round =>
    clear HS
    obtain ⟨r, dk, rfl, hr, hg1, hsk, HK, HO⟩ := hrel
    by_cases hch : 2 * r + 1 < hi
    · obtain ⟨G, hG, hcw, hfw⟩ := HK.out.fam
      rw [hsk] at hcw hfw
      have HG := Lib.hid hG
      clear hG
      by_cases hc2 : 2 * r + 2 < hi
      · have hg2 : 2 * (r : Int) + 1 + 1 < (hi : Int) := by omega
        cases hl : ltInt (G (f + 2 * r + 1)) (G (f + 2 * r + 2)) with
        | true =>
          have HL := Lib.hid (sift_right (d := dk) (f := f) hc2 (by rw [← HG.out, ← HG.out]; exact hl))
          go_wp2
          go_quiet (first | (go_at_call 73; refine Calls.quiet_of_same (less_any _ _ _)))
          have HK2 := Lib.hid (HK.out.drewN nq)
          clear HK hcw hfw
          generalize wr.drewN nq = wq at HK2 ⊢
          clear nq
          obtain ⟨hcw, hfw⟩ := HK2.out.fams HG.out hsk
          cases hm : ltInt (G (f + r)) (G (f + 2 * r + 2)) with
          | true =>
            go_wp2
            go_quiet (first | (go_at_call 73; refine Calls.quiet_of_same (less_any _ _ _)))
            go_wp2
            go_region
            all_goals go_wp2
            go_roundg (d.size - (2 * r + 2))
            case measure => omega
            case rel =>
              refine ⟨2 * r + 2, swp dk (f + r) (f + 2 * r + 2), by first | rfl | go_num | (congr 1; omega), by omega, by omega, by rw [size_swp]; exact hsk, ?_, ?_⟩
              · have hx := (HK2.out.drewN (nq + 1)).swap (f + r) (f + 2 * r + 2) (by omega) (by omega)
                rw [← HG.out, ← HG.out] at hx
                exact Lib.hid hx
              · exact Lib.hid (by rw [← HO.out, HL.out, if_pos (by rw [← HG.out, ← HG.out]; exact hm)])
          | false =>
            go_wp2
            go_quiet (first | (go_at_call 73; refine Calls.quiet_of_same (less_any _ _ _)))
            go_wp2
            (try simp only [Exit.inBlock, Exit.then]); refine bodyPost_ret (results_none rfl _ _ _) rfl ?_
            exact ⟨rfl, by rw [← HO.out, HL.out, if_neg (by rw [← HG.out, ← HG.out, hm]; simp)]; exact HK2.out.drewN _⟩
        | false =>
          have HL := Lib.hid (sift_left (d := dk) (f := f) hch (.inr (by rw [← HG.out, ← HG.out]; exact hl)))
          go_wp2
          go_quiet (first | (go_at_call 73; refine Calls.quiet_of_same (less_any _ _ _)))
          have HK2 := Lib.hid (HK.out.drewN nq)
          clear HK hcw hfw
          generalize wr.drewN nq = wq at HK2 ⊢
          clear nq
          obtain ⟨hcw, hfw⟩ := HK2.out.fams HG.out hsk
          cases hm : ltInt (G (f + r)) (G (f + 2 * r + 1)) with
          | true =>
            go_wp2
            go_quiet (first | (go_at_call 73; refine Calls.quiet_of_same (less_any _ _ _)))
            go_wp2
            go_region
            all_goals go_wp2
            go_roundg (d.size - (2 * r + 1))
            case measure => omega
            case rel =>
              refine ⟨2 * r + 1, swp dk (f + r) (f + 2 * r + 1), by first | rfl | go_num | (congr 1; omega), by omega, by omega, by rw [size_swp]; exact hsk, ?_, ?_⟩
              · have hx := (HK2.out.drewN (nq + 1)).swap (f + r) (f + 2 * r + 1) (by omega) (by omega)
                rw [← HG.out, ← HG.out] at hx
                exact Lib.hid hx
              · exact Lib.hid (by rw [← HO.out, HL.out, if_pos (by rw [← HG.out, ← HG.out]; exact hm)])
          | false =>
            go_wp2
            go_quiet (first | (go_at_call 73; refine Calls.quiet_of_same (less_any _ _ _)))
            go_wp2
            (try simp only [Exit.inBlock, Exit.then]); refine bodyPost_ret (results_none rfl _ _ _) rfl ?_
            exact ⟨rfl, by rw [← HO.out, HL.out, if_neg (by rw [← HG.out, ← HG.out, hm]; simp)]; exact HK2.out.drewN _⟩
      · have hg2 : decide (2 * (r : Int) + 1 + 1 < (hi : Int)) = false := decide_eq_false (by omega)
        have HL := Lib.hid (sift_left (d := dk) (f := f) hch (.inl hc2))
        go_wp2
        go_quiet (first | (go_at_call 73; refine Calls.quiet_of_same (less_any _ _ _)))
        have HK2 := Lib.hid (HK.out.drewN nq)
        clear HK hcw hfw
        generalize wr.drewN nq = wq at HK2 ⊢
        clear nq
        obtain ⟨hcw, hfw⟩ := HK2.out.fams HG.out hsk
        cases hm : ltInt (G (f + r)) (G (f + 2 * r + 1)) with
        | true =>
          go_wp2
          go_quiet (first | (go_at_call 73; refine Calls.quiet_of_same (less_any _ _ _)))
          go_wp2
          go_region
          all_goals go_wp2
          go_roundg (d.size - (2 * r + 1))
          case measure => omega
          case rel =>
            refine ⟨2 * r + 1, swp dk (f + r) (f + 2 * r + 1), by first | rfl | go_num | (congr 1; omega), by omega, by omega, by rw [size_swp]; exact hsk, ?_, ?_⟩
            · have hx := (HK2.out.drewN (nq + 1)).swap (f + r) (f + 2 * r + 1) (by omega) (by omega)
              rw [← HG.out, ← HG.out] at hx
              exact Lib.hid hx
            · exact Lib.hid (by rw [← HO.out, HL.out, if_pos (by rw [← HG.out, ← HG.out]; exact hm)])
        | false =>
          go_wp2
          go_quiet (first | (go_at_call 73; refine Calls.quiet_of_same (less_any _ _ _)))
          go_wp2
          (try simp only [Exit.inBlock, Exit.then]); refine bodyPost_ret (results_none rfl _ _ _) rfl ?_
          exact ⟨rfl, by rw [← HO.out, HL.out, if_neg (by rw [← HG.out, ← HG.out, hm]; simp)]; exact HK2.out.drewN _⟩
    · go_wp2
      go_end0
      exact ⟨rfl, by rw [← HO.out, sift_out (by omega)]; exact HK.out⟩
set_option maxHeartbeats 8000000 in
set_option maxRecDepth 100000 in
theorem heap_any {w0 w : World} {b off : Nat} {d : Array Int} (cap x y : Nat) (h : Srt w0 w b off d) (hxy : x < y) (hy : y ≤ d.size) (hsz : d.size < 2305843009213693952) :
    Calls Try.prog 68 #[.slice (some ⟨b, off, none⟩) d.size cap, .int .i64 x, .int .i64 y] w fun e w' => e = .returned (.tuple #[]) ∧ Srt w0 w' b off (heapSort ltInt d x y) := by
  have HS := Lib.hid h
  clear h
  go_enter Try.func68, Try.ntmps68
  go_wp2
  go_loopg [9] ((y - x - 1) / 2 + 1) (fun g1 vi wr => ∃ (k : Nat) (dk : Array Int), vi = .int .i64 ((k : Int) - 1) ∧ k ≤ (y - x - 1) / 2 + 1 ∧ k ≤ g1 ∧ dk.size = d.size ∧ Hid (Srt w0 wr b off dk) ∧ Hid (heapBuild ltInt (y - x) x k dk = heapBuild ltInt (y - x) x ((y - x - 1) / 2 + 1) d))
  case atStart => exact ⟨(y - x - 1) / 2 + 1, d, by congr 1; omega, Nat.le_refl _, Nat.le_refl _, rfl, HS, Lib.hid rfl⟩
  case round =>
    clear HS
    obtain ⟨k, dk, rfl, hk, hg1, hsk, HK, HO⟩ := hrel
    by_cases hk0 : 0 < k
    · obtain ⟨i, rfl⟩ : ∃ i, k = i + 1 := ⟨k - 1, by omega⟩
      have hc := sift_any cap i (y - x) x HK.out (by omega) (by omega) (by omega)
      rw [hsk] at hc
      have e1 : ((i + 1 : Nat) : Int) - 1 = (i : Int) := by omega
      have e2 : ((y - x : Nat) : Int) = (y : Int) - (x : Int) := by omega
      rw [e2] at hc
      rw [e1]
      have HC := Lib.hid hc
      clear hc
      go_wp2_with fail
      refine HC.out.mono ?_
      rintro e w1 ⟨rfl, h1⟩
      have H1 := Lib.hid h1
      clear h1
      go_wp2
      go_roundg i
      case measure => omega
      case rel => exact ⟨i, _, rfl, by omega, by omega, by rw [sift_size _ _ _ _ _ (Nat.le_refl _)]; exact hsk, H1, Lib.hid (by rw [← HO.out]; rfl)⟩
    · obtain rfl : k = 0 := by omega
      go_wp2
      go_loopg [10] (y - x) (fun g2 vj wr2 => ∃ (k : Nat) (dj : Array Int), vj = .int .i64 ((k : Int) - 1) ∧ k ≤ y - x ∧ k ≤ g2 ∧ dj.size = d.size ∧ Hid (Srt w0 wr2 b off dj) ∧ Hid (heapPop ltInt x k dj = heapSort ltInt d x y))
      case atStart => exact ⟨y - x, dk, by congr 1; omega, Nat.le_refl _, Nat.le_refl _, hsk, HK, Lib.hid (by unfold heapSort; rw [← HO.out]; rfl)⟩
      case round =>
        clear HK HO
        obtain ⟨k, dj, rfl, hk, hg2, hsj, HJ, HO⟩ := hrel
        by_cases hk0 : 0 < k
        · obtain ⟨i, rfl⟩ : ∃ i, k = i + 1 := ⟨k - 1, by omega⟩
          have e1 : ((i + 1 : Nat) : Int) - 1 = (i : Int) := by omega
          rw [e1]
          obtain ⟨G, hG, hcw, hfw⟩ := HJ.out.fam
          rw [hsj] at hcw hfw
          have HG := Lib.hid hG
          clear hG
          obtain ⟨u, hu⟩ := HJ.out.again x (x + i) (by omega) (by omega) (.int .u64 (G (x + i)))
          have hx := (HJ.out.drewN 1).swap x (x + i) (by omega) (by omega)
          rw [← HG.out, ← HG.out] at hx
          have hs2 : (swp dj x (x + i)).size = d.size := by rw [size_swp]; exact hsj
          have hc := sift_any cap 0 i x hx (by omega) (by omega) (by omega)
          rw [hs2] at hc
          have HC := Lib.hid hc
          clear hc hx
          go_wp2
          go_region
          all_goals go_wp2_with fail
          refine HC.out.mono ?_
          rintro e w1 ⟨rfl, h1⟩
          have H1 := Lib.hid h1
          clear h1
          go_wp2
          go_roundg i
          case measure => omega
          case rel => exact ⟨i, _, rfl, by omega, by omega, by rw [sift_size _ _ _ _ _ (Nat.le_refl _)]; exact hs2, H1, Lib.hid (by rw [← HO.out]; rfl)⟩
        · obtain rfl : k = 0 := by omega
          go_wp2
          go_end0
          exact ⟨rfl, by rw [← HO.out]; exact HJ.out⟩
end Go.Proofs.Ytaoneiicoaiehaa.Sr11
