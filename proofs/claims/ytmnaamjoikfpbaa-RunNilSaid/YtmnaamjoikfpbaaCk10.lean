/- The contract of run.check: which pairs a run may have, in which order. -/
import Derived.Test.YtmnaamjoikfpbaaFd10
import Derived.Test.YtmnaamjoikfpbaaAh9
import Derived.Test.YtmnaamjoikfpbaaMm9
namespace Go.Proofs.Ytmnaamjoikfpbaa.Ck10
open Go Go.RowKit Go.Proofs.Ytmnaamjoikfpbaa.Pm9 Go.Proofs.Ytmnaamjoikfpbaa.Mm9 Go.Proofs.Ytmnaamjoikfpbaa.Sn9 Go.Proofs.Ytmnaamjoikfpbaa.Rd9 Go.Proofs.Ytmnaamjoikfpbaa.Fd10
/-- Do keys rise? -/
def rise : List Pr → Bool
  | x :: y :: l => lt x.k y.k && rise (y :: l)
  | _ => true
theorem rise_of_sorted : ∀ {L : List Pr}, Sorted L → rise L = true
  | [], _ => rfl
  | [_], _ => rfl
  | x :: y :: l, h => by
    rw [rise, h.head y List.mem_cons_self, rise_of_sorted h.tail]; rfl
theorem rise_snoc : ∀ (L : List Pr) (x y : Pr), rise (L ++ [x] ++ [y]) = (rise (L ++ [x]) && lt x.k y.k)
  | [], x, y => by simp [rise]
  | [a], x, y => by simp [rise]
  | a :: b :: L, x, y => by
    have ih := rise_snoc (b :: L) x y
    simp only [List.cons_append] at ih ⊢
    rw [rise, ih, rise, Bool.and_assoc]
theorem rise_front : ∀ (L M : List Pr), rise L = false → rise (L ++ M) = false
  | [], _, h => by cases h
  | [_], _, h => by cases h
  | x :: y :: L, M, h => by
    simp only [List.cons_append]
    rw [rise] at h ⊢
    cases hx : lt x.k y.k
    · rfl
    · rw [hx, Bool.true_and] at h
      have := rise_front (y :: L) M h
      simp only [List.cons_append] at this
      rw [this]; rfl
def chk (L : List Pr) : Int := if L.all may then (if rise L then 0 else 100) else 2
theorem le_lt (a b : ByteArray) : (Op.bytesLess a.toList b.toList || a.toList == b.toList) = !lt b a := by
  have h1 : Op.bytesLess a.toList b.toList = lt a b := rfl
  rw [h1]
  cases hab : lt a b
  · cases hba : lt b a
    · have := lt_total hab hba
      rw [this]; simp
    · have := lt_ne hba
      cases he : a.toList == b.toList
      · rfl
      · exact absurd (bytes_ext (by simpa using he)).symm this
  · rw [lt_asymm hab]; rfl
set_option maxRecDepth 20000 in
set_option maxHeartbeats 4000000 in
theorem rcheck_any (w : World) (A : Option Addr) (c : Nat) (L : List Pr) (hl : Reads w A L) (hlen : L.length ≤ 140737488351232) (hz : ∀ x ∈ L, x.k.size ≤ 140737488351232 ∧ x.v.size ≤ 140737488351232) :
    Calls Try.prog 26 #[.slice A L.length c] w fun e w' => e = .returned (.int .i64 (chk L)) ∧ Below w.heap.size w w' := by
  obtain ⟨N, hN⟩ : ∃ N, N = L.length := ⟨_, rfl⟩
  rw [← hN] at hlen ⊢
  have H := Lib.hid hl
  have HN := Lib.hid hN
  have HZ := Lib.hid hz
  clear hl hz hN
  go_enter Try.func26, Try.ntmps26
  go_wp2
  go_loopw [4, 5, 9, 10, 11, 12, 13, 14, 15, 16, 17, 18] (fun _ _ i _ _ _ _ _ _ _ _ _ wr => ∃ k : Nat, k ≤ N ∧ i = .int .i64 k ∧ Hid ((L.take k).all may = true) ∧ Hid (Below w.heap.size w wr)) (fun _ _ i _ _ _ _ _ _ _ _ _ _ => N - (intOf i).toNat)
  case atStart => exact ⟨0, by omega, rfl, Lib.hid rfl, Lib.hid (Below.refl _ _)⟩
  case round =>
    obtain ⟨k, hk, rfl, hs, hB⟩ := hrel
    by_cases hlt : k < N
    · have hil : k < L.length := by rw [← HN.out]; exact hlt
      obtain ⟨b, o, rfl, p0, p1, p2⟩ := (H.out.keep (Nat.le_refl _) hB.out).at_ hil
      have hx1 := HZ.out _ (List.getElem_mem hil)
      have hall : (L.take (k + 1)).all may = may L[k] := by
        rw [List.take_succ_eq_append_getElem hil, List.all_append, hs.out]; simp
      have hmem := List.getElem_mem hil
      obtain ⟨x, hx⟩ : ∃ x, x = L[k] := ⟨_, rfl⟩
      rw [← hx] at p0 p1 p2 hx1 hall hmem
      obtain ⟨xk, xv, xg⟩ := x
      dsimp only at p0 p1 p2 hx1
      have hbn : Below w.heap.size w (wr.alloc (.cells #[.string xk, .string xv, .bool xg] 39)) := hB.out.alloc hB.out.size _
      have HC := Lib.hid (Mm9.check_any (wr.alloc (.cells #[.string xk, .string xv, .bool xg] 39)) ⟨xk, xv, xg⟩ hx1.1 hx1.2)
      have HBN := Lib.hid hbn
      have HA := Lib.hid hall
      have HM := Lib.hid hmem
      clear hbn hx hx1 hall hil hs hmem
      cases hm : may ⟨xk, xv, xg⟩
      · have HMF := Lib.hid hm
        rw [hm] at HC
        clear hm
        go_wp2_with fail
        refine HC.out.mono ?_
        rintro e w1 ⟨rfl, hb1⟩
        have hf : chk L = 2 := by
          have : L.all may = false := by
            cases hc : L.all may
            · rfl
            · rw [List.all_eq_true.1 hc _ HM.out] at HMF; cases HMF.out
          unfold chk; rw [this]; rfl
        have HF := Lib.hid hf
        have HB1 := Lib.hid (HBN.out.trans (hb1.mono HBN.out.size))
        clear hf hb1
        simp only [erg, Bool.false_eq_true, if_false]
        go_wp2
        go_ret
        exact ⟨by rw [HF.out]; rfl, HB1.out⟩
      · have HMT := Lib.hid (HA.out.trans hm)
        rw [hm] at HC
        clear hm
        go_wp2_with fail
        refine HC.out.mono ?_
        rintro e w1 ⟨rfl, hb1⟩
        have HB1 := Lib.hid (HBN.out.trans (hb1.mono HBN.out.size))
        clear hb1
        simp only [erg, if_true]
        go_wp2
        exact ⟨⟨k + 1, by omega, by go_num, HMT, HB1⟩, by simp [intOf]; omega⟩
    · obtain rfl : k = N := by omega
      have hall : L.all may = true := by
        have := hs.out
        rw [HN.out, List.take_length] at this
        exact this
      have HA := Lib.hid hall
      have HBW := Lib.hid hB.out
      clear hall hs hB
      go_wp2
      go_loopw [6, 21, 22, 23, 24, 25, 26, 27, 28, 29, 30, 31, 32, 33, 34, 35, 36, 37, 38, 39, 40] (fun _ i _ _ _ _ _ _ _ _ _ _ _ _ _ _ _ _ _ _ _ wq => ∃ j : Nat, j ≤ k ∧ i = .int .i64 j ∧ Hid (rise (L.take j) = true) ∧ Hid (Below w.heap.size w wq)) (fun _ i _ _ _ _ _ _ _ _ _ _ _ _ _ _ _ _ _ _ _ _ => k - (intOf i).toNat)
      case atStart => exact ⟨0, by omega, rfl, Lib.hid rfl, HBW⟩
      case round =>
        obtain ⟨j, hj, rfl, hs, hB⟩ := hrel
        by_cases hjk : j < k
        · have hil : j < L.length := by rw [← HN.out]; exact hjk
          by_cases hj0 : j = 0
          · subst hj0
            have h1 : rise (L.take (0 + 1)) = true := by
              cases L with
              | nil => rfl
              | cons a l => rfl
            have HR := Lib.hid h1
            clear h1 hs hil
            go_wp2
            go_quiet (fail)
            go_wp2
            exact ⟨⟨0 + 1, by omega, by go_num, HR, Lib.hid (hb_drewN hB _)⟩, by simp [intOf]; omega⟩
          · obtain ⟨i, rfl⟩ : ∃ i, j = i + 1 := ⟨j - 1, by omega⟩
            have hil2 : i < L.length := by omega
            obtain ⟨b, o, rfl, p0, p1, p2⟩ := (H.out.keep (Nat.le_refl _) hB.out).at_ hil
            obtain ⟨b', o', hae, q0, q1, q2⟩ := (H.out.keep (Nat.le_refl _) hB.out).at_ hil2
            cases hae
            have hle := le_lt L[i + 1].k L[i].k
            have hrs : rise (L.take (i + 1 + 1)) = lt L[i].k L[i + 1].k := by
              rw [List.take_succ_eq_append_getElem hil, List.take_succ_eq_append_getElem hil2, rise_snoc, ← List.take_succ_eq_append_getElem hil2, hs.out, Bool.true_and]
            have hfr : rise (L.take (i + 1 + 1)) = false → rise L = false := fun h => by
              have := rise_front _ (L.drop (i + 1 + 1)) h
              rwa [List.take_append_drop] at this
            obtain ⟨x, hx⟩ : ∃ x, x = L[i + 1].k := ⟨_, rfl⟩
            obtain ⟨y, hy⟩ : ∃ y, y = L[i].k := ⟨_, rfl⟩
            rw [← hx] at p0 hle hrs
            rw [← hy] at q0 hle hrs
            have HRS := Lib.hid hrs
            have HFR := Lib.hid hfr
            clear p1 p2 q1 q2 hx hy hrs hfr hs hil hil2
            have hp1 : ((i + 1 : Nat) : Int) > 0 := by omega
            cases hl : lt y x
            · rw [hl] at hle HRS
              have HF := Lib.hid (HFR.out HRS.out)
              clear hl HRS HFR
              rw [Bool.not_false] at hle
              go_wp2
              go_quiet (fail)
              go_wp2
              go_ret
              refine ⟨?_, hb_drewN hB _⟩
              have hc : chk L = 100 := by unfold chk; rw [HA.out, HF.out]; rfl
              rw [hc]; rfl
            · rw [hl] at hle HRS
              clear hl HFR
              rw [Bool.not_true] at hle
              go_wp2
              go_quiet (fail)
              go_wp2
              exact ⟨⟨i + 1 + 1, by omega, by go_num, HRS, Lib.hid (hb_drewN hB _)⟩, by simp [intOf]; omega⟩
        · obtain rfl : j = k := by omega
          have hc : chk L = 0 := by
            have h1 := hs.out
            rw [HN.out, List.take_length] at h1
            unfold chk; rw [HA.out, h1]; rfl
          have HC := Lib.hid hc
          clear hc hs
          go_wp2
          go_ret
          exact ⟨by rw [HC.out]; rfl, hB.out⟩
end Go.Proofs.Ytmnaamjoikfpbaa.Ck10
