/- The document's Ahead and Within. -/
import Derived.Test.YtmnaamjoikfpbaaRd9
namespace Go.Proofs.Ytmnaamjoikfpbaa.Ah9
open Go Go.RowKit Go.Proofs.Ytmnaamjoikfpbaa.Pm9 Go.Proofs.Ytmnaamjoikfpbaa.Mm9 Go.Proofs.Ytmnaamjoikfpbaa.Sn9 Go.Proofs.Ytmnaamjoikfpbaa.Rd9
theorem drop_step (a : ByteArray) (k : Nat) (h : k < a.size) : a.toList.drop k = a[k] :: a.toList.drop (k + 1) := by
  rw [ByteArray.toList_eq, List.drop_eq_getElem_cons (by simpa using h)]
  rfl
theorem drop_end (a : ByteArray) (k : Nat) (h : a.size ≤ k) : a.toList.drop k = [] := by
  rw [ByteArray.toList_eq]
  exact List.drop_eq_nil_iff.2 (by simpa using h)
set_option maxRecDepth 20000 in
set_option maxHeartbeats 2000000 in
theorem ahead_any (w : World) (a b : ByteArray) (ha : a.size ≤ 140737488351232) (hb : b.size ≤ 140737488351232) :
    Calls Try.prog 43 #[.string a, .string b] w fun e w' => e = .returned (.bool (lt a b)) ∧ Below w.heap.size w w' := by
  go_enter Try.func43, Try.ntmps43
  go_wp2
  go_loopw [5, 6, 7, 8, 9, 10, 11, 12, 13, 14, 15, 16, 17, 18, 19, 20, 21, 22, 23, 24] (fun i _ _ _ _ _ _ _ _ _ _ _ _ _ _ _ _ _ _ _ wr => ∃ k : Nat, k ≤ a.size ∧ k ≤ b.size ∧ i = .int .i64 k ∧ Hid (Op.bytesLess (a.toList.drop k) (b.toList.drop k) = lt a b) ∧ Hid (Below w.heap.size w wr)) (fun i _ _ _ _ _ _ _ _ _ _ _ _ _ _ _ _ _ _ _ _ => a.size - (intOf i).toNat)
  case atStart => exact ⟨0, by omega, by omega, rfl, Lib.hid (by simp [lt]), Lib.hid (Below.refl _ _)⟩
  case round =>
    obtain ⟨k, hka, hkb, rfl, hs, hB⟩ := hrel
    by_cases h1 : k < a.size
    · by_cases h2 : k < b.size
      · have hd : Op.bytesLess (a.toList.drop k) (b.toList.drop k) = (decide (a[k] < b[k]) || (a[k] == b[k] && Op.bytesLess (a.toList.drop (k + 1)) (b.toList.drop (k + 1)))) := by
          rw [drop_step a k h1, drop_step b k h2]; rfl
        rw [hs.out] at hd
        by_cases he : ((a[k]).toNat : Int) = ((b[k]).toNat : Int)
        · have he2 : (((a[k]).toNat : Int) != ((b[k]).toNat : Int)) = false := by simp [bne, he]
          have e3 : a[k] = b[k] := UInt8.toNat_inj.1 (by omega)
          have hd2 : lt a b = Op.bytesLess (a.toList.drop (k + 1)) (b.toList.drop (k + 1)) := by
            rw [hd, e3, decide_eq_false (by rw [UInt8.lt_iff_toNat_lt]; omega)]; simp
          have HD := Lib.hid hd2
          clear hd hd2 hs e3
          go_wp2
          go_quiet (fail)
          go_wp2
          exact ⟨⟨k + 1, by omega, by omega, by go_num, Lib.hid HD.out.symm, Lib.hid (hb_drewN hB _)⟩, by simp [intOf]; omega⟩
        · have he2 : (((a[k]).toNat : Int) != ((b[k]).toNat : Int)) = true := by simp [bne, he]
          have hne : (a[k] == b[k]) = false := by
            cases hc : a[k] == b[k]
            · rfl
            · rw [beq_iff_eq] at hc; exact absurd (by rw [hc]) he
          have hd2 : lt a b = decide ((a[k]).toNat < (b[k]).toNat) := by
            rw [hd, hne, Bool.false_and, Bool.or_false]
            refine decide_eq_decide.2 ?_
            rw [UInt8.lt_iff_toNat_lt]
          have HD := Lib.hid hd2
          clear hd hd2 hs hne
          go_wp2
          go_quiet (fail)
          go_wp2
          go_quiet (fail)
          go_wp2
          go_ret
          exact ⟨by rw [HD.out]; rfl, hb_drewN (Lib.hid (hb_drewN hB _)) _⟩
      · obtain rfl : k = b.size := by omega
        have hd2 : lt a b = decide (a.size < b.size) := by
          rw [← hs.out, drop_step a b.size h1, drop_end b b.size (Nat.le_refl _), decide_eq_false (by omega)]; rfl
        have HD := Lib.hid hd2
        clear hd2 hs
        go_wp2
        go_ret
        exact ⟨by rw [HD.out]; rfl, hB.out⟩
    · obtain rfl : k = a.size := by omega
      have hd2 : lt a b = decide (a.size < b.size) := by
        rw [← hs.out, drop_end a a.size (Nat.le_refl _)]
        by_cases h2 : a.size < b.size
        · rw [drop_step b a.size h2, decide_eq_true (by omega)]; rfl
        · rw [drop_end b a.size (by omega), decide_eq_false (by omega)]; rfl
      have HD := Lib.hid hd2
      clear hd2 hs
      go_wp2
      go_ret
      exact ⟨by rw [HD.out]; rfl, hB.out⟩
set_option maxRecDepth 20000 in
set_option maxHeartbeats 2000000 in
theorem within_any (w : World) (q : Pr) (a b : ByteArray) (hk : q.k.size ≤ 140737488351232) (ha : a.size ≤ 140737488351232) (hb : b.size ≤ 140737488351232) :
    Calls Try.prog 39 #[.string q.k, .string a, .string b] w fun e w' => e = .returned (.bool (within a b q)) ∧ Below w.heap.size w w' := by
  unfold within
  have H1 := Lib.hid (ahead_any w q.k a hk ha)
  have H2 := Lib.hid (fun W => ahead_any W q.k b hk hb)
  go_enter Try.func39, Try.ntmps39
  cases h1 : lt q.k a
  · rw [h1] at H1
    by_cases hz : b.size = 0
    · have e1 := empty_of hz
      rw [decide_eq_true hz]
      clear hz h1
      go_wp2_with (go_at_call 43; (with_reducible refine H1.out.mono ?_); rintro e w1 ⟨rfl, hb1⟩)
      go_ret
      exact ⟨rfl, hb1⟩
    · have e1 := not_empty_of hz
      rw [decide_eq_false hz]
      clear hz h1
      go_wp2_with (first
        | (go_at_call 43; (with_reducible refine H1.out.mono ?_); rintro e w1 ⟨rfl, hb1⟩)
        | (go_at_call 43; (with_reducible refine (H2.out _).mono ?_); rintro e w2 ⟨rfl, hb2⟩))
      go_ret
      exact ⟨rfl, hb1.trans (hb2.mono hb1.size)⟩
  · rw [h1] at H1
    clear h1
    go_wp2_with (go_at_call 43; (with_reducible refine H1.out.mono ?_); rintro e w1 ⟨rfl, hb1⟩)
    go_ret
    exact ⟨rfl, hb1⟩
end Go.Proofs.Ytmnaamjoikfpbaa.Ah9
