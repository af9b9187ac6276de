/- The contract of the document's own May (package fascicleref11). -/
import Derived.Test.YtaoneiicoaiehaaGreatCk11
import Derived.Deep.LoopGhost
namespace Go.Proofs.YtaoneiicoaiehaaGreat.Rm11
open Go Go.RowKit Go.Lib Go.Proofs.YtaoneiicoaiehaaGreat.Dh Go.Proofs.YtaoneiicoaiehaaGreat.Sx11 Go.Proofs.YtaoneiicoaiehaaGreat.Nu11 Go.Proofs.YtaoneiicoaiehaaGreat.Ma11 Go.Proofs.YtaoneiicoaiehaaGreat.Ck11
/-- The numbers ahead of i are within, and no two of them are the same. -/
structure Upto (F : Nat → Int) (x : Int) (i : Nat) : Prop where
  within : ∀ k, k < i → 1 ≤ F k ∧ F k < x
  apart : ∀ k, k < i → ∀ j, j < k → F j ≠ F k
theorem may_upto {m : Man} {F : Nat → Int} (hF : ∀ t (h : t < m.all.length), F t = (m.all[t] : Int)) : may m = true ↔ Upto F m.next (m.runs.length + 1) ∧ m.runs.length ≤ 256 ∧ m.next ≤ 1099511627776 := by
  have hl : m.all.length = m.runs.length + 1 := rfl
  rw [may_iff]
  constructor
  · rintro ⟨h1, h2, h3, h4⟩
    refine ⟨⟨fun k hk => ?_, fun k hk j hj => ?_⟩, h1, h2⟩
    · have := h3 _ (List.getElem_mem (show k < m.all.length by omega))
      rw [hF k (by omega)]; omega
    · have := (List.pairwise_iff_getElem.1 h4) j k (by omega) (by omega) hj
      rw [hF j (by omega), hF k (by omega)]
      exact fun e => this (by omega)
  · rintro ⟨⟨h3, h4⟩, h1, h2⟩
    refine ⟨h1, h2, fun n hn => ?_, List.pairwise_iff_getElem.2 fun j k hj hk hjk e => ?_⟩
    · obtain ⟨k, hk, rfl⟩ := List.getElem_of_mem hn
      have := h3 k (by omega)
      rw [hF k hk] at this; omega
    · have := h4 k (by omega) j hjk
      rw [hF j hj, hF k hk] at this
      exact this (by omega)
set_option maxHeartbeats 8000000 in
set_option maxRecDepth 100000 in
theorem rmay_any {w : World} {m : Man} {A : Option Addr} {c : Nat} (h : ManAt w m A c) (hlen : m.runs.length ≤ 1000000) :
    Calls Tryz.prog 69 #[manV m A c] w fun e w' => e = .returned (.bool (may m)) ∧ Below w.heap.size w w' := by
  unfold manV
  have H := Lib.hid h
  obtain ⟨n, hn⟩ : ∃ n, n = m.runs.length := ⟨_, rfl⟩
  have HN := Lib.hid hn
  have hxl : (m.next : Int) < 18446744073709551616 := by have := h.next; omega
  rw [← hn] at hlen ⊢
  clear h hn
  obtain ⟨W0, hW0⟩ : ∃ W0, W0 = w.alloc (.cells #[.int .u64 (m.wal : Int), .slice A n c, .int .u64 (m.next : Int)] 36) := ⟨_, rfl⟩
  have hs0 : W0.heap.size = w.heap.size + 1 := by rw [hW0, size_alloc]
  have hmade := own_made W0 [m.wal] (by show 1 ≤ 1000; omega)
  have hbx : (W0.alloc (.cells (Nu11.nums [m.wal]).toArray 33)).heap[w.heap.size]? = some (.cells #[.int .u64 (m.wal : Int), .slice A n c, .int .u64 (m.next : Int)] 36) := by
    rw [heap_alloc _ _ _ (by omega), hW0, heap_new]
  have hbw : Below w.heap.size w (W0.alloc (.cells (Nu11.nums [m.wal]).toArray 33)) := by
    rw [hW0]; exact ((Below.refl _ _).alloc (Nat.le_refl _) _).alloc (by rw [size_alloc]; omega) _
  have hsz1 : (W0.alloc (.cells (Nu11.nums [m.wal]).toArray 33)).heap.size = w.heap.size + 2 := by rw [size_alloc, hs0]
  have hnm := H.out.nums.keep (Nat.le_refl _) hbw
  rw [hs0] at hmade
  subst hW0
  have HM := Lib.hid hmade
  have HBX := Lib.hid hbx
  have HW := Lib.hid hbw
  have HS := Lib.hid hsz1
  have HNM := Lib.hid hnm
  clear hmade hbx hbw hsz1 hnm hs0
  go_enter Tryz.func69, Tryz.ntmps69
  go_wp2_with (at_builtin; refine wpList_app (B := w.heap.size + 1) (H := [m.wal]) (L := m.runs) rfl _ _ rfl rfl (by rw [HN.out]; rfl) ?c1 ?c2 H.out.none ?c3 (Nat.le_trans (Nat.le_succ _) (Nat.le_of_eq HS.out.symm)) ?_)
  case c1 => exact HM.out
  case c2 => exact HNM.out
  case c3 => show 1 + m.runs.length ≤ 1099511627776; rw [← HN.out]; omega
  intro v w1 hown hb1
  have hl1 : (m.wal :: m.runs).length = n + 1 := by rw [List.length_cons, HN.out]
  rcases hown.shape with ⟨_, h0⟩ | ⟨g, c1, rfl, hg, hgl, hcells⟩
  · simp at h0
  rw [hl1]
  obtain ⟨F, hF⟩ : ∃ F : Nat → Int, ∀ t (h : t < m.all.length), F t = (m.all[t] : Int) := ⟨fun t => if h : t < m.all.length then (m.all[t] : Int) else 0, fun t h => by simp [h]⟩
  have hcw : ∀ t, t < n + 1 → w1.cell? ⟨g, t, none⟩ = some (.int .u64 (F t)) := fun t ht => by rw [hF t (by show t < (m.wal :: m.runs).length; rw [hl1]; exact ht)]; exact (hcells t (by rw [hl1]; exact ht)).1
  have hbb : Below w.heap.size w w1 := HW.out.trans (hb1.mono (Nat.le_succ _))
  have hbx1 := (hb1.block _ (Nat.lt_succ_self w.heap.size)).trans HBX.out
  have HMAY := Lib.hid (may_upto hF)
  have HBB := Lib.hid hbb
  have HBX1 := Lib.hid hbx1
  have HCW := Lib.hid hcw
  have HGL := Lib.hid hgl
  clear hcells hF hg hgl hown hb1 hcw hbb hbx1 HM HNM HBX HS HW hl1
  go_wp2_with fail
  go_loopg [4, 5] (n + 2) (fun g1 vi _ wr => ∃ i : Nat, vi = .int .i64 (i : Int) ∧ i ≤ n + 1 ∧ n + 2 - i ≤ g1 ∧ Hid (Upto F m.next i) ∧ Hid (Below w.heap.size w wr) ∧ Hid (∀ t, t < n + 1 → wr.cell? ⟨g, t, none⟩ = some (.int .u64 (F t))) ∧ Hid (wr.heap[w.heap.size]? = some (.cells #[.int .u64 (m.wal : Int), .slice A n c, .int .u64 (m.next : Int)] 36)))
  case atStart => exact ⟨0, rfl, by omega, by omega, Lib.hid ⟨fun k hk => by omega, fun k hk => by omega⟩, HBB, HCW, HBX1⟩
  case round =>
    clear HBB HCW HBX1
    obtain ⟨i, rfl, hi, hg1, HU, HB, HC, HX⟩ := hrel
    by_cases hin : i < n + 1
    · have hcw := HC.out i hin
      have x2 : wr.cell? ⟨w.heap.size, 2, none⟩ = some (.int .u64 (m.next : Int)) := by rw [cell_of HX.out]; rfl
      have hzi : (i : Int) < (n : Int) + 1 := by omega
      by_cases h1 : F i < 1
      · have hz1 : decide (F i < 1) = true := decide_eq_true h1
        have he : may m = false := by
          cases hm : may m with
          | false => rfl
          | true => have := ((HMAY.out.1 hm).1.within i (by rw [← HN.out]; exact hin)).1; omega
        have HE := Lib.hid he
        clear he
        go_wp2
        go_quiet (fail)
        go_wp2
        go_ret
        exact ⟨by rw [HE.out]; rfl, hb_drewN HB _⟩
      · have hz1 : decide (F i < 1) = false := decide_eq_false h1
        by_cases h2 : F i ≥ m.next
        · have hz2 : decide ((m.next : Int) ≤ F i) = true := decide_eq_true h2
          have he : may m = false := by
            cases hm : may m with
            | false => rfl
            | true => have := ((HMAY.out.1 hm).1.within i (by rw [← HN.out]; exact hin)).2; omega
          have HE := Lib.hid he
          clear he
          go_wp2
          go_quiet (fail)
          go_wp2
          go_ret
          exact ⟨by rw [HE.out]; rfl, hb_drewN HB _⟩
        · have hz2 : decide ((m.next : Int) ≤ F i) = false := decide_eq_false (by omega)
          have HW2 : Hid (1 ≤ F i ∧ F i < m.next) := Lib.hid (by omega)
          go_wp2
          go_quiet (fail)
          go_wp2
          have HB2 := Lib.hid (hb_drewN HB nq)
          have hcw2 : ∀ t, t < n + 1 → (wr.drewN nq).cell? ⟨g, t, none⟩ = some (.int .u64 (F t)) := HC.out
          have hx2 : (wr.drewN nq).heap[w.heap.size]? = some (.cells #[.int .u64 (m.wal : Int), .slice A n c, .int .u64 (m.next : Int)] 36) := HX.out
          have HC2 := Lib.hid hcw2
          have HX2 := Lib.hid hx2
          clear hcw x2 hcw2 hx2
          generalize wr.drewN nq = w3 at HB2 HC2 HX2 ⊢
          clear HC HX HB
          go_wp2
          go_loopg [5] (i + 1) (fun g2 vk wr => ∃ k : Nat, vk = .int .i64 (k : Int) ∧ k ≤ i ∧ i + 1 - k ≤ g2 ∧ Hid (∀ j, j < k → F j ≠ F i) ∧ Hid (Below w.heap.size w wr) ∧ Hid (∀ t, t < n + 1 → wr.cell? ⟨g, t, none⟩ = some (.int .u64 (F t))) ∧ Hid (wr.heap[w.heap.size]? = some (.cells #[.int .u64 (m.wal : Int), .slice A n c, .int .u64 (m.next : Int)] 36)))
          case atStart => exact ⟨0, rfl, by omega, by omega, Lib.hid (fun j hj => by omega), HB2, HC2, HX2⟩
          case round =>
            clear HB2 HC2 HX2
            obtain ⟨k, rfl, hk, hg2, HD, HB, HC, HX⟩ := hrel
            by_cases hki : k < i
            · have hck := HC.out k (by omega)
              have hci := HC.out i hin
              have hzk : (k : Int) < (i : Int) := by omega
              have hzn : (k : Int) < (n : Int) + 1 := by omega
              by_cases hd : F k = F i
              · have hdb : (F k == F i) = true := by simpa using hd
                have he : may m = false := by
                  cases hm : may m with
                  | false => rfl
                  | true => exact absurd hd ((HMAY.out.1 hm).1.apart i (by rw [← HN.out]; exact hin) k hki)
                have HE := Lib.hid he
                clear he hd
                go_wp2
                go_quiet (fail)
                go_wp2
                go_ret
                exact ⟨by rw [HE.out]; rfl, hb_drewN HB _⟩
              · have hdb : (F k == F i) = false := by simpa using hd
                have HD2 : Hid (∀ j, j < k + 1 → F j ≠ F i) := Lib.hid fun j hj => by
                  rcases Nat.lt_or_ge j k with e | e
                  · exact HD.out j e
                  · obtain rfl : j = k := by omega
                    exact hd
                clear hd
                go_wp2
                go_quiet (fail)
                go_wp2
                go_roundg (i - k)
                case measure => omega
                case rel => exact ⟨k + 1, by go_num, by omega, by omega, HD2, Lib.hid (hb_drewN HB _), HC, HX⟩
            · obtain rfl : k = i := by omega
              have hzk : ¬ (k : Int) < (k : Int) := by omega
              have HU2 : Hid (Upto F m.next (k + 1)) := Lib.hid ⟨fun j hj => by
                rcases Nat.lt_or_ge j k with e | e
                · exact HU.out.within j e
                · obtain rfl : j = k := by omega
                  exact HW2.out, fun j hj q hq => by
                rcases Nat.lt_or_ge j k with e | e
                · exact HU.out.apart j e q hq
                · obtain rfl : j = k := by omega
                  exact HD.out q hq⟩
              go_wp2
              go_roundg (n + 1 - k)
              case measure => omega
              case rel => exact ⟨k + 1, by go_num, by omega, by omega, HU2, HB, HC, HX⟩
    · obtain rfl : i = n + 1 := by omega
      have hzi : ¬ (n : Int) + 1 < (n : Int) + 1 := by omega
      have x1 : wr.cell? ⟨w.heap.size, 1, none⟩ = some (.slice A n c) := by rw [cell_of HX.out]; rfl
      have x2 : wr.cell? ⟨w.heap.size, 2, none⟩ = some (.int .u64 (m.next : Int)) := by rw [cell_of HX.out]; rfl
      by_cases h3 : n ≤ 256
      · have hz3 : decide ((n : Int) ≤ 256) = true := decide_eq_true (by omega)
        by_cases h4 : m.next ≤ 1099511627776
        · have hz4 : decide ((m.next : Int) ≤ 1099511627776) = true := decide_eq_true (by omega)
          have HE : Hid (may m = true) := Lib.hid (HMAY.out.2 ⟨by rw [← HN.out]; exact HU.out, by rw [← HN.out]; exact h3, h4⟩)
          go_wp2
          go_ret
          exact ⟨by rw [HE.out]; rfl, HB.out⟩
        · have hz4 : decide ((m.next : Int) ≤ 1099511627776) = false := decide_eq_false (by omega)
          have HE : Hid (may m = false) := Lib.hid (by
            cases hm : may m with
            | false => rfl
            | true => exact absurd (HMAY.out.1 hm).2.2 h4)
          go_wp2
          go_ret
          exact ⟨by rw [HE.out]; rfl, HB.out⟩
      · have hz3 : decide ((n : Int) ≤ 256) = false := decide_eq_false (by omega)
        have HE : Hid (may m = false) := Lib.hid (by
          cases hm : may m with
          | false => rfl
          | true => exact absurd (HMAY.out.1 hm).2.1 (by rw [← HN.out]; exact h3))
        go_wp2
        go_ret
        exact ⟨by rw [HE.out]; rfl, HB.out⟩
end Go.Proofs.YtaoneiicoaiehaaGreat.Rm11
