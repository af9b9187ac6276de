/- The document's Same of two mans; the law's Large. -/
import Derived.Test.YtaoneiicoaiehaaGreatMa11
import Derived.Test.YtaoneiicoaiehaaGreatCk11
namespace Go.Proofs.YtaoneiicoaiehaaGreat.Sa11
open Go Go.RowKit Go.Lib Go.Proofs.YtaoneiicoaiehaaGreat.Dh Go.Proofs.YtaoneiicoaiehaaGreat.Sx11 Go.Proofs.YtaoneiicoaiehaaGreat.Nu11 Go.Proofs.YtaoneiicoaiehaaGreat.Ma11 Go.Proofs.YtaoneiicoaiehaaGreat.Ck11
def same (a b : Man) : Bool := decide (a.wal = b.wal) && decide (a.next = b.next) && decide (a.runs = b.runs)
theorem same_iff {a b : Man} : same a b = true ↔ a = b := by
  unfold same
  cases a; cases b
  simp only [Bool.and_eq_true, decide_eq_true_eq, Man.mk.injEq]
  constructor
  · rintro ⟨⟨h1, h2⟩, h3⟩; exact ⟨h1, h3, h2⟩
  · rintro ⟨h1, h2, h3⟩; exact ⟨⟨h1, h3⟩, h2⟩
theorem same_not {a b : Man} (h : a ≠ b) : same a b = false := by
  cases e : same a b with
  | false => rfl
  | true => exact absurd (same_iff.1 e) h
theorem same_self (a : Man) : same a a = true := same_iff.2 rfl
set_option maxHeartbeats 8000000 in
set_option maxRecDepth 100000 in
theorem same_any {w : World} {a b : Man} {A A' : Option Addr} {c c' : Nat} (h : Nums w A a.runs) (h' : Nums w A' b.runs) (hl : a.runs.length ≤ 1000000000) (hl' : b.runs.length ≤ 1000000000) :
    Calls Tryz.prog 18 #[manV a A c, manV b A' c'] w fun e w' => e = .returned (.bool (same a b)) ∧ Below w.heap.size w w' := by
  obtain ⟨a1, al, a2⟩ := a
  obtain ⟨b1, bl, b2⟩ := b
  unfold manV
  dsimp only at h h' hl hl' ⊢
  obtain ⟨n, hn⟩ : ∃ n, n = al.length := ⟨_, rfl⟩
  obtain ⟨k, hk⟩ : ∃ k, k = bl.length := ⟨_, rfl⟩
  have HN := Lib.hid hn
  have HK := Lib.hid hk
  have H := Lib.hid h
  have H' := Lib.hid h'
  rw [← hn] at hl ⊢
  rw [← hk] at hl' ⊢
  clear hn hk h h'
  have hb0 : Below w.heap.size w ((w.alloc (.cells #[.int .u64 (a1 : Int), .slice A n c, .int .u64 (a2 : Int)] 36)).alloc (.cells #[.int .u64 (b1 : Int), .slice A' k c', .int .u64 (b2 : Int)] 36)) := ((Below.refl _ _).alloc (Nat.le_refl _) _).alloc (by rw [size_alloc]; omega) _
  have HB0 := Lib.hid hb0
  clear hb0
  by_cases e1 : a1 = b1
  · by_cases e2 : a2 = b2
    · by_cases e3 : n = k
      · subst e1 e2 e3
        have HE1 : Hid True := Lib.hid trivial
        go_enter Tryz.func18, Tryz.ntmps18
        go_wp2
        go_loopg [5] (n + 1) (fun g1 vk wr => ∃ j : Nat, vk = .int .i64 (j : Int) ∧ j ≤ n ∧ n - j < g1 ∧ Hid (al.take j = bl.take j) ∧ Hid (Below w.heap.size w wr) ∧ Hid (wr.heap[w.heap.size]? = some (.cells #[.int .u64 (a1 : Int), .slice A n c, .int .u64 (a2 : Int)] 36)) ∧ Hid (wr.heap[w.heap.size + 1]? = some (.cells #[.int .u64 (a1 : Int), .slice A' n c', .int .u64 (a2 : Int)] 36)))
        case atStart =>
          refine ⟨0, rfl, by omega, by omega, Lib.hid rfl, HB0, Lib.hid ?_, Lib.hid ?_⟩
          · rw [heap_alloc _ _ _ (by rw [size_alloc]; omega), heap_new]
          · have hx := heap_new (w.alloc (.cells #[.int .u64 (a1 : Int), .slice A n c, .int .u64 (a2 : Int)] 36)) (.cells #[.int .u64 (a1 : Int), .slice A' n c', .int .u64 (a2 : Int)] 36)
            rw [size_alloc] at hx; exact hx
        case round =>
          obtain ⟨j, rfl, hj, hjg, HT, HB, HX, HY⟩ := hrel
          have x1 : wr.cell? ⟨w.heap.size, 1, none⟩ = some (.slice A n c) := by rw [cell_of HX.out]; rfl
          have y1 : wr.cell? ⟨w.heap.size + 1, 1, none⟩ = some (.slice A' n c') := by rw [cell_of HY.out]; rfl
          by_cases hlt : j < n
          · have hja : j < al.length := by rw [← HN.out]; exact hlt
            have hjb : j < bl.length := by rw [← HK.out]; exact hlt
            obtain ⟨g1, o1, rfl, c1⟩ := (H.out.keep (Nat.le_refl _) HB.out).at_ hja
            obtain ⟨g2, o2, rfl, c2⟩ := (H'.out.keep (Nat.le_refl _) HB.out).at_ hjb
            have hsn1 := List.take_succ_eq_append_getElem hja
            have hsn2 := List.take_succ_eq_append_getElem hjb
            obtain ⟨p, hp⟩ : ∃ p, p = al[j] := ⟨_, rfl⟩
            obtain ⟨q, hq⟩ : ∃ q, q = bl[j] := ⟨_, rfl⟩
            rw [← hp] at c1 hsn1
            rw [← hq] at c2 hsn2
            have HS1 := Lib.hid hsn1
            have HS2 := Lib.hid hsn2
            have HP := Lib.hid hp
            have HQ := Lib.hid hq
            clear hp hq hsn1 hsn2
            by_cases e : p = q
            · subst e
              go_wp2
              go_quiet (fail)
              go_wp2
              go_roundg (n - j)
              case measure => omega
              case rel => exact ⟨j + 1, by go_num, by omega, by omega, Lib.hid (by rw [HS1.out, HS2.out, HT.out]), Lib.hid (hb_drewN HB _), HX, HY⟩
            · have eb : (((p : Nat) : Int) == ((q : Nat) : Int)) = false := beq_eq_false_iff_ne.2 (by omega)
              have hr : same ⟨a1, al, a2⟩ ⟨a1, bl, a2⟩ = false := same_not fun h => by
                injection h with _ h2 _
                apply e
                rw [HP.out, HQ.out]
                simp only [h2]
              have HR := Lib.hid hr
              clear hr
              go_wp2
              go_quiet (fail)
              go_wp2
              go_ret
              exact ⟨by rw [HR.out]; rfl, hb_drewN HB _⟩
          · obtain rfl : j = n := by omega
            have hr : same ⟨a1, al, a2⟩ ⟨a1, bl, a2⟩ = true := by
              have h1 := HT.out
              rw [List.take_of_length_le (by rw [← HN.out]; exact Nat.le_refl _), List.take_of_length_le (by rw [← HK.out]; exact Nat.le_refl _)] at h1
              rw [h1]; exact same_self _
            have HR := Lib.hid hr
            clear hr
            go_wp2
            go_ret
            exact ⟨by rw [HR.out]; rfl, HB.out⟩
      · have hr : same ⟨a1, al, a2⟩ ⟨b1, bl, b2⟩ = false := same_not fun h => e3 (by injection h with _ h2 _; rw [HN.out, HK.out, h2])
        have HR := Lib.hid hr
        subst e1 e2
        have eb : ((n : Int) == (k : Int)) = false := beq_eq_false_iff_ne.2 (by omega)
        clear hr
        go_enter Tryz.func18, Tryz.ntmps18
        go_wp2
        go_ret
        exact ⟨by rw [HR.out]; rfl, HB0.out⟩
    · have hr : same ⟨a1, al, a2⟩ ⟨b1, bl, b2⟩ = false := same_not fun h => e2 (by injection h)
      have HR := Lib.hid hr
      subst e1
      have eb : ((a2 : Int) == (b2 : Int)) = false := beq_eq_false_iff_ne.2 (by omega)
      clear hr
      go_enter Tryz.func18, Tryz.ntmps18
      go_wp2
      go_ret
      exact ⟨by rw [HR.out]; rfl, HB0.out⟩
  · have hr : same ⟨a1, al, a2⟩ ⟨b1, bl, b2⟩ = false := same_not fun h => e1 (by injection h)
    have HR := Lib.hid hr
    have eb : ((a1 : Int) == (b1 : Int)) = false := beq_eq_false_iff_ne.2 (by omega)
    clear hr
    go_enter Tryz.func18, Tryz.ntmps18
    go_wp2
    go_ret
    exact ⟨by rw [HR.out]; rfl, HB0.out⟩
end Go.Proofs.YtaoneiicoaiehaaGreat.Sa11
