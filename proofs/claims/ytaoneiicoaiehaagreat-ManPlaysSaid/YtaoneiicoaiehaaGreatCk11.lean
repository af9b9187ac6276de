/- The contract of man.Check: whether a man may be. -/
import Derived.Test.YtaoneiicoaiehaaGreatMa11
namespace Go.Proofs.YtaoneiicoaiehaaGreat.Ck11
open Go Go.RowKit Go.Lib Go.Proofs.YtaoneiicoaiehaaGreat.Dh Go.Proofs.YtaoneiicoaiehaaGreat.Sx11 Go.Proofs.YtaoneiicoaiehaaGreat.Nu11 Go.Proofs.YtaoneiicoaiehaaGreat.Ma11
theorem below_drewN (w : World) : ∀ n, Below w.heap.size w (w.drewN n)
  | 0 => Below.refl _ _
  | n + 1 => (below_drewN w n).drew
theorem hb_drewN {w w' : World} (h : Hid (Below w.heap.size w w')) (n : Nat) : Below w.heap.size w (w'.drewN n) :=
  h.out.trans ((below_drewN w' n).mono h.out.size)
def erg (m : Man) : Int := if may m then 0 else 2
theorem erg_bad {m : Man} (h : may m = false) : erg m = 2 := by unfold erg; rw [h]; rfl
set_option maxHeartbeats 8000000 in
set_option maxRecDepth 100000 in
theorem check_any (hsort : Sorts) {w : World} {m : Man} {A : Option Addr} {c : Nat} (h : ManAt w m A c) (hlen : m.runs.length ≤ 1000000) :
    Calls Tryz.prog 19 #[manV m A c] w fun e w' => e = .returned (.int .i64 (erg m)) ∧ Below w.heap.size w w' := by
  by_cases hl : 256 < m.runs.length
  · have hb : may m = false := by
      cases hm : may m with
      | false => rfl
      | true => have := (may_iff.1 hm).1; omega
    rw [erg_bad hb]
    unfold manV
    obtain ⟨n, hn⟩ : ∃ n, n = m.runs.length := ⟨_, rfl⟩
    rw [← hn] at hl ⊢
    have hlz : (n : Int) > 256 := by omega
    clear h hb hn hl
    go_enter Tryz.func19, Tryz.ntmps19
    go_wp2
    go_ret
    exact ⟨rfl, (Below.refl _ _).alloc (Nat.le_refl _) _⟩
  · by_cases hx : 1099511627776 < m.next
    · have hb : may m = false := by
        cases hm : may m with
        | false => rfl
        | true => have := (may_iff.1 hm).2.1; omega
      rw [erg_bad hb]
      unfold manV
      obtain ⟨n, hn⟩ : ∃ n, n = m.runs.length := ⟨_, rfl⟩
      rw [← hn] at hl ⊢
      have hlz : ¬ (n : Int) > 256 := by omega
      have hxz : (m.next : Int) > 1099511627776 := by omega
      clear h hb hn hl
      go_enter Tryz.func19, Tryz.ntmps19
      go_wp2
      go_ret
      exact ⟨rfl, (Below.refl _ _).alloc (Nat.le_refl _) _⟩
    · have hlz : ¬ (m.runs.length : Int) > 256 := by omega
      have hxz : ¬ (m.next : Int) > 1099511627776 := by omega
      unfold manV
      have H := Lib.hid h
      obtain ⟨n, hn⟩ : ∃ n, n = m.runs.length := ⟨_, rfl⟩
      have HN := Lib.hid hn
      rw [← hn] at hl hlen hlz ⊢
      clear h hn
      -- the box of the argument, the row of one number
      obtain ⟨W0, hW0⟩ : ∃ W0, W0 = w.alloc (.cells #[.int .u64 (m.wal : Int), .slice A n c, .int .u64 (m.next : Int)] 36) := ⟨_, rfl⟩
      have hs0 : W0.heap.size = w.heap.size + 1 := by rw [hW0, size_alloc]
      have hmade := own_made W0 [m.wal] (by show 1 ≤ 1000; omega)
      have hnx : (W0.alloc (.cells (Nu11.nums [m.wal]).toArray 33)).cell? ⟨w.heap.size, 2, none⟩ = some (.int .u64 (m.next : Int)) := by
        have e := heap_alloc W0 (.cells (Nu11.nums [m.wal]).toArray 33) w.heap.size (by omega)
        simp only [World.cell?, e]
        rw [hW0, heap_new]
        rfl
      have hbw : Below w.heap.size w (W0.alloc (.cells (Nu11.nums [m.wal]).toArray 33)) := by
        rw [hW0]; exact ((Below.refl _ _).alloc (Nat.le_refl _) _).alloc (by rw [size_alloc]; omega) _
      have hsz1 : (W0.alloc (.cells (Nu11.nums [m.wal]).toArray 33)).heap.size = w.heap.size + 2 := by rw [size_alloc, hs0]
      have hnm := H.out.nums.keep (Nat.le_refl _) hbw
      rw [hs0] at hmade
      subst hW0
      have HM := Lib.hid hmade
      have HX := Lib.hid hnx
      have HW := Lib.hid hbw
      have HS := Lib.hid hsz1
      have HNM := Lib.hid hnm
      clear hmade hnx hbw hsz1 hnm hs0
      go_enter Tryz.func19, Tryz.ntmps19
      go_wp2_with (at_builtin; refine wpList_app (B := w.heap.size + 1) (H := [m.wal]) (L := m.runs) rfl _ _ rfl rfl (by rw [HN.out]; rfl) ?c1 ?c2 H.out.none ?c3 (Nat.le_trans (Nat.le_succ _) (Nat.le_of_eq HS.out.symm)) ?_)
      case c1 => exact HM.out
      case c2 => exact HNM.out
      case c3 => show 1 + m.runs.length ≤ 1099511627776; rw [← HN.out]; omega
      intro v w1 hown hb1
      obtain ⟨A1, c1, rfl, hcall⟩ := hsort hown (by simp) (by rw [List.length_cons, ← HN.out]; omega)
      have hl1 : (m.wal :: m.runs).length = n + 1 := by rw [List.length_cons, HN.out]
      rw [hl1] at hcall ⊢
      have HC := Lib.hid hcall
      have HB1 := Lib.hid hb1
      clear hown hcall hb1 HM HNM
      go_wp2_with fail
      refine HC.out.mono ?_
      rintro e w2 ⟨rfl, l, hp, ha, hnums, hb2⟩
      have hln : l.length = n + 1 := by rw [hp.length_eq]; exact hl1
      have hne : l ≠ [] := fun e => by rw [e] at hln; simp at hln
      obtain ⟨g, o, rfl, hg, hcells⟩ := hnums hne
      have hends := ends_iff hp ha (by omega) m.next
      have hdup := nodup_iff hp ha
      have hbb : Below w.heap.size w w2 := HW.out.trans ((HB1.out.trans hb2).mono (Nat.le_succ _))
      have hnext : w2.cell? ⟨w.heap.size, 2, none⟩ = some (.int .u64 (m.next : Int)) := (hb2.cell (p := ⟨w.heap.size, 2, none⟩) (Nat.lt_succ_self _)).trans ((HB1.out.cell (p := ⟨w.heap.size, 2, none⟩) (Nat.lt_succ_self _)).trans HX.out)
      obtain ⟨F, hF⟩ : ∃ F : Nat → Int, ∀ t (h : t < l.length), F t = (l[t] : Int) := ⟨fun t => if h : t < l.length then (l[t] : Int) else 0, fun t h => by simp [h]⟩
      have hcw : ∀ t, t < n + 1 → w2.cell? ⟨g, o + t, none⟩ = some (.int .u64 (F t)) := fun t ht => by rw [hF t (by omega)]; exact hcells t (by omega)
      have h00 := hcw 0 (by omega)
      rw [Nat.add_zero] at h00
      have hmay : may m = true ↔ (¬ (F 0 = 0 ∨ (m.next : Int) ≤ F n)) ∧ ∀ i, i + 1 < n + 1 → F (i + 1) ≠ F i := by
        rw [may_iff]
        have e1 : F 0 = (l[0] : Int) := hF 0 (by omega)
        have e2 : F n = (l[l.length - 1] : Int) := by rw [hF n (by omega)]; congr 2; omega
        constructor
        · rintro ⟨_, _, h3, h4⟩
          refine ⟨?_, fun i hi => ?_⟩
          · have := hends.1 h3
            rw [e1, e2]; omega
          · have := hdup.1 h4 i (by omega)
            rw [hF _ (by omega), hF i (by omega)]; omega
        · rintro ⟨h3, h4⟩
          refine ⟨by rw [← HN.out]; omega, by omega, hends.2 (by rw [e1, e2] at h3; omega), hdup.2 fun i hi => ?_⟩
          have := h4 i (by omega)
          rw [hF _ (by omega), hF i (by omega)] at this; omega
      have HMAY := Lib.hid hmay
      have HBB := Lib.hid hbb
      have HNX := Lib.hid hnext
      have HCW := Lib.hid hcw
      clear hends hdup hcells hF hp ha hnums hb2 hmay hbb HB1 HX HW HS HC hne hln
      by_cases hf0 : F 0 = 0
      · have he : erg m = 2 := erg_bad (by
          cases hm : may m with
          | false => rfl
          | true => exact absurd (.inl hf0) (HMAY.out.1 hm).1)
        have HE := Lib.hid he
        clear he
        go_wp2_with fail
        go_quiet (fail)
        go_wp2
        go_ret
        exact ⟨by rw [HE.out]; rfl, hb_drewN HBB _⟩
      · have hf0b : (F 0 == 0) = false := by simpa using hf0
        by_cases hfn : (m.next : Int) ≤ F n
        · have he : erg m = 2 := erg_bad (by
            cases hm : may m with
            | false => rfl
            | true => exact absurd (.inr hfn) (HMAY.out.1 hm).1)
          have HE := Lib.hid he
          clear he
          go_wp2_with fail
          go_quiet (fail)
          go_wp2
          go_ret
          exact ⟨by rw [HE.out]; rfl, hb_drewN HBB _⟩
        · go_wp2_with fail
          go_quiet (fail)
          have HB3 := Lib.hid (hb_drewN HBB nq)
          have hcw3 : ∀ t, t < n + 1 → (w2.drewN nq).cell? ⟨g, o + t, none⟩ = some (.int .u64 (F t)) := hcw
          have HC3 := Lib.hid hcw3
          have hg3 : g < (w2.drewN nq).heap.size := hg
          have HG3 := Lib.hid hg3
          clear hcw h00 hnext hcw3 hg3 hg
          generalize w2.drewN nq = w3 at HB3 HC3 HG3 ⊢
          clear HCW HNX HBB
          go_wp2
          go_loopg [39] (n + 1) (fun g1 v wr => ∃ k : Nat, v = .int .i64 (k : Int) ∧ k ≤ n + 1 ∧ n + 1 - k ≤ g1 ∧ Hid (∀ i, i + 1 < k → F (i + 1) ≠ F i) ∧ Hid (Below w.heap.size w wr) ∧ Hid (∀ t, t < n + 1 → wr.cell? ⟨g, o + t, none⟩ = some (.int .u64 (F t))))
          case atStart => exact ⟨0, rfl, by omega, by omega, Lib.hid (fun i hi => by omega), HB3, HC3⟩
          case round =>
            clear HB3 HC3
            obtain ⟨k, rfl, hk, hkg, HK, HB, HC⟩ := hrel
            by_cases hkn : k < n + 1
            · have hcw := HC.out
              by_cases hk0 : k = 0
              · subst hk0
                go_wp2
                go_quiet (fail)
                go_wp2
                go_roundg n
                case measure => omega
                case rel => exact ⟨0 + 1, by go_num, by omega, by omega, Lib.hid (fun i hi => by omega), Lib.hid (hb_drewN HB _), HC⟩
              · have hk1 : (k : Int) > 0 := by omega
                have hk2 : decide ((k : Int) > 0) = true := decide_eq_true hk1
                have hk3 : 0 < k := by omega
                by_cases hd : F k = F (k - 1)
                · have hdb : (F k == F (k - 1)) = true := by simpa using hd
                  have he : erg m = 2 := erg_bad (by
                    cases hm : may m with
                    | false => rfl
                    | true =>
                      have := (HMAY.out.1 hm).2 (k - 1) (by omega)
                      rw [show k - 1 + 1 = k by omega] at this
                      exact absurd hd this)
                  have HE := Lib.hid he
                  clear he hd
                  go_wp2
                  go_quiet (fail)
                  go_wp2
                  go_ret
                  exact ⟨by rw [HE.out]; rfl, hb_drewN HB _⟩
                · have hdb : (F k == F (k - 1)) = false := by simpa using hd
                  have HD := Lib.hid hd
                  clear hd
                  go_wp2
                  go_quiet (fail)
                  go_wp2
                  go_roundg (n + 1 - (k + 1))
                  case measure => omega
                  case rel => exact ⟨k + 1, by go_num, by omega, by omega, Lib.hid (fun i hi => by
                    by_cases e : i + 1 = k
                    · obtain rfl : i = k - 1 := by omega
                      rw [e]; exact HD.out
                    · exact HK.out i (by omega)), Lib.hid (hb_drewN HB _), HC⟩
            · obtain rfl : k = n + 1 := by omega
              have he : erg m = 0 := by
                unfold erg
                rw [if_pos (HMAY.out.2 ⟨by omega, HK.out⟩)]
              have HE := Lib.hid he
              clear he
              go_wp2
              go_ret
              exact ⟨by rw [HE.out]; rfl, HB.out⟩
end Go.Proofs.YtaoneiicoaiehaaGreat.Ck11
