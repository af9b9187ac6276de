/- The contract of the document's textBegins and begins. -/
import Derived.Test.YthoiolihkomgmaaDoorOq5
import Derived.Test.YthoiolihkomgmaaDoorVf
import Derived.Deep.RegionHeld3
import Derived.Deep.DrawnRows
namespace Go.Proofs.YthoiolihkomgmaaDoor.Tb5
open Go Go.RowKit Go.Proofs Go.Proofs.YthoiolihkomgmaaDoor.Vm Go.Proofs.YthoiolihkomgmaaDoor.Ve Go.Proofs.YthoiolihkomgmaaDoor.Vs Go.Proofs.YthoiolihkomgmaaDoor.Vc Go.Proofs.YthoiolihkomgmaaDoor.Vf Go.Proofs.YthoiolihkomgmaaDoor.Cm Go.Proofs.YthoiolihkomgmaaDoor.Cu5 Go.Proofs.YthoiolihkomgmaaDoor.Cg5 Go.Proofs.YthoiolihkomgmaaDoor.Op5
theorem may_text {l : List UInt8} (h : l.length ≤ 100) : may ⟨5, 0, 0, bs l⟩ = Lib.validD l := by
  cases hv : Lib.validD l
  · cases hm : may ⟨5, 0, 0, bs l⟩
    · rfl
    · have := (may_is _).1 hm
      generalize hu : (⟨5, 0, 0, bs l⟩ : V) = u at this
      cases this with
      | null => injection hu with e _ _ _; omega
      | bool n hn => injection hu with e _ _ _; omega
      | int n => injection hu with e _ _ _; omega
      | real r hr => injection hu with e _ _ _; omega
      | bytes s hs => injection hu with e _ _ _; omega
      | string s hs hs2 =>
        injection hu with _ _ _ e
        subst e
        have h2 : Lib.validD l = true := hs2
        rw [hv] at h2; cases h2
  · exact (may_is _).2 (.string _ (by rw [bs_size]; exact h) hv)
theorem tb_succ (f : Nat) (l : List UInt8) (n k : Nat) (h : k ≤ l.length) : tbGo (f + 1) l n k = (if Lib.validD (l.take (l.length - k)) = true then (k == 0 || opz (l.drop (l.length - k)) (n - l.length + k)) else tbGo f l n (k + 1)) := by
  show (if k ≤ l.length then _ else _) = _
  rw [if_pos h]
set_option maxRecDepth 40000 in
set_option maxHeartbeats 2000000 in
theorem text_begins (l : List UInt8) (n : Nat) (w : World) (hT : Tabs w) (hl : l.length ≤ n) (hn : n ≤ 100) :
    Calls Tryd.prog 46 #[.string (bs l), .int .i64 (n : Int)] w fun e w' => e = .returned (.bool (tb l n)) ∧ Below w.heap.size w w' := by
  have HT := Lib.hid hT
  obtain ⟨ANS, hA⟩ : ∃ A, A = tb l n := ⟨_, rfl⟩
  rw [← hA]
  have HA := Lib.hid hA
  obtain ⟨S, hS⟩ : ∃ S, S = bs l := ⟨_, rfl⟩
  obtain ⟨L, hL⟩ : ∃ L, L = l.length := ⟨_, rfl⟩
  have hsz : S.size = L := by rw [hS, hL]; exact bs_size l
  have HS := Lib.hid hS; have HL := Lib.hid hL
  rw [← hL] at hl
  rw [← hS]
  clear hT hA hS hL
  go_enter Tryd.func46, Tryd.ntmps46
  go_wp2
  go_loopw [5, 6, 7, 8, 9, 10, 11, 12, 13, 14, 15, 16, 17, 18, 19, 20, 21, 22, 23, 24] (fun i _ _ _ _ _ _ _ _ _ _ _ _ _ _ _ _ _ _ _ wr => ∃ k : Nat, k ≤ 4 ∧ i = .int .i64 k ∧ Hid (tbGo (4 - k) l n k = ANS) ∧ Hid (Below w.heap.size w wr)) (fun i _ _ _ _ _ _ _ _ _ _ _ _ _ _ _ _ _ _ _ _ => 4 - (intOf i).toNat)
  case atStart => exact ⟨0, by omega, rfl, Lib.hid HA.out.symm, Lib.hid (Below.refl _ _)⟩
  case round =>
    obtain ⟨k, hk, rfl, hg, hb⟩ := hrel
    by_cases h3 : k ≤ 3
    · have h3z : (k : Int) ≤ 3 := by omega
      by_cases hkL : k ≤ L
      · have hkz : (k : Int) ≤ (L : Int) := by omega
        obtain ⟨J, hJ⟩ : ∃ J, J = L - k := ⟨_, rfl⟩
        have hJz : (L : Int) - (k : Int) = (J : Int) := by omega
        have hJ0 : (0 : Int) ≤ (J : Int) := by omega
        have hJL : (J : Int) ≤ (L : Int) := by omega
        have hJL' : J ≤ L := by omega
        obtain ⟨T, hTt⟩ : ∃ T, T = bs (l.take J) := ⟨_, rfl⟩
        have hex : S.extract 0 J = T := by rw [HS.out, hTt]; exact bs_take l J
        obtain ⟨D, hD⟩ : ∃ D, D = bs (l.drop J) := ⟨_, rfl⟩
        have hed : S.extract J L = D := by rw [HS.out, hD, HL.out]; exact bs_drop l J
        have hgo := hg.out
        rw [show 4 - k = (4 - (k + 1)) + 1 by omega, tb_succ _ _ _ _ (by rw [← HL.out]; exact hkL), ← HL.out, ← hJ] at hgo
        have hlen : (l.take J).length ≤ 100 := by rw [List.length_take, ← HL.out]; omega
        have HM : Hid (∀ W, Tabs W → Calls Tryd.prog 13 #[.agg #[.int .u8 5, .int .i64 0, .int .u64 0, .string T]] W fun e w' => e = .returned (.bool (Lib.validD (l.take J))) ∧ Below W.heap.size W w') := Lib.hid fun W hW => by
          have := refmay_any ⟨5, 0, 0, bs (l.take J)⟩ W hW (by show (0 : Nat) < _; omega) (by show (l.take J).length ≤ _; omega)
          rw [may_text hlen] at this
          rw [hTt]
          exact this
        have HTr := Lib.hid (HT.out.keep hb.out)
        cases hv : Lib.validD (l.take J)
        · rw [hv] at HM hgo
          rw [if_neg (by simp)] at hgo
          have HG := Lib.hid hgo
          clear hgo hg hv hD hTt hJ hlen hed
          go_wp2_with fail
          with_reducible refine (HM.out _ HTr.out).mono ?_
          rintro e w1 ⟨rfl, hb1⟩
          have HB1 := Lib.hid hb1
          clear hb1
          go_wp2
          go_round
          case rel => exact ⟨k + 1, by omega, by go_num, HG, Lib.hid (hb.out.trans (HB1.out.mono hb.out.size))⟩
          case measure => simp [intOf]; omega
        · rw [hv] at HM hgo
          rw [if_pos rfl] at hgo
          by_cases hk0 : k = 0
          · subst hk0
            have HG := Lib.hid hgo
            obtain rfl : J = L := by omega
            clear hgo hg hv hD hTt hlen hed hJ hJz
            go_wp2_with fail
            with_reducible refine (HM.out _ HTr.out).mono ?_
            rintro e w1 ⟨rfl, hb1⟩
            have HB1 := Lib.hid hb1
            clear hb1
            go_wp2
            go_ret
            exact ⟨congrArg (fun b => Ending.returned (.bool b)) (by rw [← HG.out]; rfl), hb.out.trans (HB1.out.mono hb.out.size)⟩
          · have hkb : ((k : Int) == 0) = false := by simp; omega
            have hkb2 : (k == 0) = false := by simp; omega
            rw [hkb2, Bool.false_or] at hgo
            obtain ⟨M, hM⟩ : ∃ M, M = n - L + k := ⟨_, rfl⟩
            rw [← hM] at hgo
            have hMz : (n : Int) - (L : Int) + (k : Int) = (M : Int) := by omega
            have hne : l.drop J ≠ [] := fun e => by have h := congrArg List.length e; rw [List.length_drop, ← HL.out] at h; simp at h; omega
            have HO : Hid (∀ W, Calls Tryd.prog 56 #[.string D, .int .i64 (M : Int)] W fun e w' => e = .returned (.bool ANS) ∧ W = w') := Lib.hid fun W => by
              rw [hD, ← hgo]; exact opens_any _ _ W hne
            clear hgo hg hv hD hTt hlen hM hne hJ
            go_wp2_with fail
            with_reducible refine (HM.out _ HTr.out).mono ?_
            rintro e w1 ⟨rfl, hb1⟩
            have HB1 := Lib.hid hb1
            clear hb1
            go_wp2_with fail
            with_reducible refine (HO.out _).mono ?_
            rintro e w2 ⟨rfl, rfl⟩
            go_wp2
            go_ret
            exact ⟨rfl, hb.out.trans (HB1.out.mono hb.out.size)⟩
      · have hkz : ¬ (k : Int) ≤ (L : Int) := by omega
        have hgo := hg.out
        rw [show 4 - k = (4 - (k + 1)) + 1 by omega] at hgo
        have h2 : tbGo ((4 - (k + 1)) + 1) l n k = false := by
          show (if k ≤ l.length then _ else _) = _
          rw [if_neg (by rw [← HL.out]; exact hkL)]
        rw [h2] at hgo
        have HG := Lib.hid hgo
        clear hgo hg h2
        go_wp2
        go_ret
        exact ⟨congrArg (fun b => Ending.returned (.bool b)) HG.out, hb.out⟩
    · obtain rfl : k = 4 := by omega
      have HG := hg
      go_wp2
      go_ret
      exact ⟨congrArg (fun b => Ending.returned (.bool b)) HG.out, hb.out⟩
end Go.Proofs.YthoiolihkomgmaaDoor.Tb5
