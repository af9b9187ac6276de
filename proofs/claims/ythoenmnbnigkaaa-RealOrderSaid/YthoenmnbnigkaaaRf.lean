/- The contracts of the document's own answers for real (package fascicleref03): they are package real's. -/
import Derived.Test.YthoenmnbnigkaaaRk
namespace Go.Proofs.Ythoenmnbnigkaaa.Rf
open Go Go.RowKit Go.Proofs.Ythoenmnbnigkaaa.Wm Go.Proofs.Ythoenmnbnigkaaa.Rm
theorem none_at (v : Int) (w : World) (h0 : 0 ≤ v) (h1 : v < 18446744073709551616) :
    Calls Try.prog 24 #[.int .u64 v] w fun e w' => e = .returned (.bool (decide (v / 4503599627370496 % 2048 = 2047) && !decide (v % 4503599627370496 = 0))) ∧ w = w' := by
  by_cases h : v / 4503599627370496 % 2048 = 2047
  · go_enter Try.func24, Try.ntmps24
    go_wp2
    go_ret
    refine ⟨?_, rfl⟩
    rw [decide_eq_true h]
    rfl
  · go_enter Try.func24, Try.ntmps24
    go_wp2
    go_ret
    refine ⟨?_, rfl⟩
    rw [decide_eq_false h]
    rfl
theorem none_any (V : Nat) (w : World) (hV : V < 18446744073709551616) :
    Calls Try.prog 24 #[.int .u64 (V : Int)] w fun e w' => e = .returned (.bool (bad V)) ∧ w = w' := by
  refine (none_at (V : Int) w (by omega) (by omega)).mono fun e w' h => ⟨h.1.trans ?_, h.2⟩
  unfold bad
  have e1 : decide ((V : Int) / 4503599627370496 % 2048 = 2047) = decide (V / 4503599627370496 % 2048 = 2047) := decide_eq_decide.2 (by omega)
  have e2 : decide ((V : Int) % 4503599627370496 = 0) = decide (V % 4503599627370496 = 0) := decide_eq_decide.2 (by omega)
  rw [e1, e2]
theorem canon_any (V : Nat) (w : World) (hV : V < 18446744073709551616) :
    Calls Try.prog 11 #[.int .u64 (V : Int)] w fun e w' => e = .returned (.int .u64 (Rm.canon V : Int)) ∧ w = w' := by
  have h1 := none_any V w hV
  unfold Rm.canon
  cases hb : bad V
  · rw [hb] at h1
    clear hb
    go_enter Try.func11, Try.ntmps11
    go_wp2_with fail
    refine h1.mono ?_
    rintro e w1 ⟨rfl, rfl⟩
    go_wp2
    go_ret
    exact ⟨rfl, rfl⟩
  · rw [hb] at h1
    clear hb
    go_enter Try.func11, Try.ntmps11
    go_wp2_with fail
    refine h1.mono ?_
    rintro e w1 ⟨rfl, rfl⟩
    go_wp2
    go_ret
    exact ⟨rfl, rfl⟩
theorem top_hi {V : Nat} (hV : V < 18446744073709551616) (h : 9223372036854775808 ≤ V) : (V : Int) / 9223372036854775808 = 1 := by omega
theorem top_lo {V : Nat} (h : ¬ 9223372036854775808 ≤ V) : (V : Int) / 9223372036854775808 = 0 := by omega
theorem rank_at (v : Int) (w : World) (b : Bool) (t : Int) (hb : Calls Try.prog 24 #[.int .u64 v] w fun e w' => e = .returned (.bool b) ∧ w = w') (ht : v / 9223372036854775808 = t) :
    Calls Try.prog 27 #[.int .u64 v] w fun e w' => e = .returned (.int .i64 (if b then 2 else if t = 1 then 0 else 1)) ∧ w = w' := by
  cases b
  · by_cases h : t = 1
    · subst h
      go_enter Try.func27, Try.ntmps27
      go_wp2_with fail
      refine hb.mono ?_
      rintro e w1 ⟨rfl, rfl⟩
      go_wp2
      go_ret
      exact ⟨rfl, rfl⟩
    · go_enter Try.func27, Try.ntmps27
      go_wp2_with fail
      refine hb.mono ?_
      rintro e w1 ⟨rfl, rfl⟩
      go_wp2
      go_ret
      exact ⟨rfl, rfl⟩
  · go_enter Try.func27, Try.ntmps27
    go_wp2_with fail
    refine hb.mono ?_
    rintro e w1 ⟨rfl, rfl⟩
    go_wp2
    go_ret
    exact ⟨rfl, rfl⟩
theorem rank_any (V : Nat) (w : World) (hV : V < 18446744073709551616) :
    Calls Try.prog 27 #[.int .u64 (V : Int)] w fun e w' => e = .returned (.int .i64 (Rm.place V : Int)) ∧ w = w' := by
  by_cases h : 9223372036854775808 ≤ V
  · refine (rank_at (V : Int) w _ 1 (none_any V w hV) (top_hi hV h)).mono fun e w' hh => ⟨hh.1.trans (ret_i ?_), hh.2⟩
    unfold Rm.place
    rw [if_pos h]
    cases bad V <;> rfl
  · refine (rank_at (V : Int) w _ 0 (none_any V w hV) (top_lo h)).mono fun e w' hh => ⟨hh.1.trans (ret_i ?_), hh.2⟩
    unfold Rm.place
    rw [if_neg h]
    cases bad V <;> rfl
theorem place_canon (V : Nat) : Rm.place (Rm.canon V) = Rm.place V := by
  cases h : bad V
  · rw [bad_canon h]
  · rw [canon_bad h]
    unfold Rm.place
    simp only [h, bad_nan, if_true]
theorem less_at (V U c d : Nat) (p q : Nat) (w : World)
    (h1 : ∀ w, Calls Try.prog 11 #[.int .u64 (V : Int)] w fun e w' => e = .returned (.int .u64 (c : Int)) ∧ w = w')
    (h2 : ∀ w, Calls Try.prog 11 #[.int .u64 (U : Int)] w fun e w' => e = .returned (.int .u64 (d : Int)) ∧ w = w')
    (h3 : ∀ w, Calls Try.prog 27 #[.int .u64 (c : Int)] w fun e w' => e = .returned (.int .i64 (p : Int)) ∧ w = w')
    (h4 : ∀ w, Calls Try.prog 27 #[.int .u64 (d : Int)] w fun e w' => e = .returned (.int .i64 (q : Int)) ∧ w = w') :
    Calls Try.prog 13 #[.int .u64 (V : Int), .int .u64 (U : Int)] w fun e w' => e = .returned (.bool (if (p : Int) ≠ (q : Int) then decide ((p : Int) < (q : Int)) else if (p : Int) = 0 then decide ((d : Int) < (c : Int)) else decide ((c : Int) < (d : Int)))) ∧ w = w' := by
  by_cases hpq : (p : Int) = (q : Int)
  · by_cases h0 : (p : Int) = 0
    · rw [if_neg (by omega), if_pos h0]
      go_enter Try.func13, Try.ntmps13
      go_wp2_with fail
      refine (h1 _).mono ?_
      rintro e w1 ⟨rfl, rfl⟩
      go_wp2_with fail
      refine (h2 _).mono ?_
      rintro e w1 ⟨rfl, rfl⟩
      go_wp2_with fail
      refine (h3 _).mono ?_
      rintro e w1 ⟨rfl, rfl⟩
      go_wp2_with fail
      refine (h4 _).mono ?_
      rintro e w1 ⟨rfl, rfl⟩
      go_wp2_with fail
      refine (h3 _).mono ?_
      rintro e w1 ⟨rfl, rfl⟩
      go_wp2
      go_ret
      exact ⟨by first | rfl | simp, rfl⟩
    · rw [if_neg (by omega), if_neg h0]
      go_enter Try.func13, Try.ntmps13
      go_wp2_with fail
      refine (h1 _).mono ?_
      rintro e w1 ⟨rfl, rfl⟩
      go_wp2_with fail
      refine (h2 _).mono ?_
      rintro e w1 ⟨rfl, rfl⟩
      go_wp2_with fail
      refine (h3 _).mono ?_
      rintro e w1 ⟨rfl, rfl⟩
      go_wp2_with fail
      refine (h4 _).mono ?_
      rintro e w1 ⟨rfl, rfl⟩
      go_wp2_with fail
      refine (h3 _).mono ?_
      rintro e w1 ⟨rfl, rfl⟩
      go_wp2
      go_ret
      exact ⟨by first | rfl | simp, rfl⟩
  · rw [if_pos hpq]
    go_enter Try.func13, Try.ntmps13
    go_wp2_with fail
    refine (h1 _).mono ?_
    rintro e w1 ⟨rfl, rfl⟩
    go_wp2_with fail
    refine (h2 _).mono ?_
    rintro e w1 ⟨rfl, rfl⟩
    go_wp2_with fail
    refine (h3 _).mono ?_
    rintro e w1 ⟨rfl, rfl⟩
    go_wp2_with fail
    refine (h4 _).mono ?_
    rintro e w1 ⟨rfl, rfl⟩
    go_wp2_with fail
    refine (h3 _).mono ?_
    rintro e w1 ⟨rfl, rfl⟩
    go_wp2_with fail
    refine (h4 _).mono ?_
    rintro e w1 ⟨rfl, rfl⟩
    go_wp2
    go_ret
    exact ⟨by first | rfl | simp, rfl⟩
theorem less_any (V U : Nat) (w : World) (hV : V < 18446744073709551616) (hU : U < 18446744073709551616) :
    Calls Try.prog 13 #[.int .u64 (V : Int), .int .u64 (U : Int)] w fun e w' => e = .returned (.bool (Rm.less V U)) ∧ w = w' := by
  refine (less_at V U (Rm.canon V) (Rm.canon U) (Rm.place V) (Rm.place U) w (fun w => canon_any V w hV) (fun w => canon_any U w hU)
    (fun w => place_canon V ▸ rank_any _ w (canon_lt hV)) (fun w => place_canon U ▸ rank_any _ w (canon_lt hU))).mono fun e w' hh => ⟨hh.1.trans ?_, hh.2⟩
  congr 2
  unfold Rm.less
  have i1 : ∀ a b : Nat, decide ((a : Int) < (b : Int)) = decide (a < b) := fun a b => decide_eq_decide.2 (by omega)
  rw [i1, i1, i1]
  by_cases h : Rm.place V = Rm.place U
  · have h' : (Rm.place V : Int) = (Rm.place U : Int) := by omega
    rw [if_neg (not_not_intro h'), if_neg (not_not_intro h)]
    by_cases h0 : Rm.place V = 0
    · have h0' : (Rm.place V : Int) = 0 := by omega
      rw [if_pos h0', if_pos h0]
    · have h0' : ¬ (Rm.place V : Int) = 0 := by omega
      rw [if_neg h0', if_neg h0]
  · have h' : ¬ (Rm.place V : Int) = (Rm.place U : Int) := by omega
    rw [if_pos h', if_pos h]
theorem key_any (V : Nat) (w : World) (hV : V < 18446744073709551616) :
    Calls Try.prog 15 #[.int .u64 (V : Int)] w fun e w' => e = .returned (.int .u64 (Rm.key V : Int)) ∧ w = w' := by
  have hc := canon_lt hV
  unfold Rm.key
  have h1 := canon_any V w hV
  obtain ⟨c, hce⟩ : ∃ c, c = Rm.canon V := ⟨_, rfl⟩
  rw [← hce] at hc h1 ⊢
  clear hce
  by_cases h : c < 9223372036854775808
  · rw [if_pos h]
    have ht : (c : Int) / 9223372036854775808 = 0 := top_lo (by omega)
    go_enter Try.func15, Try.ntmps15
    go_wp2_with fail
    refine h1.mono ?_
    rintro e w1 ⟨rfl, rfl⟩
    go_wp2
    go_ret
    exact ⟨rfl, rfl⟩
  · rw [if_neg h]
    have ht : (c : Int) / 9223372036854775808 = 1 := top_hi hc (by omega)
    have ho := Lib.hid (turn hc)
    go_enter Try.func15, Try.ntmps15
    go_wp2_with fail
    refine h1.mono ?_
    rintro e w1 ⟨rfl, rfl⟩
    go_wp2
    go_ret
    exact ⟨ret_i ho.out, rfl⟩
end Go.Proofs.Ythoenmnbnigkaaa.Rf
