/- The contracts of package real's Key and Back, and of the document's own (fascicleref03); keys lead back. -/
import Derived.Test.YtbkaphcipbhmhaaDoorVl
namespace Go.Proofs.YtbkaphcipbhmhaaDoor.Kr
open Go Go.RowKit Go.Proofs.YtbkaphcipbhmhaaDoor.Wm Go.Proofs.YtbkaphcipbhmhaaDoor.Rm Go.Proofs.YtbkaphcipbhmhaaDoor.Vl
theorem canonical_any (V : Nat) (w : World) :
    Calls Tryd.prog 55 #[.int .u64 (V : Int)] w fun e w' => e = .returned (.bool (decide ((Rm.canon V : Int) = (V : Int)))) ∧ w = w' := by
  go_enter Tryd.func55, Tryd.ntmps55
  go_wp2_with fail
  refine (canon_any V _).mono ?_
  rintro e w1 ⟨rfl, rfl⟩
  go_wp2
  go_ret
  exact ⟨rfl, rfl⟩
theorem key_any (V : Nat) (w : World) (hV : V < 18446744073709551616) :
    Calls Tryd.prog 31 #[.int .u64 (V : Int)] w fun e w' => e = .returned (.int .u64 (Rm.key V : Int)) ∧ w = w' := by
  have hc := canon_lt hV
  unfold Rm.key
  have h1 := canon_any V w
  obtain ⟨c, hce⟩ : ∃ c, c = Rm.canon V := ⟨_, rfl⟩
  rw [← hce] at hc h1 ⊢
  clear hce
  have H1 := Lib.hid h1; clear h1
  by_cases h : c < 9223372036854775808
  · rw [if_pos h]
    have ha := sign_and_lo h
    have ho := Lib.hid (sign_or h)
    go_enter Tryd.func31, Tryd.ntmps31
    go_wp2_with fail
    refine H1.out.mono ?_
    rintro e w1 ⟨rfl, rfl⟩
    go_wp2
    go_ret
    exact ⟨ret_i ho.out, rfl⟩
  · rw [if_neg h]
    have ha := sign_and_hi h hc
    have ho := Lib.hid (turn hc)
    go_enter Tryd.func31, Tryd.ntmps31
    go_wp2_with fail
    refine H1.out.mono ?_
    rintro e w1 ⟨rfl, rfl⟩
    go_wp2
    go_ret
    exact ⟨ret_i ho.out, rfl⟩
theorem canon_eq (b : Nat) : decide ((Rm.canon b : Int) = (b : Int)) = !(bad b && !decide (b = 9221120237041090561)) := by
  cases h : bad b
  · rw [bad_canon h]; simp
  · rw [canon_bad h]
    by_cases e : b = 9221120237041090561
    · rw [e]; rfl
    · rw [decide_eq_false e, decide_eq_false (by omega)]; rfl
theorem canonical_is (b : Nat) (r : Bool) (w : World) (hr : r = !(bad b && !decide (b = 9221120237041090561))) :
    Calls Tryd.prog 55 #[.int .u64 (b : Int)] w fun e w' => e = .returned (.bool r) ∧ w = w' := by
  rw [hr, ← canon_eq]; exact canonical_any b w
theorem back_lo (K b : Nat) (r : Bool) (w : World) (ha : bits .and .u64 (K : Int) 9223372036854775808 = 0) (hT : bits .xor .u64 IntKind.u64.max (K : Int) = (b : Int)) (hr : r = (bad b && !decide (b = 9221120237041090561))) :
    Calls Tryd.prog 47 #[.int .u64 (K : Int)] w fun e w' => e = .returned (.tuple #[.int .u64 (if r then 0 else (b : Int)), .int .i64 (if r then 2 else 0)]) ∧ w = w' := by
  have hc := canonical_is b (!r) w (by rw [hr])
  clear hr
  cases r
  · go_enter Tryd.func47, Tryd.ntmps47
    go_wp2_with fail
    refine hc.mono ?_
    rintro e w1 ⟨rfl, rfl⟩
    go_wp2
    go_ret2
    exact ⟨rfl, rfl⟩
  · go_enter Tryd.func47, Tryd.ntmps47
    go_wp2_with fail
    refine hc.mono ?_
    rintro e w1 ⟨rfl, rfl⟩
    go_wp2
    go_ret2
    exact ⟨rfl, rfl⟩
theorem back_hi (K b : Nat) (r : Bool) (w : World) (ha : bits .and .u64 (K : Int) 9223372036854775808 = 9223372036854775808) (hx : bits .xor .u64 (K : Int) 9223372036854775808 = (b : Int)) (hr : r = (bad b && !decide (b = 9221120237041090561))) :
    Calls Tryd.prog 47 #[.int .u64 (K : Int)] w fun e w' => e = .returned (.tuple #[.int .u64 (if r then 0 else (b : Int)), .int .i64 (if r then 2 else 0)]) ∧ w = w' := by
  have hc := canonical_is b (!r) w (by rw [hr])
  clear hr
  cases r
  · go_enter Tryd.func47, Tryd.ntmps47
    go_wp2_with fail
    refine hc.mono ?_
    rintro e w1 ⟨rfl, rfl⟩
    go_wp2
    go_ret2
    exact ⟨rfl, rfl⟩
  · go_enter Tryd.func47, Tryd.ntmps47
    go_wp2_with fail
    refine hc.mono ?_
    rintro e w1 ⟨rfl, rfl⟩
    go_wp2
    go_ret2
    exact ⟨rfl, rfl⟩
theorem back_any (K : Nat) (w : World) (hK : K < 18446744073709551616) :
    Calls Tryd.prog 47 #[.int .u64 (K : Int)] w fun e w' => e = .returned (.tuple #[.int .u64 ((Rm.back K).1 : Int), .int .i64 (Rm.back K).2]) ∧ w = w' := by
  have key : ∀ b r, r = (bad b && !decide (b = 9221120237041090561)) → b = Rm.unkey K → (Ending.returned (.tuple #[.int .u64 (if r then 0 else (b : Int)), .int .i64 (if r then 2 else 0)])) = Ending.returned (.tuple #[.int .u64 ((Rm.back K).1 : Int), .int .i64 (Rm.back K).2]) := by
    intro b r hr hb
    unfold Rm.back
    rw [← hb, ← hr]
    cases r <;> rfl
  by_cases h : K < 9223372036854775808
  · refine (back_lo K _ _ w (sign_and_lo h) (turn hK) rfl).mono fun e w' hh => ⟨hh.1.trans (key _ _ rfl ?_), hh.2⟩
    unfold Rm.unkey; rw [if_neg (by omega)]
  · refine (back_hi K _ _ w (sign_and_hi h hK) (sign_xor h hK) rfl).mono fun e w' hh => ⟨hh.1.trans (key _ _ rfl ?_), hh.2⟩
    unfold Rm.unkey; rw [if_pos (by omega)]
theorem top_hi {V : Nat} (hV : V < 18446744073709551616) (h : 9223372036854775808 ≤ V) : (V : Int) / 9223372036854775808 = 1 := by omega
theorem top_lo {V : Nat} (h : ¬ 9223372036854775808 ≤ V) : (V : Int) / 9223372036854775808 = 0 := by omega
theorem refkey_any (V : Nat) (w : World) (hV : V < 18446744073709551616) :
    Calls Tryd.prog 35 #[.int .u64 (V : Int)] w fun e w' => e = .returned (.int .u64 (Rm.key V : Int)) ∧ w = w' := by
  have hc := canon_lt hV
  unfold Rm.key
  have h1 := ref_canon V w hV
  obtain ⟨c, hce⟩ : ∃ c, c = Rm.canon V := ⟨_, rfl⟩
  rw [← hce] at hc h1 ⊢
  clear hce
  by_cases h : c < 9223372036854775808
  · rw [if_pos h]
    have ht : (c : Int) / 9223372036854775808 = 0 := top_lo (by omega)
    go_enter Tryd.func35, Tryd.ntmps35
    go_wp2_with fail
    refine h1.mono ?_
    rintro e w1 ⟨rfl, rfl⟩
    go_wp2
    go_ret
    exact ⟨rfl, rfl⟩
  · rw [if_neg h]
    have ht : (c : Int) / 9223372036854775808 = 1 := top_hi hc (by omega)
    have ho := Lib.hid (turn hc)
    go_enter Tryd.func35, Tryd.ntmps35
    go_wp2_with fail
    refine h1.mono ?_
    rintro e w1 ⟨rfl, rfl⟩
    go_wp2
    go_ret
    exact ⟨ret_i ho.out, rfl⟩
theorem key_unkey {K : Nat} (hK : K < 18446744073709551616) : decide ((Rm.key (Rm.unkey K) : Int) = (K : Int)) = !(bad (Rm.unkey K) && !decide (Rm.unkey K = 9221120237041090561)) := by
  have hu : ∀ c, c = Rm.unkey K → (if c < 9223372036854775808 then c + 9223372036854775808 else 18446744073709551615 - c) = K := by
    intro c hc
    unfold Rm.unkey at hc
    by_cases hh : 9223372036854775808 ≤ K
    · rw [if_pos hh] at hc
      rw [if_pos (by omega)]; omega
    · rw [if_neg hh] at hc
      rw [if_neg (by omega)]; omega
  cases h : bad (Rm.unkey K)
  · unfold Rm.key
    rw [bad_canon h, hu _ rfl]; simp
  · unfold Rm.key
    rw [canon_bad h]
    by_cases e : Rm.unkey K = 9221120237041090561
    · have := hu _ e.symm
      rw [this]; simp [e]
    · rw [decide_eq_false e, decide_eq_false]
      · rfl
      · intro hk
        apply e
        have hk' : K = 18444492273895866369 := by
          rw [if_pos (by omega)] at hk; omega
        rw [hk']; rfl
theorem refback_lo (K b k : Nat) (r : Bool) (w : World) (ha : (K : Int) / 9223372036854775808 = 0) (hT : bits .xor .u64 IntKind.u64.max (K : Int) = (b : Int))
    (hk : Calls Tryd.prog 35 #[.int .u64 (b : Int)] w fun e w' => e = .returned (.int .u64 (k : Int)) ∧ w = w') (hr : r = decide ((k : Int) = (K : Int))) :
    Calls Tryd.prog 49 #[.int .u64 (K : Int)] w fun e w' => e = .returned (.tuple #[.int .u64 (if r then (b : Int) else 0), .int .i64 (if r then 0 else 2)]) ∧ w = w' := by
  by_cases h : (k : Int) = (K : Int)
  · rw [hr, decide_eq_true h]
    clear hr
    go_enter Tryd.func49, Tryd.ntmps49
    go_wp2_with fail
    refine hk.mono ?_
    rintro e w1 ⟨rfl, rfl⟩
    go_wp2
    go_ret2
    exact ⟨rfl, rfl⟩
  · rw [hr, decide_eq_false h]
    clear hr
    go_enter Tryd.func49, Tryd.ntmps49
    go_wp2_with fail
    refine hk.mono ?_
    rintro e w1 ⟨rfl, rfl⟩
    go_wp2
    go_ret2
    exact ⟨rfl, rfl⟩
theorem refback_hi (K b k : Nat) (r : Bool) (w : World) (ha : (K : Int) / 9223372036854775808 = 1) (hT : (K : Int) - 9223372036854775808 = (b : Int))
    (hk : Calls Tryd.prog 35 #[.int .u64 (b : Int)] w fun e w' => e = .returned (.int .u64 (k : Int)) ∧ w = w') (hr : r = decide ((k : Int) = (K : Int))) :
    Calls Tryd.prog 49 #[.int .u64 (K : Int)] w fun e w' => e = .returned (.tuple #[.int .u64 (if r then (b : Int) else 0), .int .i64 (if r then 0 else 2)]) ∧ w = w' := by
  by_cases h : (k : Int) = (K : Int)
  · rw [hr, decide_eq_true h]
    clear hr
    go_enter Tryd.func49, Tryd.ntmps49
    go_wp2_with fail
    refine hk.mono ?_
    rintro e w1 ⟨rfl, rfl⟩
    go_wp2
    go_ret2
    exact ⟨rfl, rfl⟩
  · rw [hr, decide_eq_false h]
    clear hr
    go_enter Tryd.func49, Tryd.ntmps49
    go_wp2_with fail
    refine hk.mono ?_
    rintro e w1 ⟨rfl, rfl⟩
    go_wp2
    go_ret2
    exact ⟨rfl, rfl⟩
theorem refback_any (K : Nat) (w : World) (hK : K < 18446744073709551616) :
    Calls Tryd.prog 49 #[.int .u64 (K : Int)] w fun e w' => e = .returned (.tuple #[.int .u64 ((Rm.back K).1 : Int), .int .i64 (Rm.back K).2]) ∧ w = w' := by
  have key : (Ending.returned (.tuple #[.int .u64 (if (decide ((Rm.key (Rm.unkey K) : Int) = (K : Int))) then (Rm.unkey K : Int) else 0), .int .i64 (if (decide ((Rm.key (Rm.unkey K) : Int) = (K : Int))) then 0 else 2)])) = Ending.returned (.tuple #[.int .u64 ((Rm.back K).1 : Int), .int .i64 (Rm.back K).2]) := by
    rw [key_unkey hK]
    unfold Rm.back
    cases (bad (Rm.unkey K) && !decide (Rm.unkey K = 9221120237041090561)) <;> rfl
  by_cases h : 9223372036854775808 ≤ K
  · refine (refback_hi K (Rm.unkey K) _ _ w (top_hi hK h) ?_ (refkey_any _ w (unkey_lt hK)) rfl).mono fun e w' hh => ⟨hh.1.trans key, hh.2⟩
    unfold Rm.unkey; rw [if_pos h]; omega
  · have hu : 18446744073709551615 - K = Rm.unkey K := by unfold Rm.unkey; rw [if_neg h]
    refine (refback_lo K (Rm.unkey K) _ _ w (top_lo h) (by rw [← hu]; exact turn hK) (refkey_any _ w (unkey_lt hK)) rfl).mono fun e w' hh => ⟨hh.1.trans key, hh.2⟩
theorem back_key {x : Nat} (hx : x < 18446744073709551616) : Rm.back (Rm.key x) = (Rm.canon x, 0) := by
  have h1 := canon_lt hx
  have e : Rm.unkey (Rm.key x) = Rm.canon x := by
    unfold Rm.unkey Rm.key
    by_cases a : Rm.canon x < 9223372036854775808
    · rw [if_pos a, if_pos (by omega)]; omega
    · rw [if_neg a, if_neg (by omega)]; omega
  unfold Rm.back
  rw [e]
  cases h : bad x
  · rw [bad_canon h, h]; rfl
  · rw [canon_bad h]; simp
theorem key_back {K : Nat} (hK : K < 18446744073709551616) :
    ((Rm.back K).2 = 0 ∧ Rm.key (Rm.back K).1 = K ∧ Rm.canon (Rm.back K).1 = (Rm.back K).1 ∧ (Rm.back K).1 < 18446744073709551616) ∨ ((Rm.back K).2 = 2 ∧ (Rm.back K).1 = 0) := by
  have h := key_unkey hK
  have hc := canon_eq (Rm.unkey K)
  have hl := unkey_lt hK
  unfold Rm.back
  cases hb : (bad (Rm.unkey K) && !decide (Rm.unkey K = 9221120237041090561))
  · left
    rw [hb] at h hc
    have h' := of_decide_eq_true h
    have hc' := of_decide_eq_true hc
    refine ⟨rfl, ?_, ?_, hl⟩
    · show Rm.key (Rm.unkey K) = K; omega
    · show Rm.canon (Rm.unkey K) = Rm.unkey K; omega
  · right; exact ⟨rfl, rfl⟩
end Go.Proofs.YtbkaphcipbhmhaaDoor.Kr
