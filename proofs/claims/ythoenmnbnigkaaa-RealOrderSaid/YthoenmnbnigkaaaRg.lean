/- The contracts of the document's own Back, Text and Read for real (package fascicleref03), and of the statements' examples. -/
import Derived.Test.YthoenmnbnigkaaaRf
namespace Go.Proofs.Ythoenmnbnigkaaa.Rg
open Go Go.RowKit Go.Proofs.Ythoenmnbnigkaaa.Wm Go.Proofs.Ythoenmnbnigkaaa.Rm
theorem key_unkey {K : Nat} (hK : K < 18446744073709551616) : decide ((Rm.key (Rm.unkey K) : Int) = (K : Int)) = !(bad (Rm.unkey K) && !decide (Rm.unkey K = 9221120237041090561)) := by
  have hu : ∀ c, c = Rm.unkey K → (if c < 9223372036854775808 then c + 9223372036854775808 else 18446744073709551615 - c) = K := by
    intro c hc
    unfold Rm.unkey at hc
    by_cases hh : 9223372036854775808 ≤ K
    · rw [if_pos hh] at hc
      rw [if_pos (by omega)]; omega
    · rw [if_neg hh] at hc
      rw [if_neg (by omega)]; omega
  cases h : bad (Rm.unkey K)
  · unfold Rm.key
    rw [bad_canon h, hu _ rfl]; simp
  · unfold Rm.key
    rw [canon_bad h]
    by_cases e : Rm.unkey K = 9221120237041090561
    · have := hu _ e.symm
      rw [this]; simp [e]
    · rw [decide_eq_false e, decide_eq_false]
      · rfl
      · intro hk
        apply e
        have hk' : K = 18444492273895866369 := by
          rw [if_pos (by omega)] at hk; omega
        rw [hk']; rfl
theorem back_lo (K b k : Nat) (r : Bool) (w : World) (ha : (K : Int) / 9223372036854775808 = 0) (hT : bits .xor .u64 IntKind.u64.max (K : Int) = (b : Int))
    (hk : Calls Try.prog 15 #[.int .u64 (b : Int)] w fun e w' => e = .returned (.int .u64 (k : Int)) ∧ w = w') (hr : r = decide ((k : Int) = (K : Int))) :
    Calls Try.prog 7 #[.int .u64 (K : Int)] w fun e w' => e = .returned (.tuple #[.int .u64 (if r then (b : Int) else 0), .int .i64 (if r then 0 else 2)]) ∧ w = w' := by
  by_cases h : (k : Int) = (K : Int)
  · rw [hr, decide_eq_true h]
    clear hr
    go_enter Try.func7, Try.ntmps7
    go_wp2_with fail
    refine hk.mono ?_
    rintro e w1 ⟨rfl, rfl⟩
    go_wp2
    go_ret2
    exact ⟨rfl, rfl⟩
  · rw [hr, decide_eq_false h]
    clear hr
    go_enter Try.func7, Try.ntmps7
    go_wp2_with fail
    refine hk.mono ?_
    rintro e w1 ⟨rfl, rfl⟩
    go_wp2
    go_ret2
    exact ⟨rfl, rfl⟩
theorem back_hi (K b k : Nat) (r : Bool) (w : World) (ha : (K : Int) / 9223372036854775808 = 1) (hT : (K : Int) - 9223372036854775808 = (b : Int))
    (hk : Calls Try.prog 15 #[.int .u64 (b : Int)] w fun e w' => e = .returned (.int .u64 (k : Int)) ∧ w = w') (hr : r = decide ((k : Int) = (K : Int))) :
    Calls Try.prog 7 #[.int .u64 (K : Int)] w fun e w' => e = .returned (.tuple #[.int .u64 (if r then (b : Int) else 0), .int .i64 (if r then 0 else 2)]) ∧ w = w' := by
  by_cases h : (k : Int) = (K : Int)
  · rw [hr, decide_eq_true h]
    clear hr
    go_enter Try.func7, Try.ntmps7
    go_wp2_with fail
    refine hk.mono ?_
    rintro e w1 ⟨rfl, rfl⟩
    go_wp2
    go_ret2
    exact ⟨rfl, rfl⟩
  · rw [hr, decide_eq_false h]
    clear hr
    go_enter Try.func7, Try.ntmps7
    go_wp2_with fail
    refine hk.mono ?_
    rintro e w1 ⟨rfl, rfl⟩
    go_wp2
    go_ret2
    exact ⟨rfl, rfl⟩
theorem back_any (K : Nat) (w : World) (hK : K < 18446744073709551616) :
    Calls Try.prog 7 #[.int .u64 (K : Int)] w fun e w' => e = .returned (.tuple #[.int .u64 ((Rm.back K).1 : Int), .int .i64 (Rm.back K).2]) ∧ w = w' := by
  have key : (Ending.returned (.tuple #[.int .u64 (if (decide ((Rm.key (Rm.unkey K) : Int) = (K : Int))) then (Rm.unkey K : Int) else 0), .int .i64 (if (decide ((Rm.key (Rm.unkey K) : Int) = (K : Int))) then 0 else 2)])) = Ending.returned (.tuple #[.int .u64 ((Rm.back K).1 : Int), .int .i64 (Rm.back K).2]) := by
    rw [key_unkey hK]
    unfold Rm.back
    cases (bad (Rm.unkey K) && !decide (Rm.unkey K = 9221120237041090561)) <;> rfl
  by_cases h : 9223372036854775808 ≤ K
  · refine (back_hi K (Rm.unkey K) _ _ w (Rf.top_hi hK h) ?_ (Rf.key_any _ w (unkey_lt hK)) rfl).mono fun e w' hh => ⟨hh.1.trans key, hh.2⟩
    unfold Rm.unkey; rw [if_pos h]; omega
  · have hu : 18446744073709551615 - K = Rm.unkey K := by unfold Rm.unkey; rw [if_neg h]
    refine (back_lo K (Rm.unkey K) _ _ w (Rf.top_lo h) (by rw [← hu]; exact turn hK) (Rf.key_any _ w (unkey_lt hK)) rfl).mono fun e w' hh => ⟨hh.1.trans key, hh.2⟩
theorem text_any (V : Nat) (w : World) (hV : V < 18446744073709551616) :
    Calls Try.prog 17 #[.int .u64 (V : Int)] w fun e w' => e = .returned (.string ⟨(Rk.text V).toArray⟩) ∧ w = w' := by
  have h1 := Rf.canon_any V w hV
  have hc := canon_lt hV
  have h2 := WRefHex.hex_any (Rm.canon V : Int) 16 w (by omega) (by omega)
  rw [Rk.hexS_canon hc] at h2
  unfold Rk.text
  generalize Rm.canon V = c at h1 h2 ⊢
  go_enter Try.func17, Try.ntmps17
  go_wp2_with fail
  refine h1.mono ?_
  rintro e w1 ⟨rfl, rfl⟩
  go_wp2_with fail
  refine h2.mono ?_
  rintro e w1 ⟨rfl, rfl⟩
  go_wp2
  go_ret
  exact ⟨rfl, rfl⟩
theorem read_no (s : ByteArray) (y z : Int) (w : World) (h : s.size ≠ 16)
    (h2 : Calls Try.prog 22 #[.string s] w fun e w' => e = .returned (.tuple #[.int .u64 y, .int .i64 z]) ∧ w = w') :
    Calls Try.prog 9 #[.string s] w fun e w' => e = .returned (.tuple #[.int .u64 0, .int .i64 2]) ∧ w = w' := by
  by_cases hz : z = 0
  · subst hz
    go_enter Try.func9, Try.ntmps9
    go_wp2_with fail
    refine h2.mono ?_
    rintro e w1 ⟨rfl, rfl⟩
    go_wp2
    go_ret2
    exact ⟨rfl, rfl⟩
  · go_enter Try.func9, Try.ntmps9
    go_wp2_with fail
    refine h2.mono ?_
    rintro e w1 ⟨rfl, rfl⟩
    go_wp2
    go_ret2
    exact ⟨rfl, rfl⟩
theorem read_none (s : ByteArray) (w : World)
    (h2 : Calls Try.prog 22 #[.string s] w fun e w' => e = .returned (.tuple #[.int .u64 0, .int .i64 2]) ∧ w = w') :
    Calls Try.prog 9 #[.string s] w fun e w' => e = .returned (.tuple #[.int .u64 0, .int .i64 2]) ∧ w = w' := by
  go_enter Try.func9, Try.ntmps9
  go_wp2_with fail
  refine h2.mono ?_
  rintro e w1 ⟨rfl, rfl⟩
  go_wp2
  go_ret2
  exact ⟨rfl, rfl⟩
theorem read_some (s : ByteArray) (v c : Nat) (r : Bool) (w : World) (h : s.size = 16)
    (h2 : Calls Try.prog 22 #[.string s] w fun e w' => e = .returned (.tuple #[.int .u64 (v : Int), .int .i64 0]) ∧ w = w')
    (h3 : Calls Try.prog 11 #[.int .u64 (v : Int)] w fun e w' => e = .returned (.int .u64 (c : Int)) ∧ w = w') (hr : r = decide ((c : Int) = (v : Int))) :
    Calls Try.prog 9 #[.string s] w fun e w' => e = .returned (.tuple #[.int .u64 (if r then (v : Int) else 0), .int .i64 (if r then 0 else 2)]) ∧ w = w' := by
  by_cases hc : (c : Int) = (v : Int)
  · rw [hr, decide_eq_true hc]
    clear hr
    go_enter Try.func9, Try.ntmps9
    go_wp2_with fail
    refine h2.mono ?_
    rintro e w1 ⟨rfl, rfl⟩
    go_wp2_with fail
    refine h3.mono ?_
    rintro e w1 ⟨rfl, rfl⟩
    go_wp2
    go_ret2
    exact ⟨rfl, rfl⟩
  · rw [hr, decide_eq_false hc]
    clear hr
    go_enter Try.func9, Try.ntmps9
    go_wp2_with fail
    refine h2.mono ?_
    rintro e w1 ⟨rfl, rfl⟩
    go_wp2_with fail
    refine h3.mono ?_
    rintro e w1 ⟨rfl, rfl⟩
    go_wp2
    go_ret2
    exact ⟨rfl, rfl⟩
theorem read_any (s : ByteArray) (w : World) (hs : s.size ≤ maxLen) :
    Calls Try.prog 9 #[.string s] w fun e w' => e = .returned (.tuple #[.int .u64 ((Rk.read s.data.toList).1 : Int), .int .i64 (Rk.read s.data.toList).2]) ∧ w = w' := by
  have hsz : s.data.toList.length = s.size := by simp
  have h2 := WRefHex.unhex_any s w hs
  unfold Rk.read
  rw [hsz]
  by_cases h : s.size = 16
  · rw [if_pos h]
    unfold WUnhex.unhexS at h2
    rw [hsz, if_neg (by omega)] at h2
    cases hu : unhexL 0 s.data.toList with
    | none =>
      rw [hu] at h2
      exact read_none s w h2
    | some v =>
      rw [hu] at h2
      have hv : v < 18446744073709551616 := by
        have := unhexL_lt _ _ _ 0 hu (by omega)
        rw [hsz, h] at this
        exact this
      refine (read_some s v _ _ w h h2 (Rf.canon_any v w hv) rfl).mono fun e w' hh => ⟨hh.1.trans ?_, hh.2⟩
      rw [Rk.canon_eq]
      simp only
      cases (bad v && !decide (v = 9221120237041090561)) <;> rfl
  · rw [if_neg h]
    exact read_no s _ _ w h h2
/-- The chapter's examples. -/
theorem ex_back1 : Rm.back 9223372036854775807 = (9223372036854775808, 0) := by decide
theorem ex_back2 : Rm.back 18446744073709551615 = (0, 2) := by decide
theorem ex_read : Rk.read [55, 102, 102, 48, 48, 48, 48, 48, 48, 48, 48, 48, 48, 48, 48, 49] = (0, 2) := by decide
theorem ex_canon : Rm.canon 18442240474082181121 = 9221120237041090561 := by decide
theorem ex_less1 : Rm.less 9223372036854775808 0 = true := by decide
theorem ex_less2 : Rm.less 0 0 = false := by decide
theorem ex_key : Rm.key 0 = 9223372036854775808 := by decide
theorem ex_text : Rk.text 0 = [48, 48, 48, 48, 48, 48, 48, 48, 48, 48, 48, 48, 48, 48, 48, 48] := by decide
theorem alive (w : World) : Calls Try.prog 18 #[] w fun e w' => e = .returned (.bool true) ∧ Below w.heap.size w w' := by
  have b1 := fun w => Rk.back_any 9223372036854775807 w (by decide)
  have b2 := fun w => Rk.back_any 18446744073709551615 w (by decide)
  have r1 := fun w => Rk.read_any ⟨#[55, 102, 102, 48, 48, 48, 48, 48, 48, 48, 48, 48, 48, 48, 48, 49]⟩ w (by decide)
  have c1 := fun w => Rk.canon_any 18442240474082181121 w
  have l1 := fun w => Rk.less_any 9223372036854775808 0 w (by decide) (by decide)
  have l2 := fun w => Rk.less_any 0 0 w (by decide) (by decide)
  have k1 := fun w => Rk.key_any 0 w (by decide)
  have t1 := fun w => Rk.text_any 0 w (by decide)
  simp only [ex_back1, ex_back2, ex_read, ex_canon, ex_less1, ex_less2, ex_key, ex_text] at b1 b2 r1 c1 l1 l2 k1 t1
  go_enter Try.func18, Try.ntmps18
  go_wp2_with fail
  refine (b1 _).mono ?_
  rintro e w1 ⟨rfl, rfl⟩
  go_wp2_with fail
  refine (b2 _).mono ?_
  rintro e w1 ⟨rfl, rfl⟩
  go_wp2_with fail
  refine (r1 _).mono ?_
  rintro e w1 ⟨rfl, hb1⟩
  go_wp2_with fail
  refine (c1 _).mono ?_
  rintro e w2 ⟨rfl, rfl⟩
  go_wp2_with fail
  refine (l1 _).mono ?_
  rintro e w2 ⟨rfl, rfl⟩
  go_wp2_with fail
  refine (l2 _).mono ?_
  rintro e w2 ⟨rfl, rfl⟩
  go_wp2_with fail
  refine (k1 _).mono ?_
  rintro e w2 ⟨rfl, rfl⟩
  go_wp2_with fail
  refine (t1 _).mono ?_
  rintro e w2 ⟨rfl, hb2⟩
  go_wp2
  go_ret
  exact ⟨rfl, RowKit.btrans hb1 hb2⟩
end Go.Proofs.Ythoenmnbnigkaaa.Rg
