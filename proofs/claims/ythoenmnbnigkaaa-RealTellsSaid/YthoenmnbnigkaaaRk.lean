/- The contracts of package real's Canon, Less and Key: what each answers, and that it leaves the world alone. -/
import Derived.Test.YthoenmnbnigkaaaProg
import Derived.Test.YthoenmnbnigkaaaRm
import Derived.WalkKit
import Derived.WalkLawsBesides
import Derived.Laws.Externs
import Derived.Test.YthoenmnbnigkaaaRowKit
import Derived.Test.YthoenmnbnigkaaaHex
import Derived.Test.YthoenmnbnigkaaaUnhex
import Derived.Test.YthoenmnbnigkaaaRefHex
import Derived.Lib.Hide
namespace Go.Proofs.Ythoenmnbnigkaaa.Rk
open Go Go.RowKit Go.Proofs.Ythoenmnbnigkaaa.Wm Go.Proofs.Ythoenmnbnigkaaa.Rm
theorem from_bits (v : Int) (w : World) : (callFunc 19 #[.int .u64 v]).run Try.prog w = .ok (.value (.float .f64 v.toNat)) w :=
  run_callFunc_extern Try.func19 (by kernel_rfl) (by kernel_rfl) (by kernel_rfl) (e := Extern.MathFloatBits.float64frombits) (by kernel_rfl) _ w
theorem to_bits (x : Nat) (w : World) : (callFunc 32 #[.float .f64 x]).run Try.prog w = .ok (.value (.int .u64 (x : Int))) w :=
  run_callFunc_extern Try.func32 (by kernel_rfl) (by kernel_rfl) (by kernel_rfl) (e := Extern.MathFloatBits.float64bits) (by kernel_rfl) _ w
theorem fmt_double : FloatKind.f64.format = Ieee.double := rfl
theorem is_nan (x : Nat) (w : World) :
    Calls Try.prog 23 #[.float .f64 x] w fun e w' => e = .returned (.bool (bad x)) ∧ w = w' := by
  have hs : (FloatKind.f64.format.order x x != some .eq) = bad x := self_neq x
  go_enter Try.func23, Try.ntmps23
  go_wp2
  go_ret
  exact ⟨rfl, rfl⟩
theorem canon_any (V : Nat) (w : World) :
    Calls Try.prog 10 #[.int .u64 (V : Int)] w fun e w' => e = .returned (.int .u64 (Rm.canon V : Int)) ∧ w = w' := by
  have hf := fun W => from_bits (V : Int) W
  have ht : ((V : Int)).toNat = V := by omega
  rw [ht] at hf
  cases hb : bad V
  · have HB := Lib.hid hb; clear hb
    go_enter Try.func10, Try.ntmps10
    go_wp2_with fail
    refine (is_nan V _).mono ?_
    rw [HB.out]
    rintro e w1 ⟨rfl, rfl⟩
    go_wp2
    go_ret
    exact ⟨ret_i (by rw [bad_canon HB.out]), rfl⟩
  · have HB := Lib.hid hb; clear hb
    go_enter Try.func10, Try.ntmps10
    go_wp2_with fail
    refine (is_nan V _).mono ?_
    rw [HB.out]
    rintro e w1 ⟨rfl, rfl⟩
    go_wp2
    go_ret
    exact ⟨ret_i (by rw [canon_bad HB.out]; rfl), rfl⟩
theorem signbit (x : Nat) (w : World) (r : Bool) (hx : x < 18446744073709551616) (hr : r = decide (9223372036854775808 ≤ x)) :
    Calls Try.prog 26 #[.float .f64 x] w fun e w' => e = .returned (.bool r) ∧ w = w' := by
  have hf := fun W => to_bits x W
  by_cases h : 9223372036854775808 ≤ x
  · have hw : IntKind.i64.wrap (x : Int) = (x : Int) - 18446744073709551616 := by
      simp only [IntKind.wrap, IntKind.bits, IntKind.signed]
      simp
      omega
    have e : r = true := by rw [hr]; exact decide_eq_true h
    subst e
    have hl : ((x : Int) - 18446744073709551616 < 0) := by omega
    clear hr
    go_enter Try.func26, Try.ntmps26
    go_wp2
    go_ret
    exact ⟨rfl, rfl⟩
  · have hw : IntKind.i64.wrap (x : Int) = (x : Int) := by
      simp only [IntKind.wrap, IntKind.bits, IntKind.signed]
      simp
      omega
    have e : r = false := by rw [hr]; exact decide_eq_false h
    subst e
    have hl : ¬ ((x : Int) < 0) := by omega
    clear hr
    go_enter Try.func26, Try.ntmps26
    go_wp2
    go_ret
    exact ⟨rfl, rfl⟩
theorem canonical_any (V : Nat) (w : World) :
    Calls Try.prog 20 #[.int .u64 (V : Int)] w fun e w' => e = .returned (.bool (decide ((Rm.canon V : Int) = (V : Int)))) ∧ w = w' := by
  go_enter Try.func20, Try.ntmps20
  go_wp2_with fail
  refine (canon_any V _).mono ?_
  rintro e w1 ⟨rfl, rfl⟩
  go_wp2
  go_ret
  exact ⟨rfl, rfl⟩
theorem place_any (x : Nat) (w : World) (hx : x < 18446744073709551616) :
    Calls Try.prog 25 #[.float .f64 x] w fun e w' => e = .returned (.int .i64 (Rm.place x : Int)) ∧ w = w' := by
  unfold Rm.place
  cases hb : bad x
  · by_cases h : 9223372036854775808 ≤ x
    · rw [if_neg (by decide), if_pos h]
      have HB := Lib.hid hb; clear hb
      go_enter Try.func25, Try.ntmps25
      go_wp2_with fail
      refine (is_nan x _).mono ?_
      rw [HB.out]
      rintro e w1 ⟨rfl, rfl⟩
      go_wp2_with fail
      refine (signbit x _ true hx (decide_eq_true h).symm).mono ?_
      rintro e w1 ⟨rfl, rfl⟩
      go_wp2
      go_ret
      exact ⟨rfl, rfl⟩
    · rw [if_neg (by decide), if_neg h]
      have HB := Lib.hid hb; clear hb
      go_enter Try.func25, Try.ntmps25
      go_wp2_with fail
      refine (is_nan x _).mono ?_
      rw [HB.out]
      rintro e w1 ⟨rfl, rfl⟩
      go_wp2_with fail
      refine (signbit x _ false hx (decide_eq_false h).symm).mono ?_
      rintro e w1 ⟨rfl, rfl⟩
      go_wp2
      go_ret
      exact ⟨rfl, rfl⟩
  · rw [if_pos rfl]
    have HB := Lib.hid hb; clear hb
    go_enter Try.func25, Try.ntmps25
    go_wp2_with fail
    refine (is_nan x _).mono ?_
    rw [HB.out]
    rintro e w1 ⟨rfl, rfl⟩
    go_wp2
    go_ret
    exact ⟨rfl, rfl⟩
theorem less_any (V U : Nat) (w : World) (hV : V < 18446744073709551616) (hU : U < 18446744073709551616) :
    Calls Try.prog 12 #[.int .u64 (V : Int), .int .u64 (U : Int)] w fun e w' => e = .returned (.bool (Rm.less V U)) ∧ w = w' := by
  have hf := fun W => from_bits (V : Int) W
  have hg := fun W => from_bits (U : Int) W
  have ht : ((V : Int)).toNat = V := by omega
  have hu : ((U : Int)).toNat = U := by omega
  rw [ht] at hf
  rw [hu] at hg
  clear ht hu
  go_enter Try.func12, Try.ntmps12
  go_wp2_with fail
  refine (place_any V _ hV).mono ?_
  rintro e w1 ⟨rfl, rfl⟩
  go_wp2_with fail
  refine (place_any U _ hU).mono ?_
  rintro e w1 ⟨rfl, rfl⟩
  have hl : (decide ((Rm.place V : Int) < (Rm.place U : Int)) || (FloatKind.f64.format.order V U == some .lt)) = Rm.less V U := less_prog hV hU
  obtain ⟨p, hp⟩ : ∃ p, p = Rm.place V := ⟨_, rfl⟩
  obtain ⟨q, hq⟩ : ∃ q, q = Rm.place U := ⟨_, rfl⟩
  rw [← hp, ← hq] at hl ⊢
  by_cases h : (p : Int) < (q : Int)
  · rw [decide_eq_true h, Bool.true_or] at hl
    have HL := Lib.hid hl; clear hl hp hq
    go_wp2
    go_ret
    exact ⟨by rw [← HL.out]; rfl, rfl⟩
  · have e : decide ((p : Int) < (q : Int)) = decide (p < q) := decide_eq_decide.2 (by omega)
    rw [e] at hl
    have HL := Lib.hid hl; clear hl hp hq e
    go_wp2
    go_ret
    exact ⟨by rw [← HL.out]; rfl, rfl⟩
theorem key_any (V : Nat) (w : World) (hV : V < 18446744073709551616) :
    Calls Try.prog 14 #[.int .u64 (V : Int)] w fun e w' => e = .returned (.int .u64 (Rm.key V : Int)) ∧ w = w' := by
  have hc := canon_lt hV
  unfold Rm.key
  have h1 := canon_any V w
  obtain ⟨c, hce⟩ : ∃ c, c = Rm.canon V := ⟨_, rfl⟩
  rw [← hce] at hc h1 ⊢
  clear hce
  have H1 := Lib.hid h1; clear h1
  by_cases h : c < 9223372036854775808
  · rw [if_pos h]
    have ha := sign_and_lo h
    have ho := Lib.hid (sign_or h)
    go_enter Try.func14, Try.ntmps14
    go_wp2_with fail
    refine H1.out.mono ?_
    rintro e w1 ⟨rfl, rfl⟩
    go_wp2
    go_ret
    exact ⟨ret_i ho.out, rfl⟩
  · rw [if_neg h]
    have ha := sign_and_hi h hc
    have ho := Lib.hid (turn hc)
    go_enter Try.func14, Try.ntmps14
    go_wp2_with fail
    refine H1.out.mono ?_
    rintro e w1 ⟨rfl, rfl⟩
    go_wp2
    go_ret
    exact ⟨ret_i ho.out, rfl⟩
theorem canon_eq (b : Nat) : decide ((Rm.canon b : Int) = (b : Int)) = !(bad b && !decide (b = 9221120237041090561)) := by
  cases h : bad b
  · rw [bad_canon h]; simp
  · rw [canon_bad h]
    by_cases e : b = 9221120237041090561
    · rw [e]; rfl
    · rw [decide_eq_false e, decide_eq_false (by omega)]; rfl
theorem canonical_is (b : Nat) (r : Bool) (w : World) (hr : r = !(bad b && !decide (b = 9221120237041090561))) :
    Calls Try.prog 20 #[.int .u64 (b : Int)] w fun e w' => e = .returned (.bool r) ∧ w = w' := by
  rw [hr, ← canon_eq]; exact canonical_any b w
theorem back_lo (K b : Nat) (r : Bool) (w : World) (ha : bits .and .u64 (K : Int) 9223372036854775808 = 0) (hT : bits .xor .u64 IntKind.u64.max (K : Int) = (b : Int)) (hr : r = (bad b && !decide (b = 9221120237041090561))) :
    Calls Try.prog 6 #[.int .u64 (K : Int)] w fun e w' => e = .returned (.tuple #[.int .u64 (if r then 0 else (b : Int)), .int .i64 (if r then 2 else 0)]) ∧ w = w' := by
  have hc := canonical_is b (!r) w (by rw [hr])
  clear hr
  cases r
  · go_enter Try.func6, Try.ntmps6
    go_wp2_with fail
    refine hc.mono ?_
    rintro e w1 ⟨rfl, rfl⟩
    go_wp2
    go_ret2
    exact ⟨rfl, rfl⟩
  · go_enter Try.func6, Try.ntmps6
    go_wp2_with fail
    refine hc.mono ?_
    rintro e w1 ⟨rfl, rfl⟩
    go_wp2
    go_ret2
    exact ⟨rfl, rfl⟩
theorem back_hi (K b : Nat) (r : Bool) (w : World) (ha : bits .and .u64 (K : Int) 9223372036854775808 = 9223372036854775808) (hx : bits .xor .u64 (K : Int) 9223372036854775808 = (b : Int)) (hr : r = (bad b && !decide (b = 9221120237041090561))) :
    Calls Try.prog 6 #[.int .u64 (K : Int)] w fun e w' => e = .returned (.tuple #[.int .u64 (if r then 0 else (b : Int)), .int .i64 (if r then 2 else 0)]) ∧ w = w' := by
  have hc := canonical_is b (!r) w (by rw [hr])
  clear hr
  cases r
  · go_enter Try.func6, Try.ntmps6
    go_wp2_with fail
    refine hc.mono ?_
    rintro e w1 ⟨rfl, rfl⟩
    go_wp2
    go_ret2
    exact ⟨rfl, rfl⟩
  · go_enter Try.func6, Try.ntmps6
    go_wp2_with fail
    refine hc.mono ?_
    rintro e w1 ⟨rfl, rfl⟩
    go_wp2
    go_ret2
    exact ⟨rfl, rfl⟩
theorem back_any (K : Nat) (w : World) (hK : K < 18446744073709551616) :
    Calls Try.prog 6 #[.int .u64 (K : Int)] w fun e w' => e = .returned (.tuple #[.int .u64 ((Rm.back K).1 : Int), .int .i64 (Rm.back K).2]) ∧ w = w' := by
  have key : ∀ b r, r = (bad b && !decide (b = 9221120237041090561)) → b = Rm.unkey K → (Ending.returned (.tuple #[.int .u64 (if r then 0 else (b : Int)), .int .i64 (if r then 2 else 0)])) = Ending.returned (.tuple #[.int .u64 ((Rm.back K).1 : Int), .int .i64 (Rm.back K).2]) := by
    intro b r hr hb
    unfold Rm.back
    rw [← hb, ← hr]
    cases r <;> rfl
  by_cases h : K < 9223372036854775808
  · refine (back_lo K _ _ w (sign_and_lo h) (turn hK) rfl).mono fun e w' hh => ⟨hh.1.trans (key _ _ rfl ?_), hh.2⟩
    unfold Rm.unkey; rw [if_neg (by omega)]
  · refine (back_hi K _ _ w (sign_and_hi h hK) (sign_xor h hK) rfl).mono fun e w' hh => ⟨hh.1.trans (key _ _ rfl ?_), hh.2⟩
    unfold Rm.unkey; rw [if_pos (by omega)]
/-- What Text answers. -/
def text (V : Nat) : List UInt8 := hexN (Rm.canon V) 16
theorem hexS_canon {c : Nat} (hc : c < 18446744073709551616) : WHex.hexS (c : Int) 16 = (hexN c 16, 0) := by
  unfold WHex.hexS
  rw [if_neg (by omega)]
  have e1 : (c : Int).toNat = c := by omega
  have e2 : (16 : Int).toNat = 16 := by decide
  have e3 : (16 : Nat) ^ 16 = 18446744073709551616 := by decide
  rw [e1, e2, if_pos (by rw [e3]; exact hc)]
theorem text_any (V : Nat) (w : World) (hV : V < 18446744073709551616) :
    Calls Try.prog 16 #[.int .u64 (V : Int)] w fun e w' => e = .returned (.string ⟨(text V).toArray⟩) ∧ Below w.heap.size w w' := by
  have h1 := canon_any V w
  have h2 := WHex.any (Rm.canon V : Int) 16 w (by omega)
  rw [hexS_canon (canon_lt hV)] at h2
  unfold text
  generalize Rm.canon V = c at h1 h2 ⊢
  go_enter Try.func16, Try.ntmps16
  go_wp2_with fail
  refine h1.mono ?_
  rintro e w1 ⟨rfl, rfl⟩
  go_wp2_with fail
  refine h2.mono ?_
  rintro e w1 ⟨rfl, hb⟩
  go_wp2
  go_ret
  exact ⟨rfl, hb⟩
/-- What Read answers. -/
def read (l : List UInt8) : Nat × Int := if l.length = 16 then (match unhexL 0 l with | some v => if bad v && !decide (v = 9221120237041090561) then (0, 2) else (v, 0) | none => (0, 2)) else (0, 2)
theorem read_any (s : ByteArray) (w : World) (hs : s.size ≤ maxLen) :
    Calls Try.prog 8 #[.string s] w fun e w' => e = .returned (.tuple #[.int .u64 ((read s.data.toList).1 : Int), .int .i64 (read s.data.toList).2]) ∧ Below w.heap.size w w' := by
  have hsz : s.data.toList.length = s.size := by simp
  have hs' := hs
  unfold maxLen at hs'
  unfold read
  rw [hsz]
  by_cases h : s.size = 16
  · rw [if_pos h]
    have h2 := WUnhex.any s w hs
    unfold WUnhex.unhexS at h2
    rw [hsz, if_neg (by omega)] at h2
    cases hu : unhexL 0 s.data.toList with
    | none =>
      rw [hu] at h2
      simp only [WUnhex.ans] at h2
      clear hu hsz
      go_enter Try.func8, Try.ntmps8
      go_wp2_with fail
      refine h2.mono ?_
      rintro e w1 ⟨rfl, hb⟩
      go_wp2
      go_ret2
      exact ⟨rfl, hb⟩
    | some v =>
      rw [hu] at h2
      simp only [WUnhex.ans] at h2
      clear hu hsz
      have hc := fun W => canonical_is v _ W rfl
      cases hr : (bad v && !decide (v = 9221120237041090561))
      · rw [hr] at hc
        simp only [hr, Bool.false_eq_true, if_false]
        clear hr
        go_enter Try.func8, Try.ntmps8
        go_wp2_with fail
        refine h2.mono ?_
        rintro e w1 ⟨rfl, hb⟩
        go_wp2_with fail
        refine (hc _).mono ?_
        rintro e w2 ⟨rfl, rfl⟩
        go_wp2
        go_ret2
        exact ⟨rfl, hb⟩
      · rw [hr] at hc
        simp only [hr, if_true]
        clear hr
        go_enter Try.func8, Try.ntmps8
        go_wp2_with fail
        refine h2.mono ?_
        rintro e w1 ⟨rfl, hb⟩
        go_wp2_with fail
        refine (hc _).mono ?_
        rintro e w2 ⟨rfl, rfl⟩
        go_wp2
        go_ret2
        exact ⟨rfl, hb⟩
  · rw [if_neg h]
    go_enter Try.func8, Try.ntmps8
    go_wp2
    go_ret2
    exact ⟨rfl, Below.refl _ _⟩
end Go.Proofs.Ythoenmnbnigkaaa.Rk
