/- Proved: of any two bits just one stands ahead, unless they are the same; keys rise as bits stand; the order goes on; numbers stand as they are compared, and what is no number's stands behind (P3.4), for any three bits; the arguments read behind the call as they read before. No condition. -/
import Derived.Test.YthoenmnbnigkaaaRows
import Derived.WalkKit
import Derived.ProofKit
import Derived.OpenShut
import Derived.Test.YthoenmnbnigkaaaRowKit
import Derived.Test.YthoenmnbnigkaaaRo
namespace Go.Proofs.Ythoenmnbnigkaaa.realOrder
open Go Go.ChangeShapes Go.WideShapes Go.ChangeAt Go.RowKit Go.Proofs.Ythoenmnbnigkaaa.RowKit Go.Proofs.Ythoenmnbnigkaaa.Wm Go.Proofs.Ythoenmnbnigkaaa.Rm
open Go.ChangeMaps (open_string shut_string)
theorem order_zero {x : Nat} (hx : x < 18446744073709551616) (h : bad x = false) : (Ieee.double.order x 0 != some .eq) = !(decide (x = 0) || decide (x = 9223372036854775808)) := by
  have z : bad 0 = false := by decide
  rw [Fo.order_num (bad_not.1 h) (bad_not.1 z)]
  have hv := Fo.val_zero hx
  have h0 : Fo.val 0 = 0 := (Fo.val_zero (x := 0) (by omega)).2 (Or.inl rfl)
  rw [h0]
  unfold Fo.cmp
  by_cases e : Fo.val x = 0
  · have e' := hv.1 e
    rw [e, if_neg (by omega), if_pos rfl]
    rcases e' with e' | e' <;> subst e' <;> rfl
  · have e' : ¬ (x = 0 ∨ x = 9223372036854775808) := fun c => e (hv.2 c)
    have e1 : ¬ x = 0 := fun c => e' (Or.inl c)
    have e2 : ¬ x = 9223372036854775808 := fun c => e' (Or.inr c)
    rw [decide_eq_false e1, decide_eq_false e2]
    by_cases l : Fo.val x < 0
    · rw [if_pos l]; rfl
    · rw [if_neg l, if_neg e]; rfl
/-- Where neither is NaN, and not both are 0, a stands ahead of b as numbers are compared. -/
theorem order_less {x y : Nat} (hx : x < 18446744073709551616) (hy : y < 18446744073709551616) (h : bad x = false) (h' : bad y = false)
    (hz : (Ieee.double.order x 0 != some .eq) = true ∨ (Ieee.double.order y 0 != some .eq) = true) : (Ieee.double.order x y == some .lt) = Rm.less x y := by
  rw [order_zero hx h, order_zero hy h'] at hz
  have hz' : ¬ ((x = 0 ∨ x = 9223372036854775808) ∧ (y = 0 ∨ y = 9223372036854775808)) := by
    rintro ⟨a, b⟩
    rcases hz with hz | hz
    · rcases a with a | a <;> subst a <;> simp at hz
    · rcases b with b | b <;> subst b <;> simp at hz
  rw [val_lt_iff h h', ← less_prog hx hy, val_lt_iff h h']
  by_cases hp : Rm.place x < Rm.place y
  · rw [decide_eq_true (show (Rm.place x : Int) < (Rm.place y : Int) by omega), Bool.true_or]
    apply decide_eq_true
    rw [Fo.val_lt hx hy]
    unfold Rm.place at hp
    rw [h, h'] at hp
    simp only [Bool.false_eq_true, if_false] at hp
    by_cases a : 9223372036854775808 ≤ x
    · by_cases b : 9223372036854775808 ≤ y
      · rw [if_pos a, if_pos b] at hp; omega
      · rw [if_pos a, if_neg b]
        rintro ⟨rfl, rfl⟩
        exact hz' ⟨Or.inr rfl, Or.inl rfl⟩
    · rw [if_neg a] at hp
      split at hp <;> omega
  · rw [decide_eq_false (show ¬ (Rm.place x : Int) < (Rm.place y : Int) by omega), Bool.false_or]

theorem from_a (a : Nat) (W : World) : (callFunc 19 #[.int .u64 (a : Int)]).run Try.prog W = .ok (.value (.float .f64 a)) W := by
  have h := Rk.from_bits (a : Int) W
  have e : ((a : Int)).toNat = a := by omega
  rw [e] at h
  exact h

set_option maxRecDepth 100000 in
set_option maxHeartbeats 1000000 in
theorem way_lt_f_fn_xx (a b z c d k l : Nat) (w : World) (hcd : ¬ (c : Int) = (d : Int)) (hkl : (k : Int) < (l : Int)) (l1 : (∀ w, Calls Try.prog 12 #[.int .u64 (a : Int), .int .u64 (b : Int)] w fun e w' => e = .returned (.bool true) ∧ w = w')) (l2 : (∀ w, Calls Try.prog 12 #[.int .u64 (b : Int), .int .u64 (a : Int)] w fun e w' => e = .returned (.bool false) ∧ w = w')) (c1 : (∀ w, Calls Try.prog 10 #[.int .u64 (a : Int)] w fun e w' => e = .returned (.int .u64 (c : Int)) ∧ w = w')) (c2 : (∀ w, Calls Try.prog 10 #[.int .u64 (b : Int)] w fun e w' => e = .returned (.int .u64 (d : Int)) ∧ w = w')) (k1 : (∀ w, Calls Try.prog 14 #[.int .u64 (a : Int)] w fun e w' => e = .returned (.int .u64 (k : Int)) ∧ w = w')) (k2 : (∀ w, Calls Try.prog 14 #[.int .u64 (b : Int)] w fun e w' => e = .returned (.int .u64 (l : Int)) ∧ w = w')) (l3 : (∀ w, Calls Try.prog 12 #[.int .u64 (b : Int), .int .u64 (z : Int)] w fun e w' => e = .returned (.bool false) ∧ w = w')) (fa : (FloatKind.f64.format.order a a == some .eq) = true) (fb : (FloatKind.f64.format.order b b == some .eq) = false) (ga : (FloatKind.f64.format.order a a != some .eq) = false) (gb : (FloatKind.f64.format.order b b != some .eq) = true) (al : ∀ w, Calls Try.prog 18 #[] w fun e w' => e = .returned (.bool true) ∧ Below w.heap.size w w') :
    Calls Try.prog 4 #[.int .u64 (a : Int), .int .u64 (b : Int), .int .u64 (z : Int)] w fun e w' => e = .returned (.bool true) ∧ Below w.heap.size w w' := by
  have hf := fun W => from_a a W
  have hg := fun W => from_a b W
  go_enter Try.func4, Try.ntmps4
  go_wp2_with fail
  refine (l1 _).mono ?_
  rintro e w1 ⟨rfl, rfl⟩
  go_wp2_with fail
  refine (l2 _).mono ?_
  rintro e w1 ⟨rfl, rfl⟩
  go_wp2_with fail
  refine (c1 _).mono ?_
  rintro e w1 ⟨rfl, rfl⟩
  go_wp2_with fail
  refine (c2 _).mono ?_
  rintro e w1 ⟨rfl, rfl⟩
  go_wp2_with fail
  refine (k1 _).mono ?_
  rintro e w1 ⟨rfl, rfl⟩
  go_wp2_with fail
  refine (k2 _).mono ?_
  rintro e w1 ⟨rfl, rfl⟩
  go_wp2_with fail
  refine (l3 _).mono ?_
  rintro e w1 ⟨rfl, rfl⟩
  go_wp2_with fail
  refine (al _).mono ?_
  rintro e w1 ⟨rfl, h1⟩
  go_wp2
  go_ret
  exact ⟨rfl, h1⟩
set_option maxRecDepth 100000 in
set_option maxHeartbeats 1000000 in
theorem way_lt_f_ff_tx (a b z c d k l : Nat) (w : World) (hcd : ¬ (c : Int) = (d : Int)) (hkl : (k : Int) < (l : Int)) (l1 : (∀ w, Calls Try.prog 12 #[.int .u64 (a : Int), .int .u64 (b : Int)] w fun e w' => e = .returned (.bool true) ∧ w = w')) (l2 : (∀ w, Calls Try.prog 12 #[.int .u64 (b : Int), .int .u64 (a : Int)] w fun e w' => e = .returned (.bool false) ∧ w = w')) (c1 : (∀ w, Calls Try.prog 10 #[.int .u64 (a : Int)] w fun e w' => e = .returned (.int .u64 (c : Int)) ∧ w = w')) (c2 : (∀ w, Calls Try.prog 10 #[.int .u64 (b : Int)] w fun e w' => e = .returned (.int .u64 (d : Int)) ∧ w = w')) (k1 : (∀ w, Calls Try.prog 14 #[.int .u64 (a : Int)] w fun e w' => e = .returned (.int .u64 (k : Int)) ∧ w = w')) (k2 : (∀ w, Calls Try.prog 14 #[.int .u64 (b : Int)] w fun e w' => e = .returned (.int .u64 (l : Int)) ∧ w = w')) (l3 : (∀ w, Calls Try.prog 12 #[.int .u64 (b : Int), .int .u64 (z : Int)] w fun e w' => e = .returned (.bool false) ∧ w = w')) (fa : (FloatKind.f64.format.order a a == some .eq) = true) (fb : (FloatKind.f64.format.order b b == some .eq) = true) (ga : (FloatKind.f64.format.order a a != some .eq) = false) (gb : (FloatKind.f64.format.order b b != some .eq) = false) (za : (FloatKind.f64.format.order a 0 != some .eq) = true) (hlt : (FloatKind.f64.format.order a b == some .lt) = true) (al : ∀ w, Calls Try.prog 18 #[] w fun e w' => e = .returned (.bool true) ∧ Below w.heap.size w w') :
    Calls Try.prog 4 #[.int .u64 (a : Int), .int .u64 (b : Int), .int .u64 (z : Int)] w fun e w' => e = .returned (.bool true) ∧ Below w.heap.size w w' := by
  have hf := fun W => from_a a W
  have hg := fun W => from_a b W
  go_enter Try.func4, Try.ntmps4
  go_wp2_with fail
  refine (l1 _).mono ?_
  rintro e w1 ⟨rfl, rfl⟩
  go_wp2_with fail
  refine (l2 _).mono ?_
  rintro e w1 ⟨rfl, rfl⟩
  go_wp2_with fail
  refine (c1 _).mono ?_
  rintro e w1 ⟨rfl, rfl⟩
  go_wp2_with fail
  refine (c2 _).mono ?_
  rintro e w1 ⟨rfl, rfl⟩
  go_wp2_with fail
  refine (k1 _).mono ?_
  rintro e w1 ⟨rfl, rfl⟩
  go_wp2_with fail
  refine (k2 _).mono ?_
  rintro e w1 ⟨rfl, rfl⟩
  go_wp2_with fail
  refine (l3 _).mono ?_
  rintro e w1 ⟨rfl, rfl⟩
  go_wp2_with fail
  refine (al _).mono ?_
  rintro e w1 ⟨rfl, h1⟩
  go_wp2
  go_ret
  exact ⟨rfl, h1⟩
set_option maxRecDepth 100000 in
set_option maxHeartbeats 1000000 in
theorem way_lt_f_ff_ft (a b z c d k l : Nat) (w : World) (hcd : ¬ (c : Int) = (d : Int)) (hkl : (k : Int) < (l : Int)) (l1 : (∀ w, Calls Try.prog 12 #[.int .u64 (a : Int), .int .u64 (b : Int)] w fun e w' => e = .returned (.bool true) ∧ w = w')) (l2 : (∀ w, Calls Try.prog 12 #[.int .u64 (b : Int), .int .u64 (a : Int)] w fun e w' => e = .returned (.bool false) ∧ w = w')) (c1 : (∀ w, Calls Try.prog 10 #[.int .u64 (a : Int)] w fun e w' => e = .returned (.int .u64 (c : Int)) ∧ w = w')) (c2 : (∀ w, Calls Try.prog 10 #[.int .u64 (b : Int)] w fun e w' => e = .returned (.int .u64 (d : Int)) ∧ w = w')) (k1 : (∀ w, Calls Try.prog 14 #[.int .u64 (a : Int)] w fun e w' => e = .returned (.int .u64 (k : Int)) ∧ w = w')) (k2 : (∀ w, Calls Try.prog 14 #[.int .u64 (b : Int)] w fun e w' => e = .returned (.int .u64 (l : Int)) ∧ w = w')) (l3 : (∀ w, Calls Try.prog 12 #[.int .u64 (b : Int), .int .u64 (z : Int)] w fun e w' => e = .returned (.bool false) ∧ w = w')) (fa : (FloatKind.f64.format.order a a == some .eq) = true) (fb : (FloatKind.f64.format.order b b == some .eq) = true) (ga : (FloatKind.f64.format.order a a != some .eq) = false) (gb : (FloatKind.f64.format.order b b != some .eq) = false) (za : (FloatKind.f64.format.order a 0 != some .eq) = false) (zb : (FloatKind.f64.format.order b 0 != some .eq) = true) (hlt : (FloatKind.f64.format.order a b == some .lt) = true) (al : ∀ w, Calls Try.prog 18 #[] w fun e w' => e = .returned (.bool true) ∧ Below w.heap.size w w') :
    Calls Try.prog 4 #[.int .u64 (a : Int), .int .u64 (b : Int), .int .u64 (z : Int)] w fun e w' => e = .returned (.bool true) ∧ Below w.heap.size w w' := by
  have hf := fun W => from_a a W
  have hg := fun W => from_a b W
  go_enter Try.func4, Try.ntmps4
  go_wp2_with fail
  refine (l1 _).mono ?_
  rintro e w1 ⟨rfl, rfl⟩
  go_wp2_with fail
  refine (l2 _).mono ?_
  rintro e w1 ⟨rfl, rfl⟩
  go_wp2_with fail
  refine (c1 _).mono ?_
  rintro e w1 ⟨rfl, rfl⟩
  go_wp2_with fail
  refine (c2 _).mono ?_
  rintro e w1 ⟨rfl, rfl⟩
  go_wp2_with fail
  refine (k1 _).mono ?_
  rintro e w1 ⟨rfl, rfl⟩
  go_wp2_with fail
  refine (k2 _).mono ?_
  rintro e w1 ⟨rfl, rfl⟩
  go_wp2_with fail
  refine (l3 _).mono ?_
  rintro e w1 ⟨rfl, rfl⟩
  go_wp2_with fail
  refine (al _).mono ?_
  rintro e w1 ⟨rfl, h1⟩
  go_wp2
  go_ret
  exact ⟨rfl, h1⟩
set_option maxRecDepth 100000 in
set_option maxHeartbeats 1000000 in
theorem way_lt_f_ff_ff (a b z c d k l : Nat) (w : World) (hcd : ¬ (c : Int) = (d : Int)) (hkl : (k : Int) < (l : Int)) (l1 : (∀ w, Calls Try.prog 12 #[.int .u64 (a : Int), .int .u64 (b : Int)] w fun e w' => e = .returned (.bool true) ∧ w = w')) (l2 : (∀ w, Calls Try.prog 12 #[.int .u64 (b : Int), .int .u64 (a : Int)] w fun e w' => e = .returned (.bool false) ∧ w = w')) (c1 : (∀ w, Calls Try.prog 10 #[.int .u64 (a : Int)] w fun e w' => e = .returned (.int .u64 (c : Int)) ∧ w = w')) (c2 : (∀ w, Calls Try.prog 10 #[.int .u64 (b : Int)] w fun e w' => e = .returned (.int .u64 (d : Int)) ∧ w = w')) (k1 : (∀ w, Calls Try.prog 14 #[.int .u64 (a : Int)] w fun e w' => e = .returned (.int .u64 (k : Int)) ∧ w = w')) (k2 : (∀ w, Calls Try.prog 14 #[.int .u64 (b : Int)] w fun e w' => e = .returned (.int .u64 (l : Int)) ∧ w = w')) (l3 : (∀ w, Calls Try.prog 12 #[.int .u64 (b : Int), .int .u64 (z : Int)] w fun e w' => e = .returned (.bool false) ∧ w = w')) (fa : (FloatKind.f64.format.order a a == some .eq) = true) (fb : (FloatKind.f64.format.order b b == some .eq) = true) (ga : (FloatKind.f64.format.order a a != some .eq) = false) (gb : (FloatKind.f64.format.order b b != some .eq) = false) (za : (FloatKind.f64.format.order a 0 != some .eq) = false) (zb : (FloatKind.f64.format.order b 0 != some .eq) = false) (al : ∀ w, Calls Try.prog 18 #[] w fun e w' => e = .returned (.bool true) ∧ Below w.heap.size w w') :
    Calls Try.prog 4 #[.int .u64 (a : Int), .int .u64 (b : Int), .int .u64 (z : Int)] w fun e w' => e = .returned (.bool true) ∧ Below w.heap.size w w' := by
  have hf := fun W => from_a a W
  have hg := fun W => from_a b W
  go_enter Try.func4, Try.ntmps4
  go_wp2_with fail
  refine (l1 _).mono ?_
  rintro e w1 ⟨rfl, rfl⟩
  go_wp2_with fail
  refine (l2 _).mono ?_
  rintro e w1 ⟨rfl, rfl⟩
  go_wp2_with fail
  refine (c1 _).mono ?_
  rintro e w1 ⟨rfl, rfl⟩
  go_wp2_with fail
  refine (c2 _).mono ?_
  rintro e w1 ⟨rfl, rfl⟩
  go_wp2_with fail
  refine (k1 _).mono ?_
  rintro e w1 ⟨rfl, rfl⟩
  go_wp2_with fail
  refine (k2 _).mono ?_
  rintro e w1 ⟨rfl, rfl⟩
  go_wp2_with fail
  refine (l3 _).mono ?_
  rintro e w1 ⟨rfl, rfl⟩
  go_wp2_with fail
  refine (al _).mono ?_
  rintro e w1 ⟨rfl, h1⟩
  go_wp2
  go_ret
  exact ⟨rfl, h1⟩
set_option maxRecDepth 100000 in
set_option maxHeartbeats 1000000 in
theorem way_lt_t_fn_xx (a b z c d k l : Nat) (w : World) (hcd : ¬ (c : Int) = (d : Int)) (hkl : (k : Int) < (l : Int)) (l1 : (∀ w, Calls Try.prog 12 #[.int .u64 (a : Int), .int .u64 (b : Int)] w fun e w' => e = .returned (.bool true) ∧ w = w')) (l2 : (∀ w, Calls Try.prog 12 #[.int .u64 (b : Int), .int .u64 (a : Int)] w fun e w' => e = .returned (.bool false) ∧ w = w')) (c1 : (∀ w, Calls Try.prog 10 #[.int .u64 (a : Int)] w fun e w' => e = .returned (.int .u64 (c : Int)) ∧ w = w')) (c2 : (∀ w, Calls Try.prog 10 #[.int .u64 (b : Int)] w fun e w' => e = .returned (.int .u64 (d : Int)) ∧ w = w')) (k1 : (∀ w, Calls Try.prog 14 #[.int .u64 (a : Int)] w fun e w' => e = .returned (.int .u64 (k : Int)) ∧ w = w')) (k2 : (∀ w, Calls Try.prog 14 #[.int .u64 (b : Int)] w fun e w' => e = .returned (.int .u64 (l : Int)) ∧ w = w')) (l3 : (∀ w, Calls Try.prog 12 #[.int .u64 (b : Int), .int .u64 (z : Int)] w fun e w' => e = .returned (.bool true) ∧ w = w')) (l4 : (∀ w, Calls Try.prog 12 #[.int .u64 (a : Int), .int .u64 (z : Int)] w fun e w' => e = .returned (.bool true) ∧ w = w')) (fa : (FloatKind.f64.format.order a a == some .eq) = true) (fb : (FloatKind.f64.format.order b b == some .eq) = false) (ga : (FloatKind.f64.format.order a a != some .eq) = false) (gb : (FloatKind.f64.format.order b b != some .eq) = true) (al : ∀ w, Calls Try.prog 18 #[] w fun e w' => e = .returned (.bool true) ∧ Below w.heap.size w w') :
    Calls Try.prog 4 #[.int .u64 (a : Int), .int .u64 (b : Int), .int .u64 (z : Int)] w fun e w' => e = .returned (.bool true) ∧ Below w.heap.size w w' := by
  have hf := fun W => from_a a W
  have hg := fun W => from_a b W
  go_enter Try.func4, Try.ntmps4
  go_wp2_with fail
  refine (l1 _).mono ?_
  rintro e w1 ⟨rfl, rfl⟩
  go_wp2_with fail
  refine (l2 _).mono ?_
  rintro e w1 ⟨rfl, rfl⟩
  go_wp2_with fail
  refine (c1 _).mono ?_
  rintro e w1 ⟨rfl, rfl⟩
  go_wp2_with fail
  refine (c2 _).mono ?_
  rintro e w1 ⟨rfl, rfl⟩
  go_wp2_with fail
  refine (k1 _).mono ?_
  rintro e w1 ⟨rfl, rfl⟩
  go_wp2_with fail
  refine (k2 _).mono ?_
  rintro e w1 ⟨rfl, rfl⟩
  go_wp2_with fail
  refine (l3 _).mono ?_
  rintro e w1 ⟨rfl, rfl⟩
  go_wp2_with fail
  refine (l4 _).mono ?_
  rintro e w1 ⟨rfl, rfl⟩
  go_wp2_with fail
  refine (al _).mono ?_
  rintro e w1 ⟨rfl, h1⟩
  go_wp2
  go_ret
  exact ⟨rfl, h1⟩
set_option maxRecDepth 100000 in
set_option maxHeartbeats 1000000 in
theorem way_lt_t_ff_tx (a b z c d k l : Nat) (w : World) (hcd : ¬ (c : Int) = (d : Int)) (hkl : (k : Int) < (l : Int)) (l1 : (∀ w, Calls Try.prog 12 #[.int .u64 (a : Int), .int .u64 (b : Int)] w fun e w' => e = .returned (.bool true) ∧ w = w')) (l2 : (∀ w, Calls Try.prog 12 #[.int .u64 (b : Int), .int .u64 (a : Int)] w fun e w' => e = .returned (.bool false) ∧ w = w')) (c1 : (∀ w, Calls Try.prog 10 #[.int .u64 (a : Int)] w fun e w' => e = .returned (.int .u64 (c : Int)) ∧ w = w')) (c2 : (∀ w, Calls Try.prog 10 #[.int .u64 (b : Int)] w fun e w' => e = .returned (.int .u64 (d : Int)) ∧ w = w')) (k1 : (∀ w, Calls Try.prog 14 #[.int .u64 (a : Int)] w fun e w' => e = .returned (.int .u64 (k : Int)) ∧ w = w')) (k2 : (∀ w, Calls Try.prog 14 #[.int .u64 (b : Int)] w fun e w' => e = .returned (.int .u64 (l : Int)) ∧ w = w')) (l3 : (∀ w, Calls Try.prog 12 #[.int .u64 (b : Int), .int .u64 (z : Int)] w fun e w' => e = .returned (.bool true) ∧ w = w')) (l4 : (∀ w, Calls Try.prog 12 #[.int .u64 (a : Int), .int .u64 (z : Int)] w fun e w' => e = .returned (.bool true) ∧ w = w')) (fa : (FloatKind.f64.format.order a a == some .eq) = true) (fb : (FloatKind.f64.format.order b b == some .eq) = true) (ga : (FloatKind.f64.format.order a a != some .eq) = false) (gb : (FloatKind.f64.format.order b b != some .eq) = false) (za : (FloatKind.f64.format.order a 0 != some .eq) = true) (hlt : (FloatKind.f64.format.order a b == some .lt) = true) (al : ∀ w, Calls Try.prog 18 #[] w fun e w' => e = .returned (.bool true) ∧ Below w.heap.size w w') :
    Calls Try.prog 4 #[.int .u64 (a : Int), .int .u64 (b : Int), .int .u64 (z : Int)] w fun e w' => e = .returned (.bool true) ∧ Below w.heap.size w w' := by
  have hf := fun W => from_a a W
  have hg := fun W => from_a b W
  go_enter Try.func4, Try.ntmps4
  go_wp2_with fail
  refine (l1 _).mono ?_
  rintro e w1 ⟨rfl, rfl⟩
  go_wp2_with fail
  refine (l2 _).mono ?_
  rintro e w1 ⟨rfl, rfl⟩
  go_wp2_with fail
  refine (c1 _).mono ?_
  rintro e w1 ⟨rfl, rfl⟩
  go_wp2_with fail
  refine (c2 _).mono ?_
  rintro e w1 ⟨rfl, rfl⟩
  go_wp2_with fail
  refine (k1 _).mono ?_
  rintro e w1 ⟨rfl, rfl⟩
  go_wp2_with fail
  refine (k2 _).mono ?_
  rintro e w1 ⟨rfl, rfl⟩
  go_wp2_with fail
  refine (l3 _).mono ?_
  rintro e w1 ⟨rfl, rfl⟩
  go_wp2_with fail
  refine (l4 _).mono ?_
  rintro e w1 ⟨rfl, rfl⟩
  go_wp2_with fail
  refine (al _).mono ?_
  rintro e w1 ⟨rfl, h1⟩
  go_wp2
  go_ret
  exact ⟨rfl, h1⟩
set_option maxRecDepth 100000 in
set_option maxHeartbeats 1000000 in
theorem way_lt_t_ff_ft (a b z c d k l : Nat) (w : World) (hcd : ¬ (c : Int) = (d : Int)) (hkl : (k : Int) < (l : Int)) (l1 : (∀ w, Calls Try.prog 12 #[.int .u64 (a : Int), .int .u64 (b : Int)] w fun e w' => e = .returned (.bool true) ∧ w = w')) (l2 : (∀ w, Calls Try.prog 12 #[.int .u64 (b : Int), .int .u64 (a : Int)] w fun e w' => e = .returned (.bool false) ∧ w = w')) (c1 : (∀ w, Calls Try.prog 10 #[.int .u64 (a : Int)] w fun e w' => e = .returned (.int .u64 (c : Int)) ∧ w = w')) (c2 : (∀ w, Calls Try.prog 10 #[.int .u64 (b : Int)] w fun e w' => e = .returned (.int .u64 (d : Int)) ∧ w = w')) (k1 : (∀ w, Calls Try.prog 14 #[.int .u64 (a : Int)] w fun e w' => e = .returned (.int .u64 (k : Int)) ∧ w = w')) (k2 : (∀ w, Calls Try.prog 14 #[.int .u64 (b : Int)] w fun e w' => e = .returned (.int .u64 (l : Int)) ∧ w = w')) (l3 : (∀ w, Calls Try.prog 12 #[.int .u64 (b : Int), .int .u64 (z : Int)] w fun e w' => e = .returned (.bool true) ∧ w = w')) (l4 : (∀ w, Calls Try.prog 12 #[.int .u64 (a : Int), .int .u64 (z : Int)] w fun e w' => e = .returned (.bool true) ∧ w = w')) (fa : (FloatKind.f64.format.order a a == some .eq) = true) (fb : (FloatKind.f64.format.order b b == some .eq) = true) (ga : (FloatKind.f64.format.order a a != some .eq) = false) (gb : (FloatKind.f64.format.order b b != some .eq) = false) (za : (FloatKind.f64.format.order a 0 != some .eq) = false) (zb : (FloatKind.f64.format.order b 0 != some .eq) = true) (hlt : (FloatKind.f64.format.order a b == some .lt) = true) (al : ∀ w, Calls Try.prog 18 #[] w fun e w' => e = .returned (.bool true) ∧ Below w.heap.size w w') :
    Calls Try.prog 4 #[.int .u64 (a : Int), .int .u64 (b : Int), .int .u64 (z : Int)] w fun e w' => e = .returned (.bool true) ∧ Below w.heap.size w w' := by
  have hf := fun W => from_a a W
  have hg := fun W => from_a b W
  go_enter Try.func4, Try.ntmps4
  go_wp2_with fail
  refine (l1 _).mono ?_
  rintro e w1 ⟨rfl, rfl⟩
  go_wp2_with fail
  refine (l2 _).mono ?_
  rintro e w1 ⟨rfl, rfl⟩
  go_wp2_with fail
  refine (c1 _).mono ?_
  rintro e w1 ⟨rfl, rfl⟩
  go_wp2_with fail
  refine (c2 _).mono ?_
  rintro e w1 ⟨rfl, rfl⟩
  go_wp2_with fail
  refine (k1 _).mono ?_
  rintro e w1 ⟨rfl, rfl⟩
  go_wp2_with fail
  refine (k2 _).mono ?_
  rintro e w1 ⟨rfl, rfl⟩
  go_wp2_with fail
  refine (l3 _).mono ?_
  rintro e w1 ⟨rfl, rfl⟩
  go_wp2_with fail
  refine (l4 _).mono ?_
  rintro e w1 ⟨rfl, rfl⟩
  go_wp2_with fail
  refine (al _).mono ?_
  rintro e w1 ⟨rfl, h1⟩
  go_wp2
  go_ret
  exact ⟨rfl, h1⟩
set_option maxRecDepth 100000 in
set_option maxHeartbeats 1000000 in
theorem way_lt_t_ff_ff (a b z c d k l : Nat) (w : World) (hcd : ¬ (c : Int) = (d : Int)) (hkl : (k : Int) < (l : Int)) (l1 : (∀ w, Calls Try.prog 12 #[.int .u64 (a : Int), .int .u64 (b : Int)] w fun e w' => e = .returned (.bool true) ∧ w = w')) (l2 : (∀ w, Calls Try.prog 12 #[.int .u64 (b : Int), .int .u64 (a : Int)] w fun e w' => e = .returned (.bool false) ∧ w = w')) (c1 : (∀ w, Calls Try.prog 10 #[.int .u64 (a : Int)] w fun e w' => e = .returned (.int .u64 (c : Int)) ∧ w = w')) (c2 : (∀ w, Calls Try.prog 10 #[.int .u64 (b : Int)] w fun e w' => e = .returned (.int .u64 (d : Int)) ∧ w = w')) (k1 : (∀ w, Calls Try.prog 14 #[.int .u64 (a : Int)] w fun e w' => e = .returned (.int .u64 (k : Int)) ∧ w = w')) (k2 : (∀ w, Calls Try.prog 14 #[.int .u64 (b : Int)] w fun e w' => e = .returned (.int .u64 (l : Int)) ∧ w = w')) (l3 : (∀ w, Calls Try.prog 12 #[.int .u64 (b : Int), .int .u64 (z : Int)] w fun e w' => e = .returned (.bool true) ∧ w = w')) (l4 : (∀ w, Calls Try.prog 12 #[.int .u64 (a : Int), .int .u64 (z : Int)] w fun e w' => e = .returned (.bool true) ∧ w = w')) (fa : (FloatKind.f64.format.order a a == some .eq) = true) (fb : (FloatKind.f64.format.order b b == some .eq) = true) (ga : (FloatKind.f64.format.order a a != some .eq) = false) (gb : (FloatKind.f64.format.order b b != some .eq) = false) (za : (FloatKind.f64.format.order a 0 != some .eq) = false) (zb : (FloatKind.f64.format.order b 0 != some .eq) = false) (al : ∀ w, Calls Try.prog 18 #[] w fun e w' => e = .returned (.bool true) ∧ Below w.heap.size w w') :
    Calls Try.prog 4 #[.int .u64 (a : Int), .int .u64 (b : Int), .int .u64 (z : Int)] w fun e w' => e = .returned (.bool true) ∧ Below w.heap.size w w' := by
  have hf := fun W => from_a a W
  have hg := fun W => from_a b W
  go_enter Try.func4, Try.ntmps4
  go_wp2_with fail
  refine (l1 _).mono ?_
  rintro e w1 ⟨rfl, rfl⟩
  go_wp2_with fail
  refine (l2 _).mono ?_
  rintro e w1 ⟨rfl, rfl⟩
  go_wp2_with fail
  refine (c1 _).mono ?_
  rintro e w1 ⟨rfl, rfl⟩
  go_wp2_with fail
  refine (c2 _).mono ?_
  rintro e w1 ⟨rfl, rfl⟩
  go_wp2_with fail
  refine (k1 _).mono ?_
  rintro e w1 ⟨rfl, rfl⟩
  go_wp2_with fail
  refine (k2 _).mono ?_
  rintro e w1 ⟨rfl, rfl⟩
  go_wp2_with fail
  refine (l3 _).mono ?_
  rintro e w1 ⟨rfl, rfl⟩
  go_wp2_with fail
  refine (l4 _).mono ?_
  rintro e w1 ⟨rfl, rfl⟩
  go_wp2_with fail
  refine (al _).mono ?_
  rintro e w1 ⟨rfl, h1⟩
  go_wp2
  go_ret
  exact ⟨rfl, h1⟩
set_option maxRecDepth 100000 in
set_option maxHeartbeats 1000000 in
theorem way_eq_x_nn_xx (a b z c k : Nat) (w : World) (l1 : (∀ w, Calls Try.prog 12 #[.int .u64 (a : Int), .int .u64 (b : Int)] w fun e w' => e = .returned (.bool false) ∧ w = w')) (l2 : (∀ w, Calls Try.prog 12 #[.int .u64 (b : Int), .int .u64 (a : Int)] w fun e w' => e = .returned (.bool false) ∧ w = w')) (c1 : (∀ w, Calls Try.prog 10 #[.int .u64 (a : Int)] w fun e w' => e = .returned (.int .u64 (c : Int)) ∧ w = w')) (c2 : (∀ w, Calls Try.prog 10 #[.int .u64 (b : Int)] w fun e w' => e = .returned (.int .u64 (c : Int)) ∧ w = w')) (k1 : (∀ w, Calls Try.prog 14 #[.int .u64 (a : Int)] w fun e w' => e = .returned (.int .u64 (k : Int)) ∧ w = w')) (k2 : (∀ w, Calls Try.prog 14 #[.int .u64 (b : Int)] w fun e w' => e = .returned (.int .u64 (k : Int)) ∧ w = w')) (fa : (FloatKind.f64.format.order a a == some .eq) = false) (fb : (FloatKind.f64.format.order b b == some .eq) = false) (ga : (FloatKind.f64.format.order a a != some .eq) = true) (gb : (FloatKind.f64.format.order b b != some .eq) = true) (al : ∀ w, Calls Try.prog 18 #[] w fun e w' => e = .returned (.bool true) ∧ Below w.heap.size w w') :
    Calls Try.prog 4 #[.int .u64 (a : Int), .int .u64 (b : Int), .int .u64 (z : Int)] w fun e w' => e = .returned (.bool true) ∧ Below w.heap.size w w' := by
  have hf := fun W => from_a a W
  have hg := fun W => from_a b W
  go_enter Try.func4, Try.ntmps4
  go_wp2_with fail
  refine (l1 _).mono ?_
  rintro e w1 ⟨rfl, rfl⟩
  go_wp2_with fail
  refine (l2 _).mono ?_
  rintro e w1 ⟨rfl, rfl⟩
  go_wp2_with fail
  refine (c1 _).mono ?_
  rintro e w1 ⟨rfl, rfl⟩
  go_wp2_with fail
  refine (c2 _).mono ?_
  rintro e w1 ⟨rfl, rfl⟩
  go_wp2_with fail
  refine (k1 _).mono ?_
  rintro e w1 ⟨rfl, rfl⟩
  go_wp2_with fail
  refine (k2 _).mono ?_
  rintro e w1 ⟨rfl, rfl⟩
  go_wp2_with fail
  refine (al _).mono ?_
  rintro e w1 ⟨rfl, h1⟩
  go_wp2
  go_ret
  exact ⟨rfl, h1⟩
set_option maxRecDepth 100000 in
set_option maxHeartbeats 1000000 in
theorem way_eq_x_nf_xx (a b z c k : Nat) (w : World) (l1 : (∀ w, Calls Try.prog 12 #[.int .u64 (a : Int), .int .u64 (b : Int)] w fun e w' => e = .returned (.bool false) ∧ w = w')) (l2 : (∀ w, Calls Try.prog 12 #[.int .u64 (b : Int), .int .u64 (a : Int)] w fun e w' => e = .returned (.bool false) ∧ w = w')) (c1 : (∀ w, Calls Try.prog 10 #[.int .u64 (a : Int)] w fun e w' => e = .returned (.int .u64 (c : Int)) ∧ w = w')) (c2 : (∀ w, Calls Try.prog 10 #[.int .u64 (b : Int)] w fun e w' => e = .returned (.int .u64 (c : Int)) ∧ w = w')) (k1 : (∀ w, Calls Try.prog 14 #[.int .u64 (a : Int)] w fun e w' => e = .returned (.int .u64 (k : Int)) ∧ w = w')) (k2 : (∀ w, Calls Try.prog 14 #[.int .u64 (b : Int)] w fun e w' => e = .returned (.int .u64 (k : Int)) ∧ w = w')) (fa : (FloatKind.f64.format.order a a == some .eq) = false) (fb : (FloatKind.f64.format.order b b == some .eq) = true) (ga : (FloatKind.f64.format.order a a != some .eq) = true) (gb : (FloatKind.f64.format.order b b != some .eq) = false) (al : ∀ w, Calls Try.prog 18 #[] w fun e w' => e = .returned (.bool true) ∧ Below w.heap.size w w') :
    Calls Try.prog 4 #[.int .u64 (a : Int), .int .u64 (b : Int), .int .u64 (z : Int)] w fun e w' => e = .returned (.bool true) ∧ Below w.heap.size w w' := by
  have hf := fun W => from_a a W
  have hg := fun W => from_a b W
  go_enter Try.func4, Try.ntmps4
  go_wp2_with fail
  refine (l1 _).mono ?_
  rintro e w1 ⟨rfl, rfl⟩
  go_wp2_with fail
  refine (l2 _).mono ?_
  rintro e w1 ⟨rfl, rfl⟩
  go_wp2_with fail
  refine (c1 _).mono ?_
  rintro e w1 ⟨rfl, rfl⟩
  go_wp2_with fail
  refine (c2 _).mono ?_
  rintro e w1 ⟨rfl, rfl⟩
  go_wp2_with fail
  refine (k1 _).mono ?_
  rintro e w1 ⟨rfl, rfl⟩
  go_wp2_with fail
  refine (k2 _).mono ?_
  rintro e w1 ⟨rfl, rfl⟩
  go_wp2_with fail
  refine (al _).mono ?_
  rintro e w1 ⟨rfl, h1⟩
  go_wp2
  go_ret
  exact ⟨rfl, h1⟩
set_option maxRecDepth 100000 in
set_option maxHeartbeats 1000000 in
theorem way_eq_x_ff_tx (a b z c k : Nat) (w : World) (l1 : (∀ w, Calls Try.prog 12 #[.int .u64 (a : Int), .int .u64 (b : Int)] w fun e w' => e = .returned (.bool false) ∧ w = w')) (l2 : (∀ w, Calls Try.prog 12 #[.int .u64 (b : Int), .int .u64 (a : Int)] w fun e w' => e = .returned (.bool false) ∧ w = w')) (c1 : (∀ w, Calls Try.prog 10 #[.int .u64 (a : Int)] w fun e w' => e = .returned (.int .u64 (c : Int)) ∧ w = w')) (c2 : (∀ w, Calls Try.prog 10 #[.int .u64 (b : Int)] w fun e w' => e = .returned (.int .u64 (c : Int)) ∧ w = w')) (k1 : (∀ w, Calls Try.prog 14 #[.int .u64 (a : Int)] w fun e w' => e = .returned (.int .u64 (k : Int)) ∧ w = w')) (k2 : (∀ w, Calls Try.prog 14 #[.int .u64 (b : Int)] w fun e w' => e = .returned (.int .u64 (k : Int)) ∧ w = w')) (fa : (FloatKind.f64.format.order a a == some .eq) = true) (fb : (FloatKind.f64.format.order b b == some .eq) = true) (ga : (FloatKind.f64.format.order a a != some .eq) = false) (gb : (FloatKind.f64.format.order b b != some .eq) = false) (za : (FloatKind.f64.format.order a 0 != some .eq) = true) (hlt : (FloatKind.f64.format.order a b == some .lt) = false) (al : ∀ w, Calls Try.prog 18 #[] w fun e w' => e = .returned (.bool true) ∧ Below w.heap.size w w') :
    Calls Try.prog 4 #[.int .u64 (a : Int), .int .u64 (b : Int), .int .u64 (z : Int)] w fun e w' => e = .returned (.bool true) ∧ Below w.heap.size w w' := by
  have hf := fun W => from_a a W
  have hg := fun W => from_a b W
  go_enter Try.func4, Try.ntmps4
  go_wp2_with fail
  refine (l1 _).mono ?_
  rintro e w1 ⟨rfl, rfl⟩
  go_wp2_with fail
  refine (l2 _).mono ?_
  rintro e w1 ⟨rfl, rfl⟩
  go_wp2_with fail
  refine (c1 _).mono ?_
  rintro e w1 ⟨rfl, rfl⟩
  go_wp2_with fail
  refine (c2 _).mono ?_
  rintro e w1 ⟨rfl, rfl⟩
  go_wp2_with fail
  refine (k1 _).mono ?_
  rintro e w1 ⟨rfl, rfl⟩
  go_wp2_with fail
  refine (k2 _).mono ?_
  rintro e w1 ⟨rfl, rfl⟩
  go_wp2_with fail
  refine (al _).mono ?_
  rintro e w1 ⟨rfl, h1⟩
  go_wp2
  go_ret
  exact ⟨rfl, h1⟩
set_option maxRecDepth 100000 in
set_option maxHeartbeats 1000000 in
theorem way_eq_x_ff_ft (a b z c k : Nat) (w : World) (l1 : (∀ w, Calls Try.prog 12 #[.int .u64 (a : Int), .int .u64 (b : Int)] w fun e w' => e = .returned (.bool false) ∧ w = w')) (l2 : (∀ w, Calls Try.prog 12 #[.int .u64 (b : Int), .int .u64 (a : Int)] w fun e w' => e = .returned (.bool false) ∧ w = w')) (c1 : (∀ w, Calls Try.prog 10 #[.int .u64 (a : Int)] w fun e w' => e = .returned (.int .u64 (c : Int)) ∧ w = w')) (c2 : (∀ w, Calls Try.prog 10 #[.int .u64 (b : Int)] w fun e w' => e = .returned (.int .u64 (c : Int)) ∧ w = w')) (k1 : (∀ w, Calls Try.prog 14 #[.int .u64 (a : Int)] w fun e w' => e = .returned (.int .u64 (k : Int)) ∧ w = w')) (k2 : (∀ w, Calls Try.prog 14 #[.int .u64 (b : Int)] w fun e w' => e = .returned (.int .u64 (k : Int)) ∧ w = w')) (fa : (FloatKind.f64.format.order a a == some .eq) = true) (fb : (FloatKind.f64.format.order b b == some .eq) = true) (ga : (FloatKind.f64.format.order a a != some .eq) = false) (gb : (FloatKind.f64.format.order b b != some .eq) = false) (za : (FloatKind.f64.format.order a 0 != some .eq) = false) (zb : (FloatKind.f64.format.order b 0 != some .eq) = true) (hlt : (FloatKind.f64.format.order a b == some .lt) = false) (al : ∀ w, Calls Try.prog 18 #[] w fun e w' => e = .returned (.bool true) ∧ Below w.heap.size w w') :
    Calls Try.prog 4 #[.int .u64 (a : Int), .int .u64 (b : Int), .int .u64 (z : Int)] w fun e w' => e = .returned (.bool true) ∧ Below w.heap.size w w' := by
  have hf := fun W => from_a a W
  have hg := fun W => from_a b W
  go_enter Try.func4, Try.ntmps4
  go_wp2_with fail
  refine (l1 _).mono ?_
  rintro e w1 ⟨rfl, rfl⟩
  go_wp2_with fail
  refine (l2 _).mono ?_
  rintro e w1 ⟨rfl, rfl⟩
  go_wp2_with fail
  refine (c1 _).mono ?_
  rintro e w1 ⟨rfl, rfl⟩
  go_wp2_with fail
  refine (c2 _).mono ?_
  rintro e w1 ⟨rfl, rfl⟩
  go_wp2_with fail
  refine (k1 _).mono ?_
  rintro e w1 ⟨rfl, rfl⟩
  go_wp2_with fail
  refine (k2 _).mono ?_
  rintro e w1 ⟨rfl, rfl⟩
  go_wp2_with fail
  refine (al _).mono ?_
  rintro e w1 ⟨rfl, h1⟩
  go_wp2
  go_ret
  exact ⟨rfl, h1⟩
set_option maxRecDepth 100000 in
set_option maxHeartbeats 1000000 in
theorem way_eq_x_ff_ff (a b z c k : Nat) (w : World) (l1 : (∀ w, Calls Try.prog 12 #[.int .u64 (a : Int), .int .u64 (b : Int)] w fun e w' => e = .returned (.bool false) ∧ w = w')) (l2 : (∀ w, Calls Try.prog 12 #[.int .u64 (b : Int), .int .u64 (a : Int)] w fun e w' => e = .returned (.bool false) ∧ w = w')) (c1 : (∀ w, Calls Try.prog 10 #[.int .u64 (a : Int)] w fun e w' => e = .returned (.int .u64 (c : Int)) ∧ w = w')) (c2 : (∀ w, Calls Try.prog 10 #[.int .u64 (b : Int)] w fun e w' => e = .returned (.int .u64 (c : Int)) ∧ w = w')) (k1 : (∀ w, Calls Try.prog 14 #[.int .u64 (a : Int)] w fun e w' => e = .returned (.int .u64 (k : Int)) ∧ w = w')) (k2 : (∀ w, Calls Try.prog 14 #[.int .u64 (b : Int)] w fun e w' => e = .returned (.int .u64 (k : Int)) ∧ w = w')) (fa : (FloatKind.f64.format.order a a == some .eq) = true) (fb : (FloatKind.f64.format.order b b == some .eq) = true) (ga : (FloatKind.f64.format.order a a != some .eq) = false) (gb : (FloatKind.f64.format.order b b != some .eq) = false) (za : (FloatKind.f64.format.order a 0 != some .eq) = false) (zb : (FloatKind.f64.format.order b 0 != some .eq) = false) (al : ∀ w, Calls Try.prog 18 #[] w fun e w' => e = .returned (.bool true) ∧ Below w.heap.size w w') :
    Calls Try.prog 4 #[.int .u64 (a : Int), .int .u64 (b : Int), .int .u64 (z : Int)] w fun e w' => e = .returned (.bool true) ∧ Below w.heap.size w w' := by
  have hf := fun W => from_a a W
  have hg := fun W => from_a b W
  go_enter Try.func4, Try.ntmps4
  go_wp2_with fail
  refine (l1 _).mono ?_
  rintro e w1 ⟨rfl, rfl⟩
  go_wp2_with fail
  refine (l2 _).mono ?_
  rintro e w1 ⟨rfl, rfl⟩
  go_wp2_with fail
  refine (c1 _).mono ?_
  rintro e w1 ⟨rfl, rfl⟩
  go_wp2_with fail
  refine (c2 _).mono ?_
  rintro e w1 ⟨rfl, rfl⟩
  go_wp2_with fail
  refine (k1 _).mono ?_
  rintro e w1 ⟨rfl, rfl⟩
  go_wp2_with fail
  refine (k2 _).mono ?_
  rintro e w1 ⟨rfl, rfl⟩
  go_wp2_with fail
  refine (al _).mono ?_
  rintro e w1 ⟨rfl, h1⟩
  go_wp2
  go_ret
  exact ⟨rfl, h1⟩
set_option maxRecDepth 100000 in
set_option maxHeartbeats 1000000 in
theorem way_gt_x_nn_xx (a b z c d k l : Nat) (w : World) (hcd : ¬ (c : Int) = (d : Int)) (hkl : ¬ (k : Int) < (l : Int)) (hcd2 : ((c : Int) == (d : Int)) = false) (hkl2 : decide (k < l) = false) (l1 : (∀ w, Calls Try.prog 12 #[.int .u64 (a : Int), .int .u64 (b : Int)] w fun e w' => e = .returned (.bool false) ∧ w = w')) (l2 : (∀ w, Calls Try.prog 12 #[.int .u64 (b : Int), .int .u64 (a : Int)] w fun e w' => e = .returned (.bool true) ∧ w = w')) (c1 : (∀ w, Calls Try.prog 10 #[.int .u64 (a : Int)] w fun e w' => e = .returned (.int .u64 (c : Int)) ∧ w = w')) (c2 : (∀ w, Calls Try.prog 10 #[.int .u64 (b : Int)] w fun e w' => e = .returned (.int .u64 (d : Int)) ∧ w = w')) (k1 : (∀ w, Calls Try.prog 14 #[.int .u64 (a : Int)] w fun e w' => e = .returned (.int .u64 (k : Int)) ∧ w = w')) (k2 : (∀ w, Calls Try.prog 14 #[.int .u64 (b : Int)] w fun e w' => e = .returned (.int .u64 (l : Int)) ∧ w = w')) (fa : (FloatKind.f64.format.order a a == some .eq) = false) (fb : (FloatKind.f64.format.order b b == some .eq) = false) (ga : (FloatKind.f64.format.order a a != some .eq) = true) (gb : (FloatKind.f64.format.order b b != some .eq) = true) (al : ∀ w, Calls Try.prog 18 #[] w fun e w' => e = .returned (.bool true) ∧ Below w.heap.size w w') :
    Calls Try.prog 4 #[.int .u64 (a : Int), .int .u64 (b : Int), .int .u64 (z : Int)] w fun e w' => e = .returned (.bool true) ∧ Below w.heap.size w w' := by
  have hf := fun W => from_a a W
  have hg := fun W => from_a b W
  go_enter Try.func4, Try.ntmps4
  go_wp2_with fail
  refine (l1 _).mono ?_
  rintro e w1 ⟨rfl, rfl⟩
  go_wp2_with fail
  refine (l2 _).mono ?_
  rintro e w1 ⟨rfl, rfl⟩
  go_wp2_with fail
  refine (c1 _).mono ?_
  rintro e w1 ⟨rfl, rfl⟩
  go_wp2_with fail
  refine (c2 _).mono ?_
  rintro e w1 ⟨rfl, rfl⟩
  go_wp2_with fail
  refine (k1 _).mono ?_
  rintro e w1 ⟨rfl, rfl⟩
  go_wp2_with fail
  refine (k2 _).mono ?_
  rintro e w1 ⟨rfl, rfl⟩
  go_wp2_with fail
  refine (al _).mono ?_
  rintro e w1 ⟨rfl, h1⟩
  go_wp2
  go_ret
  exact ⟨rfl, h1⟩
set_option maxRecDepth 100000 in
set_option maxHeartbeats 1000000 in
theorem way_gt_x_nf_xx (a b z c d k l : Nat) (w : World) (hcd : ¬ (c : Int) = (d : Int)) (hkl : ¬ (k : Int) < (l : Int)) (hcd2 : ((c : Int) == (d : Int)) = false) (hkl2 : decide (k < l) = false) (l1 : (∀ w, Calls Try.prog 12 #[.int .u64 (a : Int), .int .u64 (b : Int)] w fun e w' => e = .returned (.bool false) ∧ w = w')) (l2 : (∀ w, Calls Try.prog 12 #[.int .u64 (b : Int), .int .u64 (a : Int)] w fun e w' => e = .returned (.bool true) ∧ w = w')) (c1 : (∀ w, Calls Try.prog 10 #[.int .u64 (a : Int)] w fun e w' => e = .returned (.int .u64 (c : Int)) ∧ w = w')) (c2 : (∀ w, Calls Try.prog 10 #[.int .u64 (b : Int)] w fun e w' => e = .returned (.int .u64 (d : Int)) ∧ w = w')) (k1 : (∀ w, Calls Try.prog 14 #[.int .u64 (a : Int)] w fun e w' => e = .returned (.int .u64 (k : Int)) ∧ w = w')) (k2 : (∀ w, Calls Try.prog 14 #[.int .u64 (b : Int)] w fun e w' => e = .returned (.int .u64 (l : Int)) ∧ w = w')) (fa : (FloatKind.f64.format.order a a == some .eq) = false) (fb : (FloatKind.f64.format.order b b == some .eq) = true) (ga : (FloatKind.f64.format.order a a != some .eq) = true) (gb : (FloatKind.f64.format.order b b != some .eq) = false) (al : ∀ w, Calls Try.prog 18 #[] w fun e w' => e = .returned (.bool true) ∧ Below w.heap.size w w') :
    Calls Try.prog 4 #[.int .u64 (a : Int), .int .u64 (b : Int), .int .u64 (z : Int)] w fun e w' => e = .returned (.bool true) ∧ Below w.heap.size w w' := by
  have hf := fun W => from_a a W
  have hg := fun W => from_a b W
  go_enter Try.func4, Try.ntmps4
  go_wp2_with fail
  refine (l1 _).mono ?_
  rintro e w1 ⟨rfl, rfl⟩
  go_wp2_with fail
  refine (l2 _).mono ?_
  rintro e w1 ⟨rfl, rfl⟩
  go_wp2_with fail
  refine (c1 _).mono ?_
  rintro e w1 ⟨rfl, rfl⟩
  go_wp2_with fail
  refine (c2 _).mono ?_
  rintro e w1 ⟨rfl, rfl⟩
  go_wp2_with fail
  refine (k1 _).mono ?_
  rintro e w1 ⟨rfl, rfl⟩
  go_wp2_with fail
  refine (k2 _).mono ?_
  rintro e w1 ⟨rfl, rfl⟩
  go_wp2_with fail
  refine (al _).mono ?_
  rintro e w1 ⟨rfl, h1⟩
  go_wp2
  go_ret
  exact ⟨rfl, h1⟩
set_option maxRecDepth 100000 in
set_option maxHeartbeats 1000000 in
theorem way_gt_x_ff_tx (a b z c d k l : Nat) (w : World) (hcd : ¬ (c : Int) = (d : Int)) (hkl : ¬ (k : Int) < (l : Int)) (hcd2 : ((c : Int) == (d : Int)) = false) (hkl2 : decide (k < l) = false) (l1 : (∀ w, Calls Try.prog 12 #[.int .u64 (a : Int), .int .u64 (b : Int)] w fun e w' => e = .returned (.bool false) ∧ w = w')) (l2 : (∀ w, Calls Try.prog 12 #[.int .u64 (b : Int), .int .u64 (a : Int)] w fun e w' => e = .returned (.bool true) ∧ w = w')) (c1 : (∀ w, Calls Try.prog 10 #[.int .u64 (a : Int)] w fun e w' => e = .returned (.int .u64 (c : Int)) ∧ w = w')) (c2 : (∀ w, Calls Try.prog 10 #[.int .u64 (b : Int)] w fun e w' => e = .returned (.int .u64 (d : Int)) ∧ w = w')) (k1 : (∀ w, Calls Try.prog 14 #[.int .u64 (a : Int)] w fun e w' => e = .returned (.int .u64 (k : Int)) ∧ w = w')) (k2 : (∀ w, Calls Try.prog 14 #[.int .u64 (b : Int)] w fun e w' => e = .returned (.int .u64 (l : Int)) ∧ w = w')) (fa : (FloatKind.f64.format.order a a == some .eq) = true) (fb : (FloatKind.f64.format.order b b == some .eq) = true) (ga : (FloatKind.f64.format.order a a != some .eq) = false) (gb : (FloatKind.f64.format.order b b != some .eq) = false) (za : (FloatKind.f64.format.order a 0 != some .eq) = true) (hlt : (FloatKind.f64.format.order a b == some .lt) = false) (al : ∀ w, Calls Try.prog 18 #[] w fun e w' => e = .returned (.bool true) ∧ Below w.heap.size w w') :
    Calls Try.prog 4 #[.int .u64 (a : Int), .int .u64 (b : Int), .int .u64 (z : Int)] w fun e w' => e = .returned (.bool true) ∧ Below w.heap.size w w' := by
  have hf := fun W => from_a a W
  have hg := fun W => from_a b W
  go_enter Try.func4, Try.ntmps4
  go_wp2_with fail
  refine (l1 _).mono ?_
  rintro e w1 ⟨rfl, rfl⟩
  go_wp2_with fail
  refine (l2 _).mono ?_
  rintro e w1 ⟨rfl, rfl⟩
  go_wp2_with fail
  refine (c1 _).mono ?_
  rintro e w1 ⟨rfl, rfl⟩
  go_wp2_with fail
  refine (c2 _).mono ?_
  rintro e w1 ⟨rfl, rfl⟩
  go_wp2_with fail
  refine (k1 _).mono ?_
  rintro e w1 ⟨rfl, rfl⟩
  go_wp2_with fail
  refine (k2 _).mono ?_
  rintro e w1 ⟨rfl, rfl⟩
  go_wp2_with fail
  refine (al _).mono ?_
  rintro e w1 ⟨rfl, h1⟩
  go_wp2
  go_ret
  exact ⟨rfl, h1⟩
set_option maxRecDepth 100000 in
set_option maxHeartbeats 1000000 in
theorem way_gt_x_ff_ft (a b z c d k l : Nat) (w : World) (hcd : ¬ (c : Int) = (d : Int)) (hkl : ¬ (k : Int) < (l : Int)) (hcd2 : ((c : Int) == (d : Int)) = false) (hkl2 : decide (k < l) = false) (l1 : (∀ w, Calls Try.prog 12 #[.int .u64 (a : Int), .int .u64 (b : Int)] w fun e w' => e = .returned (.bool false) ∧ w = w')) (l2 : (∀ w, Calls Try.prog 12 #[.int .u64 (b : Int), .int .u64 (a : Int)] w fun e w' => e = .returned (.bool true) ∧ w = w')) (c1 : (∀ w, Calls Try.prog 10 #[.int .u64 (a : Int)] w fun e w' => e = .returned (.int .u64 (c : Int)) ∧ w = w')) (c2 : (∀ w, Calls Try.prog 10 #[.int .u64 (b : Int)] w fun e w' => e = .returned (.int .u64 (d : Int)) ∧ w = w')) (k1 : (∀ w, Calls Try.prog 14 #[.int .u64 (a : Int)] w fun e w' => e = .returned (.int .u64 (k : Int)) ∧ w = w')) (k2 : (∀ w, Calls Try.prog 14 #[.int .u64 (b : Int)] w fun e w' => e = .returned (.int .u64 (l : Int)) ∧ w = w')) (fa : (FloatKind.f64.format.order a a == some .eq) = true) (fb : (FloatKind.f64.format.order b b == some .eq) = true) (ga : (FloatKind.f64.format.order a a != some .eq) = false) (gb : (FloatKind.f64.format.order b b != some .eq) = false) (za : (FloatKind.f64.format.order a 0 != some .eq) = false) (zb : (FloatKind.f64.format.order b 0 != some .eq) = true) (hlt : (FloatKind.f64.format.order a b == some .lt) = false) (al : ∀ w, Calls Try.prog 18 #[] w fun e w' => e = .returned (.bool true) ∧ Below w.heap.size w w') :
    Calls Try.prog 4 #[.int .u64 (a : Int), .int .u64 (b : Int), .int .u64 (z : Int)] w fun e w' => e = .returned (.bool true) ∧ Below w.heap.size w w' := by
  have hf := fun W => from_a a W
  have hg := fun W => from_a b W
  go_enter Try.func4, Try.ntmps4
  go_wp2_with fail
  refine (l1 _).mono ?_
  rintro e w1 ⟨rfl, rfl⟩
  go_wp2_with fail
  refine (l2 _).mono ?_
  rintro e w1 ⟨rfl, rfl⟩
  go_wp2_with fail
  refine (c1 _).mono ?_
  rintro e w1 ⟨rfl, rfl⟩
  go_wp2_with fail
  refine (c2 _).mono ?_
  rintro e w1 ⟨rfl, rfl⟩
  go_wp2_with fail
  refine (k1 _).mono ?_
  rintro e w1 ⟨rfl, rfl⟩
  go_wp2_with fail
  refine (k2 _).mono ?_
  rintro e w1 ⟨rfl, rfl⟩
  go_wp2_with fail
  refine (al _).mono ?_
  rintro e w1 ⟨rfl, h1⟩
  go_wp2
  go_ret
  exact ⟨rfl, h1⟩
set_option maxRecDepth 100000 in
set_option maxHeartbeats 1000000 in
theorem way_gt_x_ff_ff (a b z c d k l : Nat) (w : World) (hcd : ¬ (c : Int) = (d : Int)) (hkl : ¬ (k : Int) < (l : Int)) (hcd2 : ((c : Int) == (d : Int)) = false) (hkl2 : decide (k < l) = false) (l1 : (∀ w, Calls Try.prog 12 #[.int .u64 (a : Int), .int .u64 (b : Int)] w fun e w' => e = .returned (.bool false) ∧ w = w')) (l2 : (∀ w, Calls Try.prog 12 #[.int .u64 (b : Int), .int .u64 (a : Int)] w fun e w' => e = .returned (.bool true) ∧ w = w')) (c1 : (∀ w, Calls Try.prog 10 #[.int .u64 (a : Int)] w fun e w' => e = .returned (.int .u64 (c : Int)) ∧ w = w')) (c2 : (∀ w, Calls Try.prog 10 #[.int .u64 (b : Int)] w fun e w' => e = .returned (.int .u64 (d : Int)) ∧ w = w')) (k1 : (∀ w, Calls Try.prog 14 #[.int .u64 (a : Int)] w fun e w' => e = .returned (.int .u64 (k : Int)) ∧ w = w')) (k2 : (∀ w, Calls Try.prog 14 #[.int .u64 (b : Int)] w fun e w' => e = .returned (.int .u64 (l : Int)) ∧ w = w')) (fa : (FloatKind.f64.format.order a a == some .eq) = true) (fb : (FloatKind.f64.format.order b b == some .eq) = true) (ga : (FloatKind.f64.format.order a a != some .eq) = false) (gb : (FloatKind.f64.format.order b b != some .eq) = false) (za : (FloatKind.f64.format.order a 0 != some .eq) = false) (zb : (FloatKind.f64.format.order b 0 != some .eq) = false) (al : ∀ w, Calls Try.prog 18 #[] w fun e w' => e = .returned (.bool true) ∧ Below w.heap.size w w') :
    Calls Try.prog 4 #[.int .u64 (a : Int), .int .u64 (b : Int), .int .u64 (z : Int)] w fun e w' => e = .returned (.bool true) ∧ Below w.heap.size w w' := by
  have hf := fun W => from_a a W
  have hg := fun W => from_a b W
  go_enter Try.func4, Try.ntmps4
  go_wp2_with fail
  refine (l1 _).mono ?_
  rintro e w1 ⟨rfl, rfl⟩
  go_wp2_with fail
  refine (l2 _).mono ?_
  rintro e w1 ⟨rfl, rfl⟩
  go_wp2_with fail
  refine (c1 _).mono ?_
  rintro e w1 ⟨rfl, rfl⟩
  go_wp2_with fail
  refine (c2 _).mono ?_
  rintro e w1 ⟨rfl, rfl⟩
  go_wp2_with fail
  refine (k1 _).mono ?_
  rintro e w1 ⟨rfl, rfl⟩
  go_wp2_with fail
  refine (k2 _).mono ?_
  rintro e w1 ⟨rfl, rfl⟩
  go_wp2_with fail
  refine (al _).mono ?_
  rintro e w1 ⟨rfl, h1⟩
  go_wp2
  go_ret
  exact ⟨rfl, h1⟩
theorem walk_nat (a b z : Nat) (ha : a < 18446744073709551616) (hb : b < 18446744073709551616) (hz : z < 18446744073709551616) (w : World) :
    Calls Try.prog 4 #[.int .u64 (a : Int), .int .u64 (b : Int), .int .u64 (z : Int)] w fun e w' => e = .returned (.bool true) ∧ Below w.heap.size w w' := by
  have l1 := fun w => Rk.less_any a b w ha hb
  have l2 := fun w => Rk.less_any b a w hb ha
  have l3 := fun w => Rk.less_any b z w hb hz
  have l4 := fun w => Rk.less_any a z w ha hz
  have c1 := fun w => Rk.canon_any a w
  have c2 := fun w => Rk.canon_any b w
  have k1 := fun w => Rk.key_any a w ha
  have k2 := fun w => Rk.key_any b w hb
  have e1 := Ro.less_key ha hb
  have e2 := Ro.less_key hb ha
  have e3 := Ro.less_key hb hz
  have e4 := Ro.less_key ha hz
  have hi := Ro.key_inj ha hb
  have fa := self_eql a
  have fb := self_eql b
  have ga := self_neq a
  have gb := self_neq b
  have hol := order_less ha hb
  have hnan : bad a = true → Rm.less a b = false := fun h => by
    have hp := (Ro.place_nan a).2 h
    have hq := Ro.place_le b
    unfold Rm.less
    rw [hp]
    by_cases e : Rm.place b = 2
    · rw [e, if_neg (by simp), if_neg (by simp), canon_bad h, canon_bad ((Ro.place_nan b).1 e)]
      exact decide_eq_false (by omega)
    · rw [if_pos (by omega)]
      exact decide_eq_false (by omega)
  have hnan2 : bad a = false → bad b = true → Rm.less a b = true := fun h h' => by
    have hp := (Ro.place_nan b).2 h'
    have hq := Ro.place_le a
    have hr : ¬ Rm.place a = 2 := fun c => by rw [(Ro.place_nan a).1 c] at h; cases h
    unfold Rm.less
    rw [hp, if_pos (by omega)]
    exact decide_eq_true (by omega)
  rcases Nat.lt_trichotomy (Rm.key a) (Rm.key b) with hk | hk | hk
  · rw [decide_eq_true hk] at e1
    rw [decide_eq_false (by omega)] at e2
    have hcd : ¬ (Rm.canon a : Int) = (Rm.canon b : Int) := fun c => by have := hi.2 (by omega); omega
    have hkl : (Rm.key a : Int) < (Rm.key b : Int) := by omega
    rw [e1] at l1 hol hnan hnan2
    rw [e2] at l2
    by_cases hbz : Rm.key b < Rm.key z
    · rw [decide_eq_true hbz] at e3
      rw [decide_eq_true (by omega)] at e4
      rw [e3] at l3
      rw [e4] at l4
      cases na : bad a
      · rw [na] at fa ga
        cases nb : bad b
        · rw [nb] at fb gb
          have hol := hol na nb
          cases za : (FloatKind.f64.format.order a 0 != some .eq)
          · cases zb : (FloatKind.f64.format.order b 0 != some .eq)
            · exact way_lt_t_ff_ff a b z _ _ _ _ w hcd hkl l1 l2 c1 c2 k1 k2 l3 l4 fa fb ga gb za zb Rg.alive
            · exact way_lt_t_ff_ft a b z _ _ _ _ w hcd hkl l1 l2 c1 c2 k1 k2 l3 l4 fa fb ga gb za zb (hol (Or.inr zb)) Rg.alive
          · exact way_lt_t_ff_tx a b z _ _ _ _ w hcd hkl l1 l2 c1 c2 k1 k2 l3 l4 fa fb ga gb za (hol (Or.inl za)) Rg.alive
        · rw [nb] at fb gb
          exact way_lt_t_fn_xx a b z _ _ _ _ w hcd hkl l1 l2 c1 c2 k1 k2 l3 l4 fa fb ga gb Rg.alive
      · cases hnan na
    · rw [decide_eq_false hbz] at e3
      rw [e3] at l3
      cases na : bad a
      · rw [na] at fa ga
        cases nb : bad b
        · rw [nb] at fb gb
          have hol := hol na nb
          cases za : (FloatKind.f64.format.order a 0 != some .eq)
          · cases zb : (FloatKind.f64.format.order b 0 != some .eq)
            · exact way_lt_f_ff_ff a b z _ _ _ _ w hcd hkl l1 l2 c1 c2 k1 k2 l3 fa fb ga gb za zb Rg.alive
            · exact way_lt_f_ff_ft a b z _ _ _ _ w hcd hkl l1 l2 c1 c2 k1 k2 l3 fa fb ga gb za zb (hol (Or.inr zb)) Rg.alive
          · exact way_lt_f_ff_tx a b z _ _ _ _ w hcd hkl l1 l2 c1 c2 k1 k2 l3 fa fb ga gb za (hol (Or.inl za)) Rg.alive
        · rw [nb] at fb gb
          exact way_lt_f_fn_xx a b z _ _ _ _ w hcd hkl l1 l2 c1 c2 k1 k2 l3 fa fb ga gb Rg.alive
      · cases hnan na
  · rw [decide_eq_false (by omega)] at e1
    rw [decide_eq_false (by omega)] at e2
    have hce := hi.1 hk
    rw [← hce] at c2
    rw [← hk] at k2
    rw [e1] at l1 hol hnan hnan2
    rw [e2] at l2
    cases na : bad a
    · rw [na] at fa ga
      cases nb : bad b
      · rw [nb] at fb gb
        have hol := hol na nb
        cases za : (FloatKind.f64.format.order a 0 != some .eq)
        · cases zb : (FloatKind.f64.format.order b 0 != some .eq)
          · exact way_eq_x_ff_ff a b z _ _ w l1 l2 c1 c2 k1 k2 fa fb ga gb za zb Rg.alive
          · exact way_eq_x_ff_ft a b z _ _ w l1 l2 c1 c2 k1 k2 fa fb ga gb za zb (hol (Or.inr zb)) Rg.alive
        · exact way_eq_x_ff_tx a b z _ _ w l1 l2 c1 c2 k1 k2 fa fb ga gb za (hol (Or.inl za)) Rg.alive
      · cases hnan2 na nb
    · rw [na] at fa ga
      cases nb : bad b
      · rw [nb] at fb gb
        exact way_eq_x_nf_xx a b z _ _ w l1 l2 c1 c2 k1 k2 fa fb ga gb Rg.alive
      · rw [nb] at fb gb
        exact way_eq_x_nn_xx a b z _ _ w l1 l2 c1 c2 k1 k2 fa fb ga gb Rg.alive
  · rw [decide_eq_false (by omega)] at e1
    rw [decide_eq_true hk] at e2
    have hcd : ¬ (Rm.canon a : Int) = (Rm.canon b : Int) := fun c => by have := hi.2 (by omega); omega
    have hkl : ¬ (Rm.key a : Int) < (Rm.key b : Int) := by omega
    have hcd2 : ((Rm.canon a : Int) == (Rm.canon b : Int)) = false := beq_eq_false_iff_ne.2 hcd
    have hkl2 : decide (Rm.key a < Rm.key b) = false := decide_eq_false (by omega)
    rw [e1] at l1 hol hnan hnan2
    rw [e2] at l2
    cases na : bad a
    · rw [na] at fa ga
      cases nb : bad b
      · rw [nb] at fb gb
        have hol := hol na nb
        cases za : (FloatKind.f64.format.order a 0 != some .eq)
        · cases zb : (FloatKind.f64.format.order b 0 != some .eq)
          · exact way_gt_x_ff_ff a b z _ _ _ _ w hcd hkl hcd2 hkl2 l1 l2 c1 c2 k1 k2 fa fb ga gb za zb Rg.alive
          · exact way_gt_x_ff_ft a b z _ _ _ _ w hcd hkl hcd2 hkl2 l1 l2 c1 c2 k1 k2 fa fb ga gb za zb (hol (Or.inr zb)) Rg.alive
        · exact way_gt_x_ff_tx a b z _ _ _ _ w hcd hkl hcd2 hkl2 l1 l2 c1 c2 k1 k2 fa fb ga gb za (hol (Or.inl za)) Rg.alive
      · cases hnan2 na nb
    · rw [na] at fa ga
      cases nb : bad b
      · rw [nb] at fb gb
        exact way_gt_x_nf_xx a b z _ _ _ _ w hcd hkl hcd2 hkl2 l1 l2 c1 c2 k1 k2 fa fb ga gb Rg.alive
      · rw [nb] at fb gb
        exact way_gt_x_nn_xx a b z _ _ _ _ w hcd hkl hcd2 hkl2 l1 l2 c1 c2 k1 k2 fa fb ga gb Rg.alive
theorem walk (a b z : Int) (ha : (Lit.int .u64 a).wf = true) (hb : (Lit.int .u64 b).wf = true) (hk : (Lit.int .u64 z).wf = true) (w : World) :
    Calls Try.prog 4 #[.int .u64 a, .int .u64 b, .int .u64 z] w fun e w' => e = .returned (.bool true) ∧ Below w.heap.size w w' := by
  obtain ⟨a0, a1⟩ := wf_u64 ha
  obtain ⟨b0, b1⟩ := wf_u64 hb
  obtain ⟨k0, k1⟩ := wf_u64 hk
  obtain ⟨x, rfl⟩ := Int.eq_ofNat_of_zero_le a0
  obtain ⟨y, rfl⟩ := Int.eq_ofNat_of_zero_le b0
  obtain ⟨z, rfl⟩ := Int.eq_ofNat_of_zero_le k0
  exact walk_nat x y z (by omega) (by omega) (by omega) w
/- The row: from the walk to the given statement. -/
theorem own : ownKnob Try.prog.godebug = none := by kernel_rfl
set_option maxRecDepth 100000 in
theorem lifted (os : Os) (started : os.Started) (H : Type) (enc : TypeId × Value → H) :
    ReturnsInHanded {} Try.checked os 4 .any (Rows.realOrderSpec.pre6 enc Try.prog Try.f4 Rows.realOrderRow.domain false) (Rows.realOrderSpec.post enc Try.prog Try.f4 false true false false) := by
  refine returnsInHanded_of_change (C := Try.checked) own started (by kernel_rfl) Try.func4
    (ChangeSpec.witness6 (enc := enc) (C := Try.checked) false ⟨#[], #[.int .u64 0, .int .u64 0, .int .u64 0], []⟩ 8 (by kernel_rfl) (by kernel_rfl) (by kernel_rfl) (by kernel_rfl)) ?_
  intro W base args ds gs before hval0 hW hcnd _
  have hval : ∀ (j : Nat) t v, Try.f4.params[j]? = some t → args[j]? = some v → Value.okWide Try.prog W .any base t v := hval0
  have hW' := hW
  obtain ⟨p, q, hA0, hV, rfl, hfz, hnd⟩ := hW
  have hA : DataW.TrodAll enc Try.prog W 0 (fun _ => true) true Try.f4.params.toList args.toList ds p := hA0
  rw [Try.params4] at hA hval
  obtain ⟨v0, vs0, d0, ds0, p0, q0, hargs, rfl, rfl, h0, r0⟩ := trodAll_cons hA
  obtain ⟨v1, vs1, d1, ds1, p1, q1, rfl, rfl, rfl, h1, r1⟩ := trodAll_cons r0
  obtain ⟨v2, vs2, d2, ds2, p2, q2, rfl, rfl, rfl, h2, r2⟩ := trodAll_cons r1
  obtain ⟨rfl, rfl, rfl⟩ := trodAll_nil r2
  obtain rfl : args = #[v0, v1, v2] := by cases args; simp_all
  obtain ⟨rfl, rfl⟩ := trodVars_none hV
  obtain ⟨a0, rfl, rfl, rfl, w0⟩ := open_int Try.underlying22 (hval 0 22 v0 rfl rfl) h0
  obtain ⟨a1, rfl, rfl, rfl, w1⟩ := open_int Try.underlying22 (hval 1 22 v1 rfl rfl) h1
  obtain ⟨a2, rfl, rfl, rfl, w2⟩ := open_int Try.underlying22 (hval 2 22 v2 rfl rfl) h2
  clear hA0 hval0
  simp only [List.append_nil] at hW'
  refine (walk a0 a1 a2 w0 w1 w2 W).mono fun e W' ⟨he, hg⟩ => ?_
  subst he
  exact ⟨_, rfl, _, _, _, [], _, [], hW', trodAll_mk1 (shut_bool Try.underlying4 _), (trodAll_cons_mk (shut_int Try.underlying22 w0) (trodAll_cons_mk (shut_int Try.underlying22 w1) (trodAll_cons_mk (shut_int Try.underlying22 w2) trodAll_mk0))), rfl, hg.frame _, fun h => by cases h⟩
theorem over : Rows.realOrderRow.holds Try.pinned (OpenSpec.ofChange Rows.realOrderSpec) :=
  OpenClaim.holds_of_wide 4 Try.f4 rfl rfl rfl rfl rfl rfl rfl ⟨rfl, rfl, rfl, rfl, rfl⟩ rfl rfl rfl rfl rfl (by kernel_rfl) Try.func4 (by kernel_rfl)
    (of_decide_eq_true (by kernel_rfl)) (by unfold Func.isWrapper; first | (rw [if_pos (by decide +kernel)]; kernel_rfl) | (rw [if_neg (by decide +kernel)]; exact ⟨rfl, rfl⟩))
    (fun os started H enc _ => lifted os started H enc)
/-- The given statement. -/
theorem proved : Rows.RealOrderSaid := over
end Go.Proofs.Ythoenmnbnigkaaa.realOrder
