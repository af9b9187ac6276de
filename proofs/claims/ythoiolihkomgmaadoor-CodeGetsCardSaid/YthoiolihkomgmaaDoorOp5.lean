/- The document's opens: do some bytes begin a letter? (written by genop5.py) -/
import Derived.Test.YthoiolihkomgmaaDoorCg5
import Derived.Test.YthoiolihkomgmaaDoorRs5
import Derived.LoopN
namespace Go.Proofs.YthoiolihkomgmaaDoor.Op5
open Go Go.RowKit Go.Proofs Go.Proofs.YthoiolihkomgmaaDoor.Cm Go.Proofs.YthoiolihkomgmaaDoor.Cu5 Go.Proofs.YthoiolihkomgmaaDoor.Cg5
/-- The first three bytes of a text. -/
structure At3 (S : ByteArray) (n : Nat) (x0 x1 x2 : UInt8) : Prop where
  size : S.size = n
  b0 : ∀ h : 0 < S.size, S[0]'h = x0
  b1 : ∀ h : 1 < S.size, S[1]'h = x1
  b2 : ∀ h : 2 < S.size, S[2]'h = x2
def Says (w : World) (r : Bool) (e : Ending) (w' : World) : Prop := e = .returned (.bool r) ∧ w = w'
set_option maxRecDepth 40000 in
theorem c2_m {S : ByteArray} {n : Nat} {x0 x1 x2 : UInt8} (most : Nat) (w : World) (h : At3 S n x0 x1 x2) (hc : 194 ≤ x0.toNat ∧ x0.toNat ≤ 223) (hn0 : 0 < n) (hm : (most : Int) < 2) : Calls Tryd.prog 56 #[.string S, .int .i64 (most : Int)] w (Says w false) := by
  have hn := h.size
  have hp : 0 < S.size := by omega
  have hx0 := h.b0 hp
  have f0 : decide ((194 : Int) ≤ (x0.toNat : Int)) = true := decide_eq_true (by omega)
  have f1 : decide ((224 : Int) ≤ (x0.toNat : Int)) = false := decide_eq_false (by omega)
  have f2 : decide ((240 : Int) ≤ (x0.toNat : Int)) = false := decide_eq_false (by omega)
  have f3 : decide ((x0.toNat : Int) ≤ (223 : Int)) = true := decide_eq_true (by omega)
  have f4 : decide ((x0.toNat : Int) ≤ (239 : Int)) = true := decide_eq_true (by omega)
  have f5 : decide ((x0.toNat : Int) ≤ (244 : Int)) = true := decide_eq_true (by omega)
  have f6 : ((x0.toNat : Int) == 224) = false := by simp; omega
  have f7 : ((x0.toNat : Int) == 237) = false := by simp; omega
  have f8 : ((x0.toNat : Int) == 240) = false := by simp; omega
  have f9 : ((x0.toNat : Int) == 244) = false := by simp; omega
  clear hc
  clear h
  go_enter Tryd.func56, Tryd.ntmps56
  go_wp2
  go_ret
  exact ⟨rfl, rfl⟩
set_option maxRecDepth 40000 in
theorem c2_l {S : ByteArray} {n : Nat} {x0 x1 x2 : UInt8} (most : Nat) (w : World) (h : At3 S n x0 x1 x2) (hc : 194 ≤ x0.toNat ∧ x0.toNat ≤ 223) (hm : ¬ (most : Int) < 2) (hl : 2 ≤ n) : Calls Tryd.prog 56 #[.string S, .int .i64 (most : Int)] w (Says w false) := by
  have hn := h.size
  have hp : 0 < S.size := by omega
  have hx0 := h.b0 hp
  have f0 : decide ((194 : Int) ≤ (x0.toNat : Int)) = true := decide_eq_true (by omega)
  have f1 : decide ((224 : Int) ≤ (x0.toNat : Int)) = false := decide_eq_false (by omega)
  have f2 : decide ((240 : Int) ≤ (x0.toNat : Int)) = false := decide_eq_false (by omega)
  have f3 : decide ((x0.toNat : Int) ≤ (223 : Int)) = true := decide_eq_true (by omega)
  have f4 : decide ((x0.toNat : Int) ≤ (239 : Int)) = true := decide_eq_true (by omega)
  have f5 : decide ((x0.toNat : Int) ≤ (244 : Int)) = true := decide_eq_true (by omega)
  have f6 : ((x0.toNat : Int) == 224) = false := by simp; omega
  have f7 : ((x0.toNat : Int) == 237) = false := by simp; omega
  have f8 : ((x0.toNat : Int) == 240) = false := by simp; omega
  have f9 : ((x0.toNat : Int) == 244) = false := by simp; omega
  clear hc
  clear h
  go_enter Tryd.func56, Tryd.ntmps56
  go_wp2
  go_ret
  exact ⟨rfl, rfl⟩
set_option maxRecDepth 40000 in
theorem c2_1 {S : ByteArray} {x0 x1 x2 : UInt8} (most : Nat) (w : World) (h : At3 S 1 x0 x1 x2) (hc : 194 ≤ x0.toNat ∧ x0.toNat ≤ 223) (hm : ¬ (most : Int) < 2) : Calls Tryd.prog 56 #[.string S, .int .i64 (most : Int)] w (Says w true) := by
  have hn := h.size
  have hp : 0 < S.size := by omega
  have hx0 := h.b0 hp
  have f0 : decide ((194 : Int) ≤ (x0.toNat : Int)) = true := decide_eq_true (by omega)
  have f1 : decide ((224 : Int) ≤ (x0.toNat : Int)) = false := decide_eq_false (by omega)
  have f2 : decide ((240 : Int) ≤ (x0.toNat : Int)) = false := decide_eq_false (by omega)
  have f3 : decide ((x0.toNat : Int) ≤ (223 : Int)) = true := decide_eq_true (by omega)
  have f4 : decide ((x0.toNat : Int) ≤ (239 : Int)) = true := decide_eq_true (by omega)
  have f5 : decide ((x0.toNat : Int) ≤ (244 : Int)) = true := decide_eq_true (by omega)
  have f6 : ((x0.toNat : Int) == 224) = false := by simp; omega
  have f7 : ((x0.toNat : Int) == 237) = false := by simp; omega
  have f8 : ((x0.toNat : Int) == 240) = false := by simp; omega
  have f9 : ((x0.toNat : Int) == 244) = false := by simp; omega
  clear hc
  clear h
  go_enter Tryd.func56, Tryd.ntmps56
  go_wp2
  refine wp_loop_rounds 1 ?_
  rw [rounds_succ]
  go_wp2
  go_ret
  exact ⟨rfl, rfl⟩
set_option maxRecDepth 40000 in
theorem c19_m {S : ByteArray} {n : Nat} {x0 x1 x2 : UInt8} (most : Nat) (w : World) (h : At3 S n x0 x1 x2) (hc : x0 = 224) (hn0 : 0 < n) (hm : (most : Int) < 3) : Calls Tryd.prog 56 #[.string S, .int .i64 (most : Int)] w (Says w false) := by
  subst hc
  have hn := h.size
  have hp : 0 < S.size := by omega
  have hx0 := h.b0 hp
  clear h
  go_enter Tryd.func56, Tryd.ntmps56
  go_wp2
  go_ret
  exact ⟨rfl, rfl⟩
set_option maxRecDepth 40000 in
theorem c19_l {S : ByteArray} {n : Nat} {x0 x1 x2 : UInt8} (most : Nat) (w : World) (h : At3 S n x0 x1 x2) (hc : x0 = 224) (hm : ¬ (most : Int) < 3) (hl : 3 ≤ n) : Calls Tryd.prog 56 #[.string S, .int .i64 (most : Int)] w (Says w false) := by
  subst hc
  have hn := h.size
  have hp : 0 < S.size := by omega
  have hx0 := h.b0 hp
  clear h
  go_enter Tryd.func56, Tryd.ntmps56
  go_wp2
  go_ret
  exact ⟨rfl, rfl⟩
set_option maxRecDepth 40000 in
theorem c19_1 {S : ByteArray} {x0 x1 x2 : UInt8} (most : Nat) (w : World) (h : At3 S 1 x0 x1 x2) (hc : x0 = 224) (hm : ¬ (most : Int) < 3) : Calls Tryd.prog 56 #[.string S, .int .i64 (most : Int)] w (Says w true) := by
  subst hc
  have hn := h.size
  have hp : 0 < S.size := by omega
  have hx0 := h.b0 hp
  clear h
  go_enter Tryd.func56, Tryd.ntmps56
  go_wp2
  refine wp_loop_rounds 1 ?_
  rw [rounds_succ]
  go_wp2
  go_ret
  exact ⟨rfl, rfl⟩
set_option maxRecDepth 40000 in
theorem c19_2a {S : ByteArray} {x0 x1 x2 : UInt8} (most : Nat) (w : World) (h : At3 S 2 x0 x1 x2) (hc : x0 = 224) (hm : ¬ (most : Int) < 3) (c1 : decide ((x1.toNat : Int) < 160) = true) : Calls Tryd.prog 56 #[.string S, .int .i64 (most : Int)] w (Says w false) := by
  subst hc
  have hn := h.size
  have hp : 0 < S.size := by omega
  have hx0 := h.b0 hp
  have hp1 : 1 < S.size := by omega
  have hx1 := h.b1 hp1
  clear h
  go_enter Tryd.func56, Tryd.ntmps56
  go_wp2
  refine wp_loop_rounds 1 ?_
  rw [rounds_succ]
  go_wp2
  go_ret
  exact ⟨rfl, rfl⟩
set_option maxRecDepth 40000 in
theorem c19_2b {S : ByteArray} {x0 x1 x2 : UInt8} (most : Nat) (w : World) (h : At3 S 2 x0 x1 x2) (hc : x0 = 224) (hm : ¬ (most : Int) < 3) (c1 : decide ((x1.toNat : Int) < 160) = false) (c2 : decide ((191 : Int) < (x1.toNat : Int)) = true) : Calls Tryd.prog 56 #[.string S, .int .i64 (most : Int)] w (Says w false) := by
  subst hc
  have hn := h.size
  have hp : 0 < S.size := by omega
  have hx0 := h.b0 hp
  have hp1 : 1 < S.size := by omega
  have hx1 := h.b1 hp1
  clear h
  go_enter Tryd.func56, Tryd.ntmps56
  go_wp2
  refine wp_loop_rounds 1 ?_
  rw [rounds_succ]
  go_wp2
  go_ret
  exact ⟨rfl, rfl⟩
set_option maxRecDepth 40000 in
theorem c19_2c {S : ByteArray} {x0 x1 x2 : UInt8} (most : Nat) (w : World) (h : At3 S 2 x0 x1 x2) (hc : x0 = 224) (hm : ¬ (most : Int) < 3) (c1 : decide ((x1.toNat : Int) < 160) = false) (c2 : decide ((191 : Int) < (x1.toNat : Int)) = false) : Calls Tryd.prog 56 #[.string S, .int .i64 (most : Int)] w (Says w true) := by
  subst hc
  have hn := h.size
  have hp : 0 < S.size := by omega
  have hx0 := h.b0 hp
  have hp1 : 1 < S.size := by omega
  have hx1 := h.b1 hp1
  clear h
  go_enter Tryd.func56, Tryd.ntmps56
  go_wp2
  refine wp_loop_rounds 2 ?_
  rw [rounds_succ]
  go_wp2
  rw [rounds_succ]
  go_wp2
  go_ret
  exact ⟨rfl, rfl⟩
set_option maxRecDepth 40000 in
theorem c3a_m {S : ByteArray} {n : Nat} {x0 x1 x2 : UInt8} (most : Nat) (w : World) (h : At3 S n x0 x1 x2) (hc : 225 ≤ x0.toNat ∧ x0.toNat ≤ 236) (hn0 : 0 < n) (hm : (most : Int) < 3) : Calls Tryd.prog 56 #[.string S, .int .i64 (most : Int)] w (Says w false) := by
  have hn := h.size
  have hp : 0 < S.size := by omega
  have hx0 := h.b0 hp
  have f0 : decide ((194 : Int) ≤ (x0.toNat : Int)) = true := decide_eq_true (by omega)
  have f1 : decide ((224 : Int) ≤ (x0.toNat : Int)) = true := decide_eq_true (by omega)
  have f2 : decide ((240 : Int) ≤ (x0.toNat : Int)) = false := decide_eq_false (by omega)
  have f3 : decide ((x0.toNat : Int) ≤ (223 : Int)) = false := decide_eq_false (by omega)
  have f4 : decide ((x0.toNat : Int) ≤ (239 : Int)) = true := decide_eq_true (by omega)
  have f5 : decide ((x0.toNat : Int) ≤ (244 : Int)) = true := decide_eq_true (by omega)
  have f6 : ((x0.toNat : Int) == 224) = false := by simp; omega
  have f7 : ((x0.toNat : Int) == 237) = false := by simp; omega
  have f8 : ((x0.toNat : Int) == 240) = false := by simp; omega
  have f9 : ((x0.toNat : Int) == 244) = false := by simp; omega
  clear hc
  clear h
  go_enter Tryd.func56, Tryd.ntmps56
  go_wp2
  go_ret
  exact ⟨rfl, rfl⟩
set_option maxRecDepth 40000 in
theorem c3a_l {S : ByteArray} {n : Nat} {x0 x1 x2 : UInt8} (most : Nat) (w : World) (h : At3 S n x0 x1 x2) (hc : 225 ≤ x0.toNat ∧ x0.toNat ≤ 236) (hm : ¬ (most : Int) < 3) (hl : 3 ≤ n) : Calls Tryd.prog 56 #[.string S, .int .i64 (most : Int)] w (Says w false) := by
  have hn := h.size
  have hp : 0 < S.size := by omega
  have hx0 := h.b0 hp
  have f0 : decide ((194 : Int) ≤ (x0.toNat : Int)) = true := decide_eq_true (by omega)
  have f1 : decide ((224 : Int) ≤ (x0.toNat : Int)) = true := decide_eq_true (by omega)
  have f2 : decide ((240 : Int) ≤ (x0.toNat : Int)) = false := decide_eq_false (by omega)
  have f3 : decide ((x0.toNat : Int) ≤ (223 : Int)) = false := decide_eq_false (by omega)
  have f4 : decide ((x0.toNat : Int) ≤ (239 : Int)) = true := decide_eq_true (by omega)
  have f5 : decide ((x0.toNat : Int) ≤ (244 : Int)) = true := decide_eq_true (by omega)
  have f6 : ((x0.toNat : Int) == 224) = false := by simp; omega
  have f7 : ((x0.toNat : Int) == 237) = false := by simp; omega
  have f8 : ((x0.toNat : Int) == 240) = false := by simp; omega
  have f9 : ((x0.toNat : Int) == 244) = false := by simp; omega
  clear hc
  clear h
  go_enter Tryd.func56, Tryd.ntmps56
  go_wp2
  go_ret
  exact ⟨rfl, rfl⟩
set_option maxRecDepth 40000 in
theorem c3a_1 {S : ByteArray} {x0 x1 x2 : UInt8} (most : Nat) (w : World) (h : At3 S 1 x0 x1 x2) (hc : 225 ≤ x0.toNat ∧ x0.toNat ≤ 236) (hm : ¬ (most : Int) < 3) : Calls Tryd.prog 56 #[.string S, .int .i64 (most : Int)] w (Says w true) := by
  have hn := h.size
  have hp : 0 < S.size := by omega
  have hx0 := h.b0 hp
  have f0 : decide ((194 : Int) ≤ (x0.toNat : Int)) = true := decide_eq_true (by omega)
  have f1 : decide ((224 : Int) ≤ (x0.toNat : Int)) = true := decide_eq_true (by omega)
  have f2 : decide ((240 : Int) ≤ (x0.toNat : Int)) = false := decide_eq_false (by omega)
  have f3 : decide ((x0.toNat : Int) ≤ (223 : Int)) = false := decide_eq_false (by omega)
  have f4 : decide ((x0.toNat : Int) ≤ (239 : Int)) = true := decide_eq_true (by omega)
  have f5 : decide ((x0.toNat : Int) ≤ (244 : Int)) = true := decide_eq_true (by omega)
  have f6 : ((x0.toNat : Int) == 224) = false := by simp; omega
  have f7 : ((x0.toNat : Int) == 237) = false := by simp; omega
  have f8 : ((x0.toNat : Int) == 240) = false := by simp; omega
  have f9 : ((x0.toNat : Int) == 244) = false := by simp; omega
  clear hc
  clear h
  go_enter Tryd.func56, Tryd.ntmps56
  go_wp2
  refine wp_loop_rounds 1 ?_
  rw [rounds_succ]
  go_wp2
  go_ret
  exact ⟨rfl, rfl⟩
set_option maxRecDepth 40000 in
theorem c3a_2a {S : ByteArray} {x0 x1 x2 : UInt8} (most : Nat) (w : World) (h : At3 S 2 x0 x1 x2) (hc : 225 ≤ x0.toNat ∧ x0.toNat ≤ 236) (hm : ¬ (most : Int) < 3) (c1 : decide ((x1.toNat : Int) < 128) = true) : Calls Tryd.prog 56 #[.string S, .int .i64 (most : Int)] w (Says w false) := by
  have hn := h.size
  have hp : 0 < S.size := by omega
  have hx0 := h.b0 hp
  have hp1 : 1 < S.size := by omega
  have hx1 := h.b1 hp1
  have f0 : decide ((194 : Int) ≤ (x0.toNat : Int)) = true := decide_eq_true (by omega)
  have f1 : decide ((224 : Int) ≤ (x0.toNat : Int)) = true := decide_eq_true (by omega)
  have f2 : decide ((240 : Int) ≤ (x0.toNat : Int)) = false := decide_eq_false (by omega)
  have f3 : decide ((x0.toNat : Int) ≤ (223 : Int)) = false := decide_eq_false (by omega)
  have f4 : decide ((x0.toNat : Int) ≤ (239 : Int)) = true := decide_eq_true (by omega)
  have f5 : decide ((x0.toNat : Int) ≤ (244 : Int)) = true := decide_eq_true (by omega)
  have f6 : ((x0.toNat : Int) == 224) = false := by simp; omega
  have f7 : ((x0.toNat : Int) == 237) = false := by simp; omega
  have f8 : ((x0.toNat : Int) == 240) = false := by simp; omega
  have f9 : ((x0.toNat : Int) == 244) = false := by simp; omega
  clear hc
  clear h
  go_enter Tryd.func56, Tryd.ntmps56
  go_wp2
  refine wp_loop_rounds 1 ?_
  rw [rounds_succ]
  go_wp2
  go_ret
  exact ⟨rfl, rfl⟩
set_option maxRecDepth 40000 in
theorem c3a_2b {S : ByteArray} {x0 x1 x2 : UInt8} (most : Nat) (w : World) (h : At3 S 2 x0 x1 x2) (hc : 225 ≤ x0.toNat ∧ x0.toNat ≤ 236) (hm : ¬ (most : Int) < 3) (c1 : decide ((x1.toNat : Int) < 128) = false) (c2 : decide ((191 : Int) < (x1.toNat : Int)) = true) : Calls Tryd.prog 56 #[.string S, .int .i64 (most : Int)] w (Says w false) := by
  have hn := h.size
  have hp : 0 < S.size := by omega
  have hx0 := h.b0 hp
  have hp1 : 1 < S.size := by omega
  have hx1 := h.b1 hp1
  have f0 : decide ((194 : Int) ≤ (x0.toNat : Int)) = true := decide_eq_true (by omega)
  have f1 : decide ((224 : Int) ≤ (x0.toNat : Int)) = true := decide_eq_true (by omega)
  have f2 : decide ((240 : Int) ≤ (x0.toNat : Int)) = false := decide_eq_false (by omega)
  have f3 : decide ((x0.toNat : Int) ≤ (223 : Int)) = false := decide_eq_false (by omega)
  have f4 : decide ((x0.toNat : Int) ≤ (239 : Int)) = true := decide_eq_true (by omega)
  have f5 : decide ((x0.toNat : Int) ≤ (244 : Int)) = true := decide_eq_true (by omega)
  have f6 : ((x0.toNat : Int) == 224) = false := by simp; omega
  have f7 : ((x0.toNat : Int) == 237) = false := by simp; omega
  have f8 : ((x0.toNat : Int) == 240) = false := by simp; omega
  have f9 : ((x0.toNat : Int) == 244) = false := by simp; omega
  clear hc
  clear h
  go_enter Tryd.func56, Tryd.ntmps56
  go_wp2
  refine wp_loop_rounds 1 ?_
  rw [rounds_succ]
  go_wp2
  go_ret
  exact ⟨rfl, rfl⟩
set_option maxRecDepth 40000 in
theorem c3a_2c {S : ByteArray} {x0 x1 x2 : UInt8} (most : Nat) (w : World) (h : At3 S 2 x0 x1 x2) (hc : 225 ≤ x0.toNat ∧ x0.toNat ≤ 236) (hm : ¬ (most : Int) < 3) (c1 : decide ((x1.toNat : Int) < 128) = false) (c2 : decide ((191 : Int) < (x1.toNat : Int)) = false) : Calls Tryd.prog 56 #[.string S, .int .i64 (most : Int)] w (Says w true) := by
  have hn := h.size
  have hp : 0 < S.size := by omega
  have hx0 := h.b0 hp
  have hp1 : 1 < S.size := by omega
  have hx1 := h.b1 hp1
  have f0 : decide ((194 : Int) ≤ (x0.toNat : Int)) = true := decide_eq_true (by omega)
  have f1 : decide ((224 : Int) ≤ (x0.toNat : Int)) = true := decide_eq_true (by omega)
  have f2 : decide ((240 : Int) ≤ (x0.toNat : Int)) = false := decide_eq_false (by omega)
  have f3 : decide ((x0.toNat : Int) ≤ (223 : Int)) = false := decide_eq_false (by omega)
  have f4 : decide ((x0.toNat : Int) ≤ (239 : Int)) = true := decide_eq_true (by omega)
  have f5 : decide ((x0.toNat : Int) ≤ (244 : Int)) = true := decide_eq_true (by omega)
  have f6 : ((x0.toNat : Int) == 224) = false := by simp; omega
  have f7 : ((x0.toNat : Int) == 237) = false := by simp; omega
  have f8 : ((x0.toNat : Int) == 240) = false := by simp; omega
  have f9 : ((x0.toNat : Int) == 244) = false := by simp; omega
  clear hc
  clear h
  go_enter Tryd.func56, Tryd.ntmps56
  go_wp2
  refine wp_loop_rounds 2 ?_
  rw [rounds_succ]
  go_wp2
  rw [rounds_succ]
  go_wp2
  go_ret
  exact ⟨rfl, rfl⟩
set_option maxRecDepth 40000 in
theorem c35_m {S : ByteArray} {n : Nat} {x0 x1 x2 : UInt8} (most : Nat) (w : World) (h : At3 S n x0 x1 x2) (hc : x0 = 237) (hn0 : 0 < n) (hm : (most : Int) < 3) : Calls Tryd.prog 56 #[.string S, .int .i64 (most : Int)] w (Says w false) := by
  subst hc
  have hn := h.size
  have hp : 0 < S.size := by omega
  have hx0 := h.b0 hp
  clear h
  go_enter Tryd.func56, Tryd.ntmps56
  go_wp2
  go_ret
  exact ⟨rfl, rfl⟩
set_option maxRecDepth 40000 in
theorem c35_l {S : ByteArray} {n : Nat} {x0 x1 x2 : UInt8} (most : Nat) (w : World) (h : At3 S n x0 x1 x2) (hc : x0 = 237) (hm : ¬ (most : Int) < 3) (hl : 3 ≤ n) : Calls Tryd.prog 56 #[.string S, .int .i64 (most : Int)] w (Says w false) := by
  subst hc
  have hn := h.size
  have hp : 0 < S.size := by omega
  have hx0 := h.b0 hp
  clear h
  go_enter Tryd.func56, Tryd.ntmps56
  go_wp2
  go_ret
  exact ⟨rfl, rfl⟩
set_option maxRecDepth 40000 in
theorem c35_1 {S : ByteArray} {x0 x1 x2 : UInt8} (most : Nat) (w : World) (h : At3 S 1 x0 x1 x2) (hc : x0 = 237) (hm : ¬ (most : Int) < 3) : Calls Tryd.prog 56 #[.string S, .int .i64 (most : Int)] w (Says w true) := by
  subst hc
  have hn := h.size
  have hp : 0 < S.size := by omega
  have hx0 := h.b0 hp
  clear h
  go_enter Tryd.func56, Tryd.ntmps56
  go_wp2
  refine wp_loop_rounds 1 ?_
  rw [rounds_succ]
  go_wp2
  go_ret
  exact ⟨rfl, rfl⟩
set_option maxRecDepth 40000 in
theorem c35_2a {S : ByteArray} {x0 x1 x2 : UInt8} (most : Nat) (w : World) (h : At3 S 2 x0 x1 x2) (hc : x0 = 237) (hm : ¬ (most : Int) < 3) (c1 : decide ((x1.toNat : Int) < 128) = true) : Calls Tryd.prog 56 #[.string S, .int .i64 (most : Int)] w (Says w false) := by
  subst hc
  have hn := h.size
  have hp : 0 < S.size := by omega
  have hx0 := h.b0 hp
  have hp1 : 1 < S.size := by omega
  have hx1 := h.b1 hp1
  clear h
  go_enter Tryd.func56, Tryd.ntmps56
  go_wp2
  refine wp_loop_rounds 1 ?_
  rw [rounds_succ]
  go_wp2
  go_ret
  exact ⟨rfl, rfl⟩
set_option maxRecDepth 40000 in
theorem c35_2b {S : ByteArray} {x0 x1 x2 : UInt8} (most : Nat) (w : World) (h : At3 S 2 x0 x1 x2) (hc : x0 = 237) (hm : ¬ (most : Int) < 3) (c1 : decide ((x1.toNat : Int) < 128) = false) (c2 : decide ((159 : Int) < (x1.toNat : Int)) = true) : Calls Tryd.prog 56 #[.string S, .int .i64 (most : Int)] w (Says w false) := by
  subst hc
  have hn := h.size
  have hp : 0 < S.size := by omega
  have hx0 := h.b0 hp
  have hp1 : 1 < S.size := by omega
  have hx1 := h.b1 hp1
  clear h
  go_enter Tryd.func56, Tryd.ntmps56
  go_wp2
  refine wp_loop_rounds 1 ?_
  rw [rounds_succ]
  go_wp2
  go_ret
  exact ⟨rfl, rfl⟩
set_option maxRecDepth 40000 in
theorem c35_2c {S : ByteArray} {x0 x1 x2 : UInt8} (most : Nat) (w : World) (h : At3 S 2 x0 x1 x2) (hc : x0 = 237) (hm : ¬ (most : Int) < 3) (c1 : decide ((x1.toNat : Int) < 128) = false) (c2 : decide ((159 : Int) < (x1.toNat : Int)) = false) : Calls Tryd.prog 56 #[.string S, .int .i64 (most : Int)] w (Says w true) := by
  subst hc
  have hn := h.size
  have hp : 0 < S.size := by omega
  have hx0 := h.b0 hp
  have hp1 : 1 < S.size := by omega
  have hx1 := h.b1 hp1
  clear h
  go_enter Tryd.func56, Tryd.ntmps56
  go_wp2
  refine wp_loop_rounds 2 ?_
  rw [rounds_succ]
  go_wp2
  rw [rounds_succ]
  go_wp2
  go_ret
  exact ⟨rfl, rfl⟩
set_option maxRecDepth 40000 in
theorem c3b_m {S : ByteArray} {n : Nat} {x0 x1 x2 : UInt8} (most : Nat) (w : World) (h : At3 S n x0 x1 x2) (hc : 238 ≤ x0.toNat ∧ x0.toNat ≤ 239) (hn0 : 0 < n) (hm : (most : Int) < 3) : Calls Tryd.prog 56 #[.string S, .int .i64 (most : Int)] w (Says w false) := by
  have hn := h.size
  have hp : 0 < S.size := by omega
  have hx0 := h.b0 hp
  have f0 : decide ((194 : Int) ≤ (x0.toNat : Int)) = true := decide_eq_true (by omega)
  have f1 : decide ((224 : Int) ≤ (x0.toNat : Int)) = true := decide_eq_true (by omega)
  have f2 : decide ((240 : Int) ≤ (x0.toNat : Int)) = false := decide_eq_false (by omega)
  have f3 : decide ((x0.toNat : Int) ≤ (223 : Int)) = false := decide_eq_false (by omega)
  have f4 : decide ((x0.toNat : Int) ≤ (239 : Int)) = true := decide_eq_true (by omega)
  have f5 : decide ((x0.toNat : Int) ≤ (244 : Int)) = true := decide_eq_true (by omega)
  have f6 : ((x0.toNat : Int) == 224) = false := by simp; omega
  have f7 : ((x0.toNat : Int) == 237) = false := by simp; omega
  have f8 : ((x0.toNat : Int) == 240) = false := by simp; omega
  have f9 : ((x0.toNat : Int) == 244) = false := by simp; omega
  clear hc
  clear h
  go_enter Tryd.func56, Tryd.ntmps56
  go_wp2
  go_ret
  exact ⟨rfl, rfl⟩
set_option maxRecDepth 40000 in
theorem c3b_l {S : ByteArray} {n : Nat} {x0 x1 x2 : UInt8} (most : Nat) (w : World) (h : At3 S n x0 x1 x2) (hc : 238 ≤ x0.toNat ∧ x0.toNat ≤ 239) (hm : ¬ (most : Int) < 3) (hl : 3 ≤ n) : Calls Tryd.prog 56 #[.string S, .int .i64 (most : Int)] w (Says w false) := by
  have hn := h.size
  have hp : 0 < S.size := by omega
  have hx0 := h.b0 hp
  have f0 : decide ((194 : Int) ≤ (x0.toNat : Int)) = true := decide_eq_true (by omega)
  have f1 : decide ((224 : Int) ≤ (x0.toNat : Int)) = true := decide_eq_true (by omega)
  have f2 : decide ((240 : Int) ≤ (x0.toNat : Int)) = false := decide_eq_false (by omega)
  have f3 : decide ((x0.toNat : Int) ≤ (223 : Int)) = false := decide_eq_false (by omega)
  have f4 : decide ((x0.toNat : Int) ≤ (239 : Int)) = true := decide_eq_true (by omega)
  have f5 : decide ((x0.toNat : Int) ≤ (244 : Int)) = true := decide_eq_true (by omega)
  have f6 : ((x0.toNat : Int) == 224) = false := by simp; omega
  have f7 : ((x0.toNat : Int) == 237) = false := by simp; omega
  have f8 : ((x0.toNat : Int) == 240) = false := by simp; omega
  have f9 : ((x0.toNat : Int) == 244) = false := by simp; omega
  clear hc
  clear h
  go_enter Tryd.func56, Tryd.ntmps56
  go_wp2
  go_ret
  exact ⟨rfl, rfl⟩
set_option maxRecDepth 40000 in
theorem c3b_1 {S : ByteArray} {x0 x1 x2 : UInt8} (most : Nat) (w : World) (h : At3 S 1 x0 x1 x2) (hc : 238 ≤ x0.toNat ∧ x0.toNat ≤ 239) (hm : ¬ (most : Int) < 3) : Calls Tryd.prog 56 #[.string S, .int .i64 (most : Int)] w (Says w true) := by
  have hn := h.size
  have hp : 0 < S.size := by omega
  have hx0 := h.b0 hp
  have f0 : decide ((194 : Int) ≤ (x0.toNat : Int)) = true := decide_eq_true (by omega)
  have f1 : decide ((224 : Int) ≤ (x0.toNat : Int)) = true := decide_eq_true (by omega)
  have f2 : decide ((240 : Int) ≤ (x0.toNat : Int)) = false := decide_eq_false (by omega)
  have f3 : decide ((x0.toNat : Int) ≤ (223 : Int)) = false := decide_eq_false (by omega)
  have f4 : decide ((x0.toNat : Int) ≤ (239 : Int)) = true := decide_eq_true (by omega)
  have f5 : decide ((x0.toNat : Int) ≤ (244 : Int)) = true := decide_eq_true (by omega)
  have f6 : ((x0.toNat : Int) == 224) = false := by simp; omega
  have f7 : ((x0.toNat : Int) == 237) = false := by simp; omega
  have f8 : ((x0.toNat : Int) == 240) = false := by simp; omega
  have f9 : ((x0.toNat : Int) == 244) = false := by simp; omega
  clear hc
  clear h
  go_enter Tryd.func56, Tryd.ntmps56
  go_wp2
  refine wp_loop_rounds 1 ?_
  rw [rounds_succ]
  go_wp2
  go_ret
  exact ⟨rfl, rfl⟩
set_option maxRecDepth 40000 in
theorem c3b_2a {S : ByteArray} {x0 x1 x2 : UInt8} (most : Nat) (w : World) (h : At3 S 2 x0 x1 x2) (hc : 238 ≤ x0.toNat ∧ x0.toNat ≤ 239) (hm : ¬ (most : Int) < 3) (c1 : decide ((x1.toNat : Int) < 128) = true) : Calls Tryd.prog 56 #[.string S, .int .i64 (most : Int)] w (Says w false) := by
  have hn := h.size
  have hp : 0 < S.size := by omega
  have hx0 := h.b0 hp
  have hp1 : 1 < S.size := by omega
  have hx1 := h.b1 hp1
  have f0 : decide ((194 : Int) ≤ (x0.toNat : Int)) = true := decide_eq_true (by omega)
  have f1 : decide ((224 : Int) ≤ (x0.toNat : Int)) = true := decide_eq_true (by omega)
  have f2 : decide ((240 : Int) ≤ (x0.toNat : Int)) = false := decide_eq_false (by omega)
  have f3 : decide ((x0.toNat : Int) ≤ (223 : Int)) = false := decide_eq_false (by omega)
  have f4 : decide ((x0.toNat : Int) ≤ (239 : Int)) = true := decide_eq_true (by omega)
  have f5 : decide ((x0.toNat : Int) ≤ (244 : Int)) = true := decide_eq_true (by omega)
  have f6 : ((x0.toNat : Int) == 224) = false := by simp; omega
  have f7 : ((x0.toNat : Int) == 237) = false := by simp; omega
  have f8 : ((x0.toNat : Int) == 240) = false := by simp; omega
  have f9 : ((x0.toNat : Int) == 244) = false := by simp; omega
  clear hc
  clear h
  go_enter Tryd.func56, Tryd.ntmps56
  go_wp2
  refine wp_loop_rounds 1 ?_
  rw [rounds_succ]
  go_wp2
  go_ret
  exact ⟨rfl, rfl⟩
set_option maxRecDepth 40000 in
theorem c3b_2b {S : ByteArray} {x0 x1 x2 : UInt8} (most : Nat) (w : World) (h : At3 S 2 x0 x1 x2) (hc : 238 ≤ x0.toNat ∧ x0.toNat ≤ 239) (hm : ¬ (most : Int) < 3) (c1 : decide ((x1.toNat : Int) < 128) = false) (c2 : decide ((191 : Int) < (x1.toNat : Int)) = true) : Calls Tryd.prog 56 #[.string S, .int .i64 (most : Int)] w (Says w false) := by
  have hn := h.size
  have hp : 0 < S.size := by omega
  have hx0 := h.b0 hp
  have hp1 : 1 < S.size := by omega
  have hx1 := h.b1 hp1
  have f0 : decide ((194 : Int) ≤ (x0.toNat : Int)) = true := decide_eq_true (by omega)
  have f1 : decide ((224 : Int) ≤ (x0.toNat : Int)) = true := decide_eq_true (by omega)
  have f2 : decide ((240 : Int) ≤ (x0.toNat : Int)) = false := decide_eq_false (by omega)
  have f3 : decide ((x0.toNat : Int) ≤ (223 : Int)) = false := decide_eq_false (by omega)
  have f4 : decide ((x0.toNat : Int) ≤ (239 : Int)) = true := decide_eq_true (by omega)
  have f5 : decide ((x0.toNat : Int) ≤ (244 : Int)) = true := decide_eq_true (by omega)
  have f6 : ((x0.toNat : Int) == 224) = false := by simp; omega
  have f7 : ((x0.toNat : Int) == 237) = false := by simp; omega
  have f8 : ((x0.toNat : Int) == 240) = false := by simp; omega
  have f9 : ((x0.toNat : Int) == 244) = false := by simp; omega
  clear hc
  clear h
  go_enter Tryd.func56, Tryd.ntmps56
  go_wp2
  refine wp_loop_rounds 1 ?_
  rw [rounds_succ]
  go_wp2
  go_ret
  exact ⟨rfl, rfl⟩
set_option maxRecDepth 40000 in
theorem c3b_2c {S : ByteArray} {x0 x1 x2 : UInt8} (most : Nat) (w : World) (h : At3 S 2 x0 x1 x2) (hc : 238 ≤ x0.toNat ∧ x0.toNat ≤ 239) (hm : ¬ (most : Int) < 3) (c1 : decide ((x1.toNat : Int) < 128) = false) (c2 : decide ((191 : Int) < (x1.toNat : Int)) = false) : Calls Tryd.prog 56 #[.string S, .int .i64 (most : Int)] w (Says w true) := by
  have hn := h.size
  have hp : 0 < S.size := by omega
  have hx0 := h.b0 hp
  have hp1 : 1 < S.size := by omega
  have hx1 := h.b1 hp1
  have f0 : decide ((194 : Int) ≤ (x0.toNat : Int)) = true := decide_eq_true (by omega)
  have f1 : decide ((224 : Int) ≤ (x0.toNat : Int)) = true := decide_eq_true (by omega)
  have f2 : decide ((240 : Int) ≤ (x0.toNat : Int)) = false := decide_eq_false (by omega)
  have f3 : decide ((x0.toNat : Int) ≤ (223 : Int)) = false := decide_eq_false (by omega)
  have f4 : decide ((x0.toNat : Int) ≤ (239 : Int)) = true := decide_eq_true (by omega)
  have f5 : decide ((x0.toNat : Int) ≤ (244 : Int)) = true := decide_eq_true (by omega)
  have f6 : ((x0.toNat : Int) == 224) = false := by simp; omega
  have f7 : ((x0.toNat : Int) == 237) = false := by simp; omega
  have f8 : ((x0.toNat : Int) == 240) = false := by simp; omega
  have f9 : ((x0.toNat : Int) == 244) = false := by simp; omega
  clear hc
  clear h
  go_enter Tryd.func56, Tryd.ntmps56
  go_wp2
  refine wp_loop_rounds 2 ?_
  rw [rounds_succ]
  go_wp2
  rw [rounds_succ]
  go_wp2
  go_ret
  exact ⟨rfl, rfl⟩
set_option maxRecDepth 40000 in
theorem cA {S : ByteArray} {n : Nat} {x0 x1 x2 : UInt8} (most : Nat) (w : World) (h : At3 S n x0 x1 x2) (hc : 0 ≤ x0.toNat ∧ x0.toNat ≤ 193) (hn0 : 0 < n) : Calls Tryd.prog 56 #[.string S, .int .i64 (most : Int)] w (Says w false) := by
  have hn := h.size
  have hp : 0 < S.size := by omega
  have hx0 := h.b0 hp
  have f0 : decide ((194 : Int) ≤ (x0.toNat : Int)) = false := decide_eq_false (by omega)
  have f1 : decide ((224 : Int) ≤ (x0.toNat : Int)) = false := decide_eq_false (by omega)
  have f2 : decide ((240 : Int) ≤ (x0.toNat : Int)) = false := decide_eq_false (by omega)
  have f3 : decide ((x0.toNat : Int) ≤ (223 : Int)) = true := decide_eq_true (by omega)
  have f4 : decide ((x0.toNat : Int) ≤ (239 : Int)) = true := decide_eq_true (by omega)
  have f5 : decide ((x0.toNat : Int) ≤ (244 : Int)) = true := decide_eq_true (by omega)
  have f6 : ((x0.toNat : Int) == 224) = false := by simp; omega
  have f7 : ((x0.toNat : Int) == 237) = false := by simp; omega
  have f8 : ((x0.toNat : Int) == 240) = false := by simp; omega
  have f9 : ((x0.toNat : Int) == 244) = false := by simp; omega
  clear hc
  clear h
  go_enter Tryd.func56, Tryd.ntmps56
  go_wp2
  go_ret
  exact ⟨rfl, rfl⟩
set_option maxRecDepth 40000 in
theorem cB {S : ByteArray} {n : Nat} {x0 x1 x2 : UInt8} (most : Nat) (w : World) (h : At3 S n x0 x1 x2) (hc : 245 ≤ x0.toNat ∧ x0.toNat ≤ 255) (hn0 : 0 < n) : Calls Tryd.prog 56 #[.string S, .int .i64 (most : Int)] w (Says w false) := by
  have hn := h.size
  have hp : 0 < S.size := by omega
  have hx0 := h.b0 hp
  have f0 : decide ((194 : Int) ≤ (x0.toNat : Int)) = true := decide_eq_true (by omega)
  have f1 : decide ((224 : Int) ≤ (x0.toNat : Int)) = true := decide_eq_true (by omega)
  have f2 : decide ((240 : Int) ≤ (x0.toNat : Int)) = true := decide_eq_true (by omega)
  have f3 : decide ((x0.toNat : Int) ≤ (223 : Int)) = false := decide_eq_false (by omega)
  have f4 : decide ((x0.toNat : Int) ≤ (239 : Int)) = false := decide_eq_false (by omega)
  have f5 : decide ((x0.toNat : Int) ≤ (244 : Int)) = false := decide_eq_false (by omega)
  have f6 : ((x0.toNat : Int) == 224) = false := by simp; omega
  have f7 : ((x0.toNat : Int) == 237) = false := by simp; omega
  have f8 : ((x0.toNat : Int) == 240) = false := by simp; omega
  have f9 : ((x0.toNat : Int) == 244) = false := by simp; omega
  clear hc
  clear h
  go_enter Tryd.func56, Tryd.ntmps56
  go_wp2
  go_ret
  exact ⟨rfl, rfl⟩
set_option maxRecDepth 40000 in
theorem c52_m {S : ByteArray} {n : Nat} {x0 x1 x2 : UInt8} (most : Nat) (w : World) (h : At3 S n x0 x1 x2) (hc : x0 = 240) (hn0 : 0 < n) (hm : (most : Int) < 4) : Calls Tryd.prog 56 #[.string S, .int .i64 (most : Int)] w (Says w false) := by
  subst hc
  have hn := h.size
  have hp : 0 < S.size := by omega
  have hx0 := h.b0 hp
  clear h
  go_enter Tryd.func56, Tryd.ntmps56
  go_wp2
  go_ret
  exact ⟨rfl, rfl⟩
set_option maxRecDepth 40000 in
theorem c52_l {S : ByteArray} {n : Nat} {x0 x1 x2 : UInt8} (most : Nat) (w : World) (h : At3 S n x0 x1 x2) (hc : x0 = 240) (hm : ¬ (most : Int) < 4) (hl : 4 ≤ n) : Calls Tryd.prog 56 #[.string S, .int .i64 (most : Int)] w (Says w false) := by
  subst hc
  have hn := h.size
  have hp : 0 < S.size := by omega
  have hx0 := h.b0 hp
  clear h
  go_enter Tryd.func56, Tryd.ntmps56
  go_wp2
  go_ret
  exact ⟨rfl, rfl⟩
set_option maxRecDepth 40000 in
theorem c52_1 {S : ByteArray} {x0 x1 x2 : UInt8} (most : Nat) (w : World) (h : At3 S 1 x0 x1 x2) (hc : x0 = 240) (hm : ¬ (most : Int) < 4) : Calls Tryd.prog 56 #[.string S, .int .i64 (most : Int)] w (Says w true) := by
  subst hc
  have hn := h.size
  have hp : 0 < S.size := by omega
  have hx0 := h.b0 hp
  clear h
  go_enter Tryd.func56, Tryd.ntmps56
  go_wp2
  refine wp_loop_rounds 1 ?_
  rw [rounds_succ]
  go_wp2
  go_ret
  exact ⟨rfl, rfl⟩
set_option maxRecDepth 40000 in
theorem c52_2a {S : ByteArray} {x0 x1 x2 : UInt8} (most : Nat) (w : World) (h : At3 S 2 x0 x1 x2) (hc : x0 = 240) (hm : ¬ (most : Int) < 4) (c1 : decide ((x1.toNat : Int) < 144) = true) : Calls Tryd.prog 56 #[.string S, .int .i64 (most : Int)] w (Says w false) := by
  subst hc
  have hn := h.size
  have hp : 0 < S.size := by omega
  have hx0 := h.b0 hp
  have hp1 : 1 < S.size := by omega
  have hx1 := h.b1 hp1
  clear h
  go_enter Tryd.func56, Tryd.ntmps56
  go_wp2
  refine wp_loop_rounds 1 ?_
  rw [rounds_succ]
  go_wp2
  go_ret
  exact ⟨rfl, rfl⟩
set_option maxRecDepth 40000 in
theorem c52_2b {S : ByteArray} {x0 x1 x2 : UInt8} (most : Nat) (w : World) (h : At3 S 2 x0 x1 x2) (hc : x0 = 240) (hm : ¬ (most : Int) < 4) (c1 : decide ((x1.toNat : Int) < 144) = false) (c2 : decide ((191 : Int) < (x1.toNat : Int)) = true) : Calls Tryd.prog 56 #[.string S, .int .i64 (most : Int)] w (Says w false) := by
  subst hc
  have hn := h.size
  have hp : 0 < S.size := by omega
  have hx0 := h.b0 hp
  have hp1 : 1 < S.size := by omega
  have hx1 := h.b1 hp1
  clear h
  go_enter Tryd.func56, Tryd.ntmps56
  go_wp2
  refine wp_loop_rounds 1 ?_
  rw [rounds_succ]
  go_wp2
  go_ret
  exact ⟨rfl, rfl⟩
set_option maxRecDepth 40000 in
theorem c52_2c {S : ByteArray} {x0 x1 x2 : UInt8} (most : Nat) (w : World) (h : At3 S 2 x0 x1 x2) (hc : x0 = 240) (hm : ¬ (most : Int) < 4) (c1 : decide ((x1.toNat : Int) < 144) = false) (c2 : decide ((191 : Int) < (x1.toNat : Int)) = false) : Calls Tryd.prog 56 #[.string S, .int .i64 (most : Int)] w (Says w true) := by
  subst hc
  have hn := h.size
  have hp : 0 < S.size := by omega
  have hx0 := h.b0 hp
  have hp1 : 1 < S.size := by omega
  have hx1 := h.b1 hp1
  clear h
  go_enter Tryd.func56, Tryd.ntmps56
  go_wp2
  refine wp_loop_rounds 2 ?_
  rw [rounds_succ]
  go_wp2
  rw [rounds_succ]
  go_wp2
  go_ret
  exact ⟨rfl, rfl⟩
set_option maxRecDepth 40000 in
theorem c52_3a {S : ByteArray} {x0 x1 x2 : UInt8} (most : Nat) (w : World) (h : At3 S 3 x0 x1 x2) (hc : x0 = 240) (hm : ¬ (most : Int) < 4) (c1 : decide ((x1.toNat : Int) < 144) = true) : Calls Tryd.prog 56 #[.string S, .int .i64 (most : Int)] w (Says w false) := by
  subst hc
  have hn := h.size
  have hp : 0 < S.size := by omega
  have hx0 := h.b0 hp
  have hp1 : 1 < S.size := by omega
  have hx1 := h.b1 hp1
  clear h
  go_enter Tryd.func56, Tryd.ntmps56
  go_wp2
  refine wp_loop_rounds 1 ?_
  rw [rounds_succ]
  go_wp2
  go_ret
  exact ⟨rfl, rfl⟩
set_option maxRecDepth 40000 in
theorem c52_3b {S : ByteArray} {x0 x1 x2 : UInt8} (most : Nat) (w : World) (h : At3 S 3 x0 x1 x2) (hc : x0 = 240) (hm : ¬ (most : Int) < 4) (c1 : decide ((x1.toNat : Int) < 144) = false) (c2 : decide ((191 : Int) < (x1.toNat : Int)) = true) : Calls Tryd.prog 56 #[.string S, .int .i64 (most : Int)] w (Says w false) := by
  subst hc
  have hn := h.size
  have hp : 0 < S.size := by omega
  have hx0 := h.b0 hp
  have hp1 : 1 < S.size := by omega
  have hx1 := h.b1 hp1
  clear h
  go_enter Tryd.func56, Tryd.ntmps56
  go_wp2
  refine wp_loop_rounds 1 ?_
  rw [rounds_succ]
  go_wp2
  go_ret
  exact ⟨rfl, rfl⟩
set_option maxRecDepth 40000 in
theorem c52_3d {S : ByteArray} {x0 x1 x2 : UInt8} (most : Nat) (w : World) (h : At3 S 3 x0 x1 x2) (hc : x0 = 240) (hm : ¬ (most : Int) < 4) (c1 : decide ((x1.toNat : Int) < 144) = false) (c2 : decide ((191 : Int) < (x1.toNat : Int)) = false) (c3 : decide ((x2.toNat : Int) < 128) = true) : Calls Tryd.prog 56 #[.string S, .int .i64 (most : Int)] w (Says w false) := by
  subst hc
  have hn := h.size
  have hp : 0 < S.size := by omega
  have hx0 := h.b0 hp
  have hp1 : 1 < S.size := by omega
  have hx1 := h.b1 hp1
  have hp2 : 2 < S.size := by omega
  have hx2 := h.b2 hp2
  clear h
  go_enter Tryd.func56, Tryd.ntmps56
  go_wp2
  refine wp_loop_rounds 2 ?_
  rw [rounds_succ]
  go_wp2
  rw [rounds_succ]
  go_wp2
  go_ret
  exact ⟨rfl, rfl⟩
set_option maxRecDepth 40000 in
theorem c52_3e {S : ByteArray} {x0 x1 x2 : UInt8} (most : Nat) (w : World) (h : At3 S 3 x0 x1 x2) (hc : x0 = 240) (hm : ¬ (most : Int) < 4) (c1 : decide ((x1.toNat : Int) < 144) = false) (c2 : decide ((191 : Int) < (x1.toNat : Int)) = false) (c3 : decide ((x2.toNat : Int) < 128) = false) (c4 : decide ((191 : Int) < (x2.toNat : Int)) = true) : Calls Tryd.prog 56 #[.string S, .int .i64 (most : Int)] w (Says w false) := by
  subst hc
  have hn := h.size
  have hp : 0 < S.size := by omega
  have hx0 := h.b0 hp
  have hp1 : 1 < S.size := by omega
  have hx1 := h.b1 hp1
  have hp2 : 2 < S.size := by omega
  have hx2 := h.b2 hp2
  clear h
  go_enter Tryd.func56, Tryd.ntmps56
  go_wp2
  refine wp_loop_rounds 2 ?_
  rw [rounds_succ]
  go_wp2
  rw [rounds_succ]
  go_wp2
  go_ret
  exact ⟨rfl, rfl⟩
set_option maxRecDepth 40000 in
theorem c52_3f {S : ByteArray} {x0 x1 x2 : UInt8} (most : Nat) (w : World) (h : At3 S 3 x0 x1 x2) (hc : x0 = 240) (hm : ¬ (most : Int) < 4) (c1 : decide ((x1.toNat : Int) < 144) = false) (c2 : decide ((191 : Int) < (x1.toNat : Int)) = false) (c3 : decide ((x2.toNat : Int) < 128) = false) (c4 : decide ((191 : Int) < (x2.toNat : Int)) = false) : Calls Tryd.prog 56 #[.string S, .int .i64 (most : Int)] w (Says w true) := by
  subst hc
  have hn := h.size
  have hp : 0 < S.size := by omega
  have hx0 := h.b0 hp
  have hp1 : 1 < S.size := by omega
  have hx1 := h.b1 hp1
  have hp2 : 2 < S.size := by omega
  have hx2 := h.b2 hp2
  clear h
  go_enter Tryd.func56, Tryd.ntmps56
  go_wp2
  refine wp_loop_rounds 3 ?_
  rw [rounds_succ]
  go_wp2
  rw [rounds_succ]
  go_wp2
  rw [rounds_succ]
  go_wp2
  go_ret
  exact ⟨rfl, rfl⟩
set_option maxRecDepth 40000 in
theorem c4_m {S : ByteArray} {n : Nat} {x0 x1 x2 : UInt8} (most : Nat) (w : World) (h : At3 S n x0 x1 x2) (hc : 241 ≤ x0.toNat ∧ x0.toNat ≤ 243) (hn0 : 0 < n) (hm : (most : Int) < 4) : Calls Tryd.prog 56 #[.string S, .int .i64 (most : Int)] w (Says w false) := by
  have hn := h.size
  have hp : 0 < S.size := by omega
  have hx0 := h.b0 hp
  have f0 : decide ((194 : Int) ≤ (x0.toNat : Int)) = true := decide_eq_true (by omega)
  have f1 : decide ((224 : Int) ≤ (x0.toNat : Int)) = true := decide_eq_true (by omega)
  have f2 : decide ((240 : Int) ≤ (x0.toNat : Int)) = true := decide_eq_true (by omega)
  have f3 : decide ((x0.toNat : Int) ≤ (223 : Int)) = false := decide_eq_false (by omega)
  have f4 : decide ((x0.toNat : Int) ≤ (239 : Int)) = false := decide_eq_false (by omega)
  have f5 : decide ((x0.toNat : Int) ≤ (244 : Int)) = true := decide_eq_true (by omega)
  have f6 : ((x0.toNat : Int) == 224) = false := by simp; omega
  have f7 : ((x0.toNat : Int) == 237) = false := by simp; omega
  have f8 : ((x0.toNat : Int) == 240) = false := by simp; omega
  have f9 : ((x0.toNat : Int) == 244) = false := by simp; omega
  clear hc
  clear h
  go_enter Tryd.func56, Tryd.ntmps56
  go_wp2
  go_ret
  exact ⟨rfl, rfl⟩
set_option maxRecDepth 40000 in
theorem c4_l {S : ByteArray} {n : Nat} {x0 x1 x2 : UInt8} (most : Nat) (w : World) (h : At3 S n x0 x1 x2) (hc : 241 ≤ x0.toNat ∧ x0.toNat ≤ 243) (hm : ¬ (most : Int) < 4) (hl : 4 ≤ n) : Calls Tryd.prog 56 #[.string S, .int .i64 (most : Int)] w (Says w false) := by
  have hn := h.size
  have hp : 0 < S.size := by omega
  have hx0 := h.b0 hp
  have f0 : decide ((194 : Int) ≤ (x0.toNat : Int)) = true := decide_eq_true (by omega)
  have f1 : decide ((224 : Int) ≤ (x0.toNat : Int)) = true := decide_eq_true (by omega)
  have f2 : decide ((240 : Int) ≤ (x0.toNat : Int)) = true := decide_eq_true (by omega)
  have f3 : decide ((x0.toNat : Int) ≤ (223 : Int)) = false := decide_eq_false (by omega)
  have f4 : decide ((x0.toNat : Int) ≤ (239 : Int)) = false := decide_eq_false (by omega)
  have f5 : decide ((x0.toNat : Int) ≤ (244 : Int)) = true := decide_eq_true (by omega)
  have f6 : ((x0.toNat : Int) == 224) = false := by simp; omega
  have f7 : ((x0.toNat : Int) == 237) = false := by simp; omega
  have f8 : ((x0.toNat : Int) == 240) = false := by simp; omega
  have f9 : ((x0.toNat : Int) == 244) = false := by simp; omega
  clear hc
  clear h
  go_enter Tryd.func56, Tryd.ntmps56
  go_wp2
  go_ret
  exact ⟨rfl, rfl⟩
set_option maxRecDepth 40000 in
theorem c4_1 {S : ByteArray} {x0 x1 x2 : UInt8} (most : Nat) (w : World) (h : At3 S 1 x0 x1 x2) (hc : 241 ≤ x0.toNat ∧ x0.toNat ≤ 243) (hm : ¬ (most : Int) < 4) : Calls Tryd.prog 56 #[.string S, .int .i64 (most : Int)] w (Says w true) := by
  have hn := h.size
  have hp : 0 < S.size := by omega
  have hx0 := h.b0 hp
  have f0 : decide ((194 : Int) ≤ (x0.toNat : Int)) = true := decide_eq_true (by omega)
  have f1 : decide ((224 : Int) ≤ (x0.toNat : Int)) = true := decide_eq_true (by omega)
  have f2 : decide ((240 : Int) ≤ (x0.toNat : Int)) = true := decide_eq_true (by omega)
  have f3 : decide ((x0.toNat : Int) ≤ (223 : Int)) = false := decide_eq_false (by omega)
  have f4 : decide ((x0.toNat : Int) ≤ (239 : Int)) = false := decide_eq_false (by omega)
  have f5 : decide ((x0.toNat : Int) ≤ (244 : Int)) = true := decide_eq_true (by omega)
  have f6 : ((x0.toNat : Int) == 224) = false := by simp; omega
  have f7 : ((x0.toNat : Int) == 237) = false := by simp; omega
  have f8 : ((x0.toNat : Int) == 240) = false := by simp; omega
  have f9 : ((x0.toNat : Int) == 244) = false := by simp; omega
  clear hc
  clear h
  go_enter Tryd.func56, Tryd.ntmps56
  go_wp2
  refine wp_loop_rounds 1 ?_
  rw [rounds_succ]
  go_wp2
  go_ret
  exact ⟨rfl, rfl⟩
set_option maxRecDepth 40000 in
theorem c4_2a {S : ByteArray} {x0 x1 x2 : UInt8} (most : Nat) (w : World) (h : At3 S 2 x0 x1 x2) (hc : 241 ≤ x0.toNat ∧ x0.toNat ≤ 243) (hm : ¬ (most : Int) < 4) (c1 : decide ((x1.toNat : Int) < 128) = true) : Calls Tryd.prog 56 #[.string S, .int .i64 (most : Int)] w (Says w false) := by
  have hn := h.size
  have hp : 0 < S.size := by omega
  have hx0 := h.b0 hp
  have hp1 : 1 < S.size := by omega
  have hx1 := h.b1 hp1
  have f0 : decide ((194 : Int) ≤ (x0.toNat : Int)) = true := decide_eq_true (by omega)
  have f1 : decide ((224 : Int) ≤ (x0.toNat : Int)) = true := decide_eq_true (by omega)
  have f2 : decide ((240 : Int) ≤ (x0.toNat : Int)) = true := decide_eq_true (by omega)
  have f3 : decide ((x0.toNat : Int) ≤ (223 : Int)) = false := decide_eq_false (by omega)
  have f4 : decide ((x0.toNat : Int) ≤ (239 : Int)) = false := decide_eq_false (by omega)
  have f5 : decide ((x0.toNat : Int) ≤ (244 : Int)) = true := decide_eq_true (by omega)
  have f6 : ((x0.toNat : Int) == 224) = false := by simp; omega
  have f7 : ((x0.toNat : Int) == 237) = false := by simp; omega
  have f8 : ((x0.toNat : Int) == 240) = false := by simp; omega
  have f9 : ((x0.toNat : Int) == 244) = false := by simp; omega
  clear hc
  clear h
  go_enter Tryd.func56, Tryd.ntmps56
  go_wp2
  refine wp_loop_rounds 1 ?_
  rw [rounds_succ]
  go_wp2
  go_ret
  exact ⟨rfl, rfl⟩
set_option maxRecDepth 40000 in
theorem c4_2b {S : ByteArray} {x0 x1 x2 : UInt8} (most : Nat) (w : World) (h : At3 S 2 x0 x1 x2) (hc : 241 ≤ x0.toNat ∧ x0.toNat ≤ 243) (hm : ¬ (most : Int) < 4) (c1 : decide ((x1.toNat : Int) < 128) = false) (c2 : decide ((191 : Int) < (x1.toNat : Int)) = true) : Calls Tryd.prog 56 #[.string S, .int .i64 (most : Int)] w (Says w false) := by
  have hn := h.size
  have hp : 0 < S.size := by omega
  have hx0 := h.b0 hp
  have hp1 : 1 < S.size := by omega
  have hx1 := h.b1 hp1
  have f0 : decide ((194 : Int) ≤ (x0.toNat : Int)) = true := decide_eq_true (by omega)
  have f1 : decide ((224 : Int) ≤ (x0.toNat : Int)) = true := decide_eq_true (by omega)
  have f2 : decide ((240 : Int) ≤ (x0.toNat : Int)) = true := decide_eq_true (by omega)
  have f3 : decide ((x0.toNat : Int) ≤ (223 : Int)) = false := decide_eq_false (by omega)
  have f4 : decide ((x0.toNat : Int) ≤ (239 : Int)) = false := decide_eq_false (by omega)
  have f5 : decide ((x0.toNat : Int) ≤ (244 : Int)) = true := decide_eq_true (by omega)
  have f6 : ((x0.toNat : Int) == 224) = false := by simp; omega
  have f7 : ((x0.toNat : Int) == 237) = false := by simp; omega
  have f8 : ((x0.toNat : Int) == 240) = false := by simp; omega
  have f9 : ((x0.toNat : Int) == 244) = false := by simp; omega
  clear hc
  clear h
  go_enter Tryd.func56, Tryd.ntmps56
  go_wp2
  refine wp_loop_rounds 1 ?_
  rw [rounds_succ]
  go_wp2
  go_ret
  exact ⟨rfl, rfl⟩
set_option maxRecDepth 40000 in
theorem c4_2c {S : ByteArray} {x0 x1 x2 : UInt8} (most : Nat) (w : World) (h : At3 S 2 x0 x1 x2) (hc : 241 ≤ x0.toNat ∧ x0.toNat ≤ 243) (hm : ¬ (most : Int) < 4) (c1 : decide ((x1.toNat : Int) < 128) = false) (c2 : decide ((191 : Int) < (x1.toNat : Int)) = false) : Calls Tryd.prog 56 #[.string S, .int .i64 (most : Int)] w (Says w true) := by
  have hn := h.size
  have hp : 0 < S.size := by omega
  have hx0 := h.b0 hp
  have hp1 : 1 < S.size := by omega
  have hx1 := h.b1 hp1
  have f0 : decide ((194 : Int) ≤ (x0.toNat : Int)) = true := decide_eq_true (by omega)
  have f1 : decide ((224 : Int) ≤ (x0.toNat : Int)) = true := decide_eq_true (by omega)
  have f2 : decide ((240 : Int) ≤ (x0.toNat : Int)) = true := decide_eq_true (by omega)
  have f3 : decide ((x0.toNat : Int) ≤ (223 : Int)) = false := decide_eq_false (by omega)
  have f4 : decide ((x0.toNat : Int) ≤ (239 : Int)) = false := decide_eq_false (by omega)
  have f5 : decide ((x0.toNat : Int) ≤ (244 : Int)) = true := decide_eq_true (by omega)
  have f6 : ((x0.toNat : Int) == 224) = false := by simp; omega
  have f7 : ((x0.toNat : Int) == 237) = false := by simp; omega
  have f8 : ((x0.toNat : Int) == 240) = false := by simp; omega
  have f9 : ((x0.toNat : Int) == 244) = false := by simp; omega
  clear hc
  clear h
  go_enter Tryd.func56, Tryd.ntmps56
  go_wp2
  refine wp_loop_rounds 2 ?_
  rw [rounds_succ]
  go_wp2
  rw [rounds_succ]
  go_wp2
  go_ret
  exact ⟨rfl, rfl⟩
set_option maxRecDepth 40000 in
theorem c4_3a {S : ByteArray} {x0 x1 x2 : UInt8} (most : Nat) (w : World) (h : At3 S 3 x0 x1 x2) (hc : 241 ≤ x0.toNat ∧ x0.toNat ≤ 243) (hm : ¬ (most : Int) < 4) (c1 : decide ((x1.toNat : Int) < 128) = true) : Calls Tryd.prog 56 #[.string S, .int .i64 (most : Int)] w (Says w false) := by
  have hn := h.size
  have hp : 0 < S.size := by omega
  have hx0 := h.b0 hp
  have hp1 : 1 < S.size := by omega
  have hx1 := h.b1 hp1
  have f0 : decide ((194 : Int) ≤ (x0.toNat : Int)) = true := decide_eq_true (by omega)
  have f1 : decide ((224 : Int) ≤ (x0.toNat : Int)) = true := decide_eq_true (by omega)
  have f2 : decide ((240 : Int) ≤ (x0.toNat : Int)) = true := decide_eq_true (by omega)
  have f3 : decide ((x0.toNat : Int) ≤ (223 : Int)) = false := decide_eq_false (by omega)
  have f4 : decide ((x0.toNat : Int) ≤ (239 : Int)) = false := decide_eq_false (by omega)
  have f5 : decide ((x0.toNat : Int) ≤ (244 : Int)) = true := decide_eq_true (by omega)
  have f6 : ((x0.toNat : Int) == 224) = false := by simp; omega
  have f7 : ((x0.toNat : Int) == 237) = false := by simp; omega
  have f8 : ((x0.toNat : Int) == 240) = false := by simp; omega
  have f9 : ((x0.toNat : Int) == 244) = false := by simp; omega
  clear hc
  clear h
  go_enter Tryd.func56, Tryd.ntmps56
  go_wp2
  refine wp_loop_rounds 1 ?_
  rw [rounds_succ]
  go_wp2
  go_ret
  exact ⟨rfl, rfl⟩
set_option maxRecDepth 40000 in
theorem c4_3b {S : ByteArray} {x0 x1 x2 : UInt8} (most : Nat) (w : World) (h : At3 S 3 x0 x1 x2) (hc : 241 ≤ x0.toNat ∧ x0.toNat ≤ 243) (hm : ¬ (most : Int) < 4) (c1 : decide ((x1.toNat : Int) < 128) = false) (c2 : decide ((191 : Int) < (x1.toNat : Int)) = true) : Calls Tryd.prog 56 #[.string S, .int .i64 (most : Int)] w (Says w false) := by
  have hn := h.size
  have hp : 0 < S.size := by omega
  have hx0 := h.b0 hp
  have hp1 : 1 < S.size := by omega
  have hx1 := h.b1 hp1
  have f0 : decide ((194 : Int) ≤ (x0.toNat : Int)) = true := decide_eq_true (by omega)
  have f1 : decide ((224 : Int) ≤ (x0.toNat : Int)) = true := decide_eq_true (by omega)
  have f2 : decide ((240 : Int) ≤ (x0.toNat : Int)) = true := decide_eq_true (by omega)
  have f3 : decide ((x0.toNat : Int) ≤ (223 : Int)) = false := decide_eq_false (by omega)
  have f4 : decide ((x0.toNat : Int) ≤ (239 : Int)) = false := decide_eq_false (by omega)
  have f5 : decide ((x0.toNat : Int) ≤ (244 : Int)) = true := decide_eq_true (by omega)
  have f6 : ((x0.toNat : Int) == 224) = false := by simp; omega
  have f7 : ((x0.toNat : Int) == 237) = false := by simp; omega
  have f8 : ((x0.toNat : Int) == 240) = false := by simp; omega
  have f9 : ((x0.toNat : Int) == 244) = false := by simp; omega
  clear hc
  clear h
  go_enter Tryd.func56, Tryd.ntmps56
  go_wp2
  refine wp_loop_rounds 1 ?_
  rw [rounds_succ]
  go_wp2
  go_ret
  exact ⟨rfl, rfl⟩
set_option maxRecDepth 40000 in
theorem c4_3d {S : ByteArray} {x0 x1 x2 : UInt8} (most : Nat) (w : World) (h : At3 S 3 x0 x1 x2) (hc : 241 ≤ x0.toNat ∧ x0.toNat ≤ 243) (hm : ¬ (most : Int) < 4) (c1 : decide ((x1.toNat : Int) < 128) = false) (c2 : decide ((191 : Int) < (x1.toNat : Int)) = false) (c3 : decide ((x2.toNat : Int) < 128) = true) : Calls Tryd.prog 56 #[.string S, .int .i64 (most : Int)] w (Says w false) := by
  have hn := h.size
  have hp : 0 < S.size := by omega
  have hx0 := h.b0 hp
  have hp1 : 1 < S.size := by omega
  have hx1 := h.b1 hp1
  have hp2 : 2 < S.size := by omega
  have hx2 := h.b2 hp2
  have f0 : decide ((194 : Int) ≤ (x0.toNat : Int)) = true := decide_eq_true (by omega)
  have f1 : decide ((224 : Int) ≤ (x0.toNat : Int)) = true := decide_eq_true (by omega)
  have f2 : decide ((240 : Int) ≤ (x0.toNat : Int)) = true := decide_eq_true (by omega)
  have f3 : decide ((x0.toNat : Int) ≤ (223 : Int)) = false := decide_eq_false (by omega)
  have f4 : decide ((x0.toNat : Int) ≤ (239 : Int)) = false := decide_eq_false (by omega)
  have f5 : decide ((x0.toNat : Int) ≤ (244 : Int)) = true := decide_eq_true (by omega)
  have f6 : ((x0.toNat : Int) == 224) = false := by simp; omega
  have f7 : ((x0.toNat : Int) == 237) = false := by simp; omega
  have f8 : ((x0.toNat : Int) == 240) = false := by simp; omega
  have f9 : ((x0.toNat : Int) == 244) = false := by simp; omega
  clear hc
  clear h
  go_enter Tryd.func56, Tryd.ntmps56
  go_wp2
  refine wp_loop_rounds 2 ?_
  rw [rounds_succ]
  go_wp2
  rw [rounds_succ]
  go_wp2
  go_ret
  exact ⟨rfl, rfl⟩
set_option maxRecDepth 40000 in
theorem c4_3e {S : ByteArray} {x0 x1 x2 : UInt8} (most : Nat) (w : World) (h : At3 S 3 x0 x1 x2) (hc : 241 ≤ x0.toNat ∧ x0.toNat ≤ 243) (hm : ¬ (most : Int) < 4) (c1 : decide ((x1.toNat : Int) < 128) = false) (c2 : decide ((191 : Int) < (x1.toNat : Int)) = false) (c3 : decide ((x2.toNat : Int) < 128) = false) (c4 : decide ((191 : Int) < (x2.toNat : Int)) = true) : Calls Tryd.prog 56 #[.string S, .int .i64 (most : Int)] w (Says w false) := by
  have hn := h.size
  have hp : 0 < S.size := by omega
  have hx0 := h.b0 hp
  have hp1 : 1 < S.size := by omega
  have hx1 := h.b1 hp1
  have hp2 : 2 < S.size := by omega
  have hx2 := h.b2 hp2
  have f0 : decide ((194 : Int) ≤ (x0.toNat : Int)) = true := decide_eq_true (by omega)
  have f1 : decide ((224 : Int) ≤ (x0.toNat : Int)) = true := decide_eq_true (by omega)
  have f2 : decide ((240 : Int) ≤ (x0.toNat : Int)) = true := decide_eq_true (by omega)
  have f3 : decide ((x0.toNat : Int) ≤ (223 : Int)) = false := decide_eq_false (by omega)
  have f4 : decide ((x0.toNat : Int) ≤ (239 : Int)) = false := decide_eq_false (by omega)
  have f5 : decide ((x0.toNat : Int) ≤ (244 : Int)) = true := decide_eq_true (by omega)
  have f6 : ((x0.toNat : Int) == 224) = false := by simp; omega
  have f7 : ((x0.toNat : Int) == 237) = false := by simp; omega
  have f8 : ((x0.toNat : Int) == 240) = false := by simp; omega
  have f9 : ((x0.toNat : Int) == 244) = false := by simp; omega
  clear hc
  clear h
  go_enter Tryd.func56, Tryd.ntmps56
  go_wp2
  refine wp_loop_rounds 2 ?_
  rw [rounds_succ]
  go_wp2
  rw [rounds_succ]
  go_wp2
  go_ret
  exact ⟨rfl, rfl⟩
set_option maxRecDepth 40000 in
theorem c4_3f {S : ByteArray} {x0 x1 x2 : UInt8} (most : Nat) (w : World) (h : At3 S 3 x0 x1 x2) (hc : 241 ≤ x0.toNat ∧ x0.toNat ≤ 243) (hm : ¬ (most : Int) < 4) (c1 : decide ((x1.toNat : Int) < 128) = false) (c2 : decide ((191 : Int) < (x1.toNat : Int)) = false) (c3 : decide ((x2.toNat : Int) < 128) = false) (c4 : decide ((191 : Int) < (x2.toNat : Int)) = false) : Calls Tryd.prog 56 #[.string S, .int .i64 (most : Int)] w (Says w true) := by
  have hn := h.size
  have hp : 0 < S.size := by omega
  have hx0 := h.b0 hp
  have hp1 : 1 < S.size := by omega
  have hx1 := h.b1 hp1
  have hp2 : 2 < S.size := by omega
  have hx2 := h.b2 hp2
  have f0 : decide ((194 : Int) ≤ (x0.toNat : Int)) = true := decide_eq_true (by omega)
  have f1 : decide ((224 : Int) ≤ (x0.toNat : Int)) = true := decide_eq_true (by omega)
  have f2 : decide ((240 : Int) ≤ (x0.toNat : Int)) = true := decide_eq_true (by omega)
  have f3 : decide ((x0.toNat : Int) ≤ (223 : Int)) = false := decide_eq_false (by omega)
  have f4 : decide ((x0.toNat : Int) ≤ (239 : Int)) = false := decide_eq_false (by omega)
  have f5 : decide ((x0.toNat : Int) ≤ (244 : Int)) = true := decide_eq_true (by omega)
  have f6 : ((x0.toNat : Int) == 224) = false := by simp; omega
  have f7 : ((x0.toNat : Int) == 237) = false := by simp; omega
  have f8 : ((x0.toNat : Int) == 240) = false := by simp; omega
  have f9 : ((x0.toNat : Int) == 244) = false := by simp; omega
  clear hc
  clear h
  go_enter Tryd.func56, Tryd.ntmps56
  go_wp2
  refine wp_loop_rounds 3 ?_
  rw [rounds_succ]
  go_wp2
  rw [rounds_succ]
  go_wp2
  rw [rounds_succ]
  go_wp2
  go_ret
  exact ⟨rfl, rfl⟩
set_option maxRecDepth 40000 in
theorem c68_m {S : ByteArray} {n : Nat} {x0 x1 x2 : UInt8} (most : Nat) (w : World) (h : At3 S n x0 x1 x2) (hc : x0 = 244) (hn0 : 0 < n) (hm : (most : Int) < 4) : Calls Tryd.prog 56 #[.string S, .int .i64 (most : Int)] w (Says w false) := by
  subst hc
  have hn := h.size
  have hp : 0 < S.size := by omega
  have hx0 := h.b0 hp
  clear h
  go_enter Tryd.func56, Tryd.ntmps56
  go_wp2
  go_ret
  exact ⟨rfl, rfl⟩
set_option maxRecDepth 40000 in
theorem c68_l {S : ByteArray} {n : Nat} {x0 x1 x2 : UInt8} (most : Nat) (w : World) (h : At3 S n x0 x1 x2) (hc : x0 = 244) (hm : ¬ (most : Int) < 4) (hl : 4 ≤ n) : Calls Tryd.prog 56 #[.string S, .int .i64 (most : Int)] w (Says w false) := by
  subst hc
  have hn := h.size
  have hp : 0 < S.size := by omega
  have hx0 := h.b0 hp
  clear h
  go_enter Tryd.func56, Tryd.ntmps56
  go_wp2
  go_ret
  exact ⟨rfl, rfl⟩
set_option maxRecDepth 40000 in
theorem c68_1 {S : ByteArray} {x0 x1 x2 : UInt8} (most : Nat) (w : World) (h : At3 S 1 x0 x1 x2) (hc : x0 = 244) (hm : ¬ (most : Int) < 4) : Calls Tryd.prog 56 #[.string S, .int .i64 (most : Int)] w (Says w true) := by
  subst hc
  have hn := h.size
  have hp : 0 < S.size := by omega
  have hx0 := h.b0 hp
  clear h
  go_enter Tryd.func56, Tryd.ntmps56
  go_wp2
  refine wp_loop_rounds 1 ?_
  rw [rounds_succ]
  go_wp2
  go_ret
  exact ⟨rfl, rfl⟩
set_option maxRecDepth 40000 in
theorem c68_2a {S : ByteArray} {x0 x1 x2 : UInt8} (most : Nat) (w : World) (h : At3 S 2 x0 x1 x2) (hc : x0 = 244) (hm : ¬ (most : Int) < 4) (c1 : decide ((x1.toNat : Int) < 128) = true) : Calls Tryd.prog 56 #[.string S, .int .i64 (most : Int)] w (Says w false) := by
  subst hc
  have hn := h.size
  have hp : 0 < S.size := by omega
  have hx0 := h.b0 hp
  have hp1 : 1 < S.size := by omega
  have hx1 := h.b1 hp1
  clear h
  go_enter Tryd.func56, Tryd.ntmps56
  go_wp2
  refine wp_loop_rounds 1 ?_
  rw [rounds_succ]
  go_wp2
  go_ret
  exact ⟨rfl, rfl⟩
set_option maxRecDepth 40000 in
theorem c68_2b {S : ByteArray} {x0 x1 x2 : UInt8} (most : Nat) (w : World) (h : At3 S 2 x0 x1 x2) (hc : x0 = 244) (hm : ¬ (most : Int) < 4) (c1 : decide ((x1.toNat : Int) < 128) = false) (c2 : decide ((143 : Int) < (x1.toNat : Int)) = true) : Calls Tryd.prog 56 #[.string S, .int .i64 (most : Int)] w (Says w false) := by
  subst hc
  have hn := h.size
  have hp : 0 < S.size := by omega
  have hx0 := h.b0 hp
  have hp1 : 1 < S.size := by omega
  have hx1 := h.b1 hp1
  clear h
  go_enter Tryd.func56, Tryd.ntmps56
  go_wp2
  refine wp_loop_rounds 1 ?_
  rw [rounds_succ]
  go_wp2
  go_ret
  exact ⟨rfl, rfl⟩
set_option maxRecDepth 40000 in
theorem c68_2c {S : ByteArray} {x0 x1 x2 : UInt8} (most : Nat) (w : World) (h : At3 S 2 x0 x1 x2) (hc : x0 = 244) (hm : ¬ (most : Int) < 4) (c1 : decide ((x1.toNat : Int) < 128) = false) (c2 : decide ((143 : Int) < (x1.toNat : Int)) = false) : Calls Tryd.prog 56 #[.string S, .int .i64 (most : Int)] w (Says w true) := by
  subst hc
  have hn := h.size
  have hp : 0 < S.size := by omega
  have hx0 := h.b0 hp
  have hp1 : 1 < S.size := by omega
  have hx1 := h.b1 hp1
  clear h
  go_enter Tryd.func56, Tryd.ntmps56
  go_wp2
  refine wp_loop_rounds 2 ?_
  rw [rounds_succ]
  go_wp2
  rw [rounds_succ]
  go_wp2
  go_ret
  exact ⟨rfl, rfl⟩
set_option maxRecDepth 40000 in
theorem c68_3a {S : ByteArray} {x0 x1 x2 : UInt8} (most : Nat) (w : World) (h : At3 S 3 x0 x1 x2) (hc : x0 = 244) (hm : ¬ (most : Int) < 4) (c1 : decide ((x1.toNat : Int) < 128) = true) : Calls Tryd.prog 56 #[.string S, .int .i64 (most : Int)] w (Says w false) := by
  subst hc
  have hn := h.size
  have hp : 0 < S.size := by omega
  have hx0 := h.b0 hp
  have hp1 : 1 < S.size := by omega
  have hx1 := h.b1 hp1
  clear h
  go_enter Tryd.func56, Tryd.ntmps56
  go_wp2
  refine wp_loop_rounds 1 ?_
  rw [rounds_succ]
  go_wp2
  go_ret
  exact ⟨rfl, rfl⟩
set_option maxRecDepth 40000 in
theorem c68_3b {S : ByteArray} {x0 x1 x2 : UInt8} (most : Nat) (w : World) (h : At3 S 3 x0 x1 x2) (hc : x0 = 244) (hm : ¬ (most : Int) < 4) (c1 : decide ((x1.toNat : Int) < 128) = false) (c2 : decide ((143 : Int) < (x1.toNat : Int)) = true) : Calls Tryd.prog 56 #[.string S, .int .i64 (most : Int)] w (Says w false) := by
  subst hc
  have hn := h.size
  have hp : 0 < S.size := by omega
  have hx0 := h.b0 hp
  have hp1 : 1 < S.size := by omega
  have hx1 := h.b1 hp1
  clear h
  go_enter Tryd.func56, Tryd.ntmps56
  go_wp2
  refine wp_loop_rounds 1 ?_
  rw [rounds_succ]
  go_wp2
  go_ret
  exact ⟨rfl, rfl⟩
set_option maxRecDepth 40000 in
theorem c68_3d {S : ByteArray} {x0 x1 x2 : UInt8} (most : Nat) (w : World) (h : At3 S 3 x0 x1 x2) (hc : x0 = 244) (hm : ¬ (most : Int) < 4) (c1 : decide ((x1.toNat : Int) < 128) = false) (c2 : decide ((143 : Int) < (x1.toNat : Int)) = false) (c3 : decide ((x2.toNat : Int) < 128) = true) : Calls Tryd.prog 56 #[.string S, .int .i64 (most : Int)] w (Says w false) := by
  subst hc
  have hn := h.size
  have hp : 0 < S.size := by omega
  have hx0 := h.b0 hp
  have hp1 : 1 < S.size := by omega
  have hx1 := h.b1 hp1
  have hp2 : 2 < S.size := by omega
  have hx2 := h.b2 hp2
  clear h
  go_enter Tryd.func56, Tryd.ntmps56
  go_wp2
  refine wp_loop_rounds 2 ?_
  rw [rounds_succ]
  go_wp2
  rw [rounds_succ]
  go_wp2
  go_ret
  exact ⟨rfl, rfl⟩
set_option maxRecDepth 40000 in
theorem c68_3e {S : ByteArray} {x0 x1 x2 : UInt8} (most : Nat) (w : World) (h : At3 S 3 x0 x1 x2) (hc : x0 = 244) (hm : ¬ (most : Int) < 4) (c1 : decide ((x1.toNat : Int) < 128) = false) (c2 : decide ((143 : Int) < (x1.toNat : Int)) = false) (c3 : decide ((x2.toNat : Int) < 128) = false) (c4 : decide ((191 : Int) < (x2.toNat : Int)) = true) : Calls Tryd.prog 56 #[.string S, .int .i64 (most : Int)] w (Says w false) := by
  subst hc
  have hn := h.size
  have hp : 0 < S.size := by omega
  have hx0 := h.b0 hp
  have hp1 : 1 < S.size := by omega
  have hx1 := h.b1 hp1
  have hp2 : 2 < S.size := by omega
  have hx2 := h.b2 hp2
  clear h
  go_enter Tryd.func56, Tryd.ntmps56
  go_wp2
  refine wp_loop_rounds 2 ?_
  rw [rounds_succ]
  go_wp2
  rw [rounds_succ]
  go_wp2
  go_ret
  exact ⟨rfl, rfl⟩
set_option maxRecDepth 40000 in
theorem c68_3f {S : ByteArray} {x0 x1 x2 : UInt8} (most : Nat) (w : World) (h : At3 S 3 x0 x1 x2) (hc : x0 = 244) (hm : ¬ (most : Int) < 4) (c1 : decide ((x1.toNat : Int) < 128) = false) (c2 : decide ((143 : Int) < (x1.toNat : Int)) = false) (c3 : decide ((x2.toNat : Int) < 128) = false) (c4 : decide ((191 : Int) < (x2.toNat : Int)) = false) : Calls Tryd.prog 56 #[.string S, .int .i64 (most : Int)] w (Says w true) := by
  subst hc
  have hn := h.size
  have hp : 0 < S.size := by omega
  have hx0 := h.b0 hp
  have hp1 : 1 < S.size := by omega
  have hx1 := h.b1 hp1
  have hp2 : 2 < S.size := by omega
  have hx2 := h.b2 hp2
  clear h
  go_enter Tryd.func56, Tryd.ntmps56
  go_wp2
  refine wp_loop_rounds 3 ?_
  rw [rounds_succ]
  go_wp2
  rw [rounds_succ]
  go_wp2
  rw [rounds_succ]
  go_wp2
  go_ret
  exact ⟨rfl, rfl⟩
end Go.Proofs.YthoiolihkomgmaaDoor.Op5
