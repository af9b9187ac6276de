/- The contract of value.Less. -/
import Derived.Test.YtbkaphcipbhmhaaDoorVe
import Derived.Below
namespace Go.Proofs.YtbkaphcipbhmhaaDoor.Vn
open Go Go.RowKit Go.Proofs.YtbkaphcipbhmhaaDoor.Vm Go.Proofs.YtbkaphcipbhmhaaDoor.Vl
theorem less_at (k k' n n' : Int) (r r' : Nat) (s s' : ByteArray) (w : World) (hr : r < 18446744073709551616) (hr' : r' < 18446744073709551616) :
    Calls Tryd.prog 28 #[vv ⟨k, n, r, s⟩, vv ⟨k', n', r', s'⟩] w fun e w' => e = .returned (.bool (less ⟨k, n, r, s⟩ ⟨k', n', r', s'⟩)) ∧ Below w.heap.size w w' := by
  have hb2 : Below w.heap.size w ((w.alloc (.cells #[.int .u8 k, .int .i64 n, .int .u64 (r : Int), .string s] 38)).alloc (.cells #[.int .u8 k', .int .i64 n', .int .u64 (r' : Int), .string s'] 38)) :=
    ((Below.refl _ _).alloc (Nat.le_refl _) _).alloc (by simp) _
  have HB := Lib.hid hb2
  clear hb2
  unfold less vv
  dsimp only
  by_cases hk : k = k'
  · subst hk
    rw [if_neg (by simp)]
    by_cases hn : n = n'
    · subst hn
      rw [if_neg (by simp)]
      cases h1 : Rm.less r r'
      · have H1 := Lib.hid h1; clear h1
        cases h2 : Rm.less r' r
        · have H2 := Lib.hid h2; clear h2
          go_enter Tryd.func28, Tryd.ntmps28
          go_wp2_with fail
          refine (less_any r r' _ hr hr').mono ?_
          rw [H1.out]
          rintro e w1 ⟨rfl, rfl⟩
          go_wp2_with fail
          refine (less_any r' r _ hr' hr).mono ?_
          rw [H2.out]
          rintro e w1 ⟨rfl, rfl⟩
          go_wp2
          go_ret
          exact ⟨rfl, HB.out⟩
        · have H2 := Lib.hid h2; clear h2
          go_enter Tryd.func28, Tryd.ntmps28
          go_wp2_with fail
          refine (less_any r r' _ hr hr').mono ?_
          rw [H1.out]
          rintro e w1 ⟨rfl, rfl⟩
          go_wp2_with fail
          refine (less_any r' r _ hr' hr).mono ?_
          rw [H2.out]
          rintro e w1 ⟨rfl, rfl⟩
          go_wp2
          go_ret
          exact ⟨rfl, HB.out⟩
      · have H1 := Lib.hid h1; clear h1
        go_enter Tryd.func28, Tryd.ntmps28
        go_wp2_with fail
        refine (less_any r r' _ hr hr').mono ?_
        rw [H1.out]
        rintro e w1 ⟨rfl, rfl⟩
        go_wp2
        go_ret
        exact ⟨rfl, HB.out⟩
    · rw [if_pos hn]
      go_enter Tryd.func28, Tryd.ntmps28
      go_wp2
      go_ret
      exact ⟨rfl, HB.out⟩
  · rw [if_pos hk]
    go_enter Tryd.func28, Tryd.ntmps28
    go_wp2
    go_ret
    exact ⟨rfl, HB.out⟩
theorem less_any (a b : V) (ha : a.r < 18446744073709551616) (hb : b.r < 18446744073709551616) (w : World) :
    Calls Tryd.prog 28 #[vv a, vv b] w fun e w' => e = .returned (.bool (less a b)) ∧ Below w.heap.size w w' :=
  less_at a.k b.k a.n b.n a.r b.r a.s b.s w ha hb
end Go.Proofs.YtbkaphcipbhmhaaDoor.Vn
