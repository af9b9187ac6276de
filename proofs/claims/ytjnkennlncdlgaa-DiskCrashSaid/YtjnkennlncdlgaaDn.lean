/- The walk of DiskNil. -/
import Derived.Test.YtjnkennlncdlgaaNn
import Derived.Test.YtjnkennlncdlgaaHv
namespace Go.Proofs.Ytjnkennlncdlgaa.Dn
open Go Go.RowKit Go.Lib Go.Proofs.Ytjnkennlncdlgaa.Dh Go.Proofs.Ytjnkennlncdlgaa.Nn
abbrev stepV (o : Int) (x y : ByteArray) (n m : Int) : Value := .agg #[.int .i64 o, .string x, .string y, .int .i64 n, .int .i64 m]
abbrev stepO (o : Int) (x y : ByteArray) (n m : Int) : Obj := .cells #[.int .i64 o, .string x, .string y, .int .i64 n, .int .i64 m] 31 (0, 0)
set_option maxRecDepth 20000 in
theorem call_nil (w : World) (o : Int) (x y : ByteArray) (n m : Int) :
    Calls Try.prog 10 #[no, stepV o x y n m] w fun e w' => e = .returned (.int .i64 1) ∧ Below w.heap.size w w' := by
  have hb : Below w.heap.size w (w.alloc (stepO o x y n m)) := (Below.refl _ _).alloc (Nat.le_refl _) _
  have HB := Lib.hid hb
  have HT : Hid (∀ w', Below (w.alloc (stepO o x y n m)).heap.size (w.alloc (stepO o x y n m)) w' → Below w.heap.size w w') := Lib.hid fun w' h => hb.trans (h.mono (by rw [size_alloc]; omega))
  clear hb
  by_cases h1 : o = 1
  · subst h1
    go_enter Try.func10, Try.ntmps10
    go_wp2_with (go_at_call 23; refine (append_nil _ _ _).mono ?_; rintro e w1 ⟨rfl, hx⟩; have HX := Lib.hid (HT.out _ hx); clear hx)
    go_ret
    exact ⟨rfl, (by assumption : Hid (Below w.heap.size w _)).out⟩
  have e1 : (o == 1) = false := by simp [h1]
  by_cases h2 : o = 2
  · subst h2
    go_enter Try.func10, Try.ntmps10
    go_wp2_with (go_at_call 27; refine (truncate_nil _ _ _).mono ?_; rintro e w1 ⟨rfl, hx⟩; have HX := Lib.hid (HT.out _ hx); clear hx)
    go_ret
    exact ⟨rfl, (by assumption : Hid (Below w.heap.size w _)).out⟩
  have e2 : (o == 2) = false := by simp [h2]
  by_cases h3 : o = 3
  · subst h3
    go_enter Try.func10, Try.ntmps10
    go_wp2_with (go_at_call 24; refine (rename_nil _ _ _).mono ?_; rintro e w1 ⟨rfl, hx⟩; have HX := Lib.hid (HT.out _ hx); clear hx)
    go_ret
    exact ⟨rfl, (by assumption : Hid (Below w.heap.size w _)).out⟩
  have e3 : (o == 3) = false := by simp [h3]
  clear h1 h2 h3
  go_enter Try.func10, Try.ntmps10
  go_wp2_with (go_at_call 28; refine (remove_nil _ _).mono ?_; rintro e w1 ⟨rfl, hx⟩; have HX := Lib.hid (HT.out _ hx); clear hx)
  go_ret
  exact ⟨rfl, (by assumption : Hid (Below w.heap.size w _)).out⟩
/-- The step's own block is as it was laid. -/
def Kept (w : World) (o : Int) (x y : ByteArray) (n m : Int) (v : World) : Prop := Below (w.heap.size + 1) (w.alloc (stepO o x y n m)) v
theorem Kept.next {w v u : World} {o : Int} {x y : ByteArray} {n m : Int} (h : Kept w o x y n m v) (k : Below v.heap.size v u) : Kept w o x y n m u :=
  Below.trans h (k.mono (by have := h.size; rw [size_alloc] at this; omega))
theorem Kept.cells {w v : World} {o : Int} {x y : ByteArray} {n m : Int} (h : Kept w o x y n m v) :
    v.cell? ⟨w.heap.size, 0, none⟩ = some (.int .i64 o) ∧ v.cell? ⟨w.heap.size, 1, none⟩ = some (.string x) ∧ v.cell? ⟨w.heap.size, 2, none⟩ = some (.string y) ∧ v.cell? ⟨w.heap.size, 3, none⟩ = some (.int .i64 n) ∧ v.cell? ⟨w.heap.size, 4, none⟩ = some (.int .i64 m) := by
  have hb : v.heap[w.heap.size]? = some (stepO o x y n m) := (h.block _ (by omega)).trans (heap_new w _)
  exact ⟨cell_of hb 0, cell_of hb 1, cell_of hb 2, cell_of hb 3, cell_of hb 4⟩
theorem Kept.below {w v : World} {o : Int} {x y : ByteArray} {n m : Int} (h : Kept w o x y n m v) : Below w.heap.size w v :=
  ((Below.refl _ _).alloc (Nat.le_refl _) _).trans (h.mono (by omega))
theorem first (w : World) (o : Int) (x y : ByteArray) (n m : Int) : Kept w o x y n m ((w.alloc (stepO o x y n m)).alloc (stepO o x y n m)) := (Below.refl _ _).alloc (by rw [size_alloc]; omega) _
set_option maxRecDepth 40000 in
set_option maxHeartbeats 4000000 in
theorem walk (o : Int) (x y : ByteArray) (n m : Int) (w : World) :
    Calls Try.prog 5 #[stepV o x y n m] w fun e w' => e = .returned (.bool true) ∧ Below w.heap.size w w' := by
  have K0 := Lib.hid (first w o x y n m)
  have hnew := heap_new (w.alloc (stepO o x y n m)) (stepO o x y n m)
  rw [size_alloc] at hnew
  have HH := Lib.hid (Hv.one ((w.alloc (stepO o x y n m)).alloc (stepO o x y n m)) (w.heap.size + 1) x y (cell_of hnew 1) (cell_of hnew 2))
  clear hnew
  go_enter Try.func5, Try.ntmps5
  go_wp2_with fail
  refine HH.out.mono ?_
  rintro e w1 ⟨⟨r, rfl⟩, h1⟩
  have K1 := Lib.hid (K0.out.next h1)
  clear h1
  cases r with
  | true =>
    go_wp2_with fail
    refine (Av.alive_any _).mono ?_
    rintro e w2 ⟨rfl, h2⟩
    have K2 := Lib.hid (K1.out.next h2)
    clear h2
    go_wp2
    go_ret
    exact ⟨rfl, K2.out.below⟩
  | false =>
    obtain ⟨a0, a1, a2, a3, a4⟩ := K1.out.cells
    go_wp2_with fail
    refine (read_nil _ _ _ _).mono ?_
    rintro e w2 ⟨rfl, h2⟩
    have K2 := Lib.hid (K1.out.next h2)
    clear h2 a0 a1 a2 a3 a4
    obtain ⟨a0, a1, a2, a3, a4⟩ := K2.out.cells
    go_wp2_with fail
    refine (size_nil _ _).mono ?_
    rintro e w3 ⟨rfl, h3⟩
    have K3 := Lib.hid (K2.out.next h3)
    clear h3 a0 a1 a2 a3 a4
    obtain ⟨a0, a1, a2, a3, a4⟩ := K3.out.cells
    go_wp2_with fail
    refine (call_nil _ _ _ _ _ _).mono ?_
    rintro e w4 ⟨rfl, h4⟩
    have K4 := Lib.hid (K3.out.next h4)
    clear h4 a0 a1 a2 a3 a4
    obtain ⟨a0, a1, a2, a3, a4⟩ := K4.out.cells
    go_wp2_with (first
      | (go_at_call 11; refine (sync_nil _).mono ?_; rintro e w5 ⟨rfl, rfl⟩)
      | (go_at_call 20; refine (names_nil _).mono ?_; rintro e w5 ⟨rfl, rfl⟩)
      | (go_at_call 17; refine (used_nil _).mono ?_; rintro e w5 ⟨rfl, rfl⟩)
      | (go_at_call 12; refine (loose_nil _).mono ?_; rintro e w5 ⟨rfl, rfl⟩)
      | (go_at_call 21; refine (room_nil _ _).mono ?_; rintro e w5 ⟨rfl, rfl⟩)
      | (go_at_call 16; refine (fuse_nil _ _).mono ?_; rintro e w5 ⟨rfl, rfl⟩)
      | (go_at_call 13; refine (crash_nil _ _ _).mono ?_; rintro e w5 ⟨rfl, rfl⟩)
      | (go_at_call 22; refine (flip_nil _ _ _ _).mono ?_; rintro e w5 ⟨rfl, h5⟩; have K5 := Lib.hid (K4.out.next h5); clear h5)
      | (go_at_call 7; refine (Av.alive_any _).mono ?_; rintro e w6 ⟨rfl, h6⟩; have K6 := Lib.hid ((by assumption : Hid (Kept w o x y n m _)).out.next h6); clear h6))
    go_ret
    refine ⟨rfl, Kept.below (o := o) (x := x) (y := y) (n := n) (m := m) (Hid.out ?_)⟩
    assumption
end Go.Proofs.Ytjnkennlncdlgaa.Dn
