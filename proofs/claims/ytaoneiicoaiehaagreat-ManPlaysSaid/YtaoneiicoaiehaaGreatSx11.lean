/- slices.Sort of a row of 64-bit numbers: what stands at each step. -/
import Derived.Test.YtaoneiicoaiehaaGreatDb1
import Derived.Sort.LotD3
import Derived.Sort.LotA
import Derived.Sort.LotB
import Derived.Sort.LotC
import Derived.Sort.Row
import Derived.Deep.LoopGhost
import Derived.Deep.QuietTactic
import Derived.BigQuiet
import Derived.BigRegion
import Derived.BigGuard
import Derived.BigCall
import Derived.CellFam
import Derived.Deep.Draws
namespace Go.Proofs.YtaoneiicoaiehaaGreat.Sx11
open Go Go.RowKit Go.Lib Go.Sort Go.Proofs.YtaoneiicoaiehaaGreat.Dh
/-- A world behind w, in which the row at block b holds d; no other old block was touched. -/
structure Srt (w0 w : World) (b off : Nat) (d : Array Int) : Prop where
  tread : Tread (fun k => k = b) w0 w
  old : b < w0.heap.size
  row : ∀ t, t < d.size → w.cell? ⟨b, off + t, none⟩ = some (.int .u64 d[t]!) ∧ w.frozen? ⟨b, off + t, none⟩ = false
variable {w0 w : World} {b off : Nat} {d : Array Int}
theorem cell_drewN (w : World) (n : Nat) (a : Addr) : (w.drewN n).cell? a = w.cell? a := rfl
theorem frozen_drewN (w : World) (n : Nat) (a : Addr) : (w.drewN n).frozen? a = w.frozen? a := rfl
theorem Srt.drewN (h : Srt w0 w b off d) (n : Nat) : Srt w0 (w.drewN n) b off d :=
  ⟨⟨h.tread.os, h.tread.tape, h.tread.output, h.tread.size, h.tread.block⟩, h.old, h.row⟩
theorem Srt.drew (h : Srt w0 w b off d) : Srt w0 w.drew b off d := h.drewN 1
theorem Srt.lt (h : Srt w0 w b off d) : b < w.heap.size := Nat.lt_of_lt_of_le h.old h.tread.size
theorem Srt.alloc (h : Srt w0 w b off d) (o : Obj) : Srt w0 (w.alloc o) b off d := by
  refine ⟨(h.tread.trans (Tread.alloc _ _ _)), h.old, fun t ht => ?_⟩
  have hb := heap_alloc w o b h.lt
  simp only [World.cell?, World.frozen?, hb]
  exact h.row t ht
/-- A store in another block, that is new. -/
theorem Srt.store (h : Srt w0 w b off d) (c i : Nat) (v : Value) (hc : w0.heap.size ≤ c) : Srt w0 (w.setCell ⟨c, i, none⟩ v) b off d := by
  have hne : c ≠ b := by have := h.old; omega
  refine ⟨⟨h.tread.os, h.tread.tape, h.tread.output, by rw [setCell_size]; exact h.tread.size, fun k hk hn => ?_⟩, h.old, fun t ht => ?_⟩
  · rw [Below.heap_setCell w ⟨c, i, none⟩ v k (by show k ≠ c; omega)]; exact h.tread.block k hk hn
  · rw [World.cell?_setCell_other _ _ _ _ (by intro e; simp only [Addr.mk.injEq] at e; exact hne e.1), World.frozen?_setCell]
    exact h.row t ht
/-- Two places change their numbers. -/
theorem Srt.swap (h : Srt w0 w b off d) (i j : Nat) (hi : i < d.size) (hj : j < d.size) :
    Srt w0 ((w.setCell ⟨b, off + i, none⟩ (.int .u64 d[j]!)).setCell ⟨b, off + j, none⟩ (.int .u64 d[i]!)) b off (swp d i j) := by
  refine ⟨(h.tread.trans (Tread.setCell _ _ _ (.inl rfl))).trans (Tread.setCell _ _ _ (.inl rfl)), h.old, fun t ht => ?_⟩
  rw [size_swp] at ht
  rw [World.frozen?_setCell, World.frozen?_setCell]
  refine ⟨?_, (h.row t ht).2⟩
  by_cases e : t = j
  · subst e
    rw [swp_right d i t hj]
    by_cases e2 : i = t
    · subst e2
      exact World.cell?_setCell_same _ _ _ (World.cell?_setCell_same _ _ _ (h.row i hi).1)
    · exact World.cell?_setCell_same _ _ _ ((World.cell?_setCell_other _ _ _ _ (by intro e; simp only [Addr.mk.injEq] at e; omega)).trans (h.row t ht).1)
  · rw [World.cell?_setCell_other _ _ _ _ (by intro e'; simp only [Addr.mk.injEq] at e'; omega)]
    by_cases e2 : t = i
    · subst e2
      rw [swp_left d t j hi e]
      exact World.cell?_setCell_same _ _ _ (h.row t ht).1
    · rw [World.cell?_setCell_other _ _ _ _ (by intro e'; simp only [Addr.mk.injEq] at e'; omega), swp_other d i j t e2 e]
      exact (h.row t ht).1
/-- From one call to the next. -/
theorem Srt.trans {w1 : World} {d1 : Array Int} (h : Srt w0 w b off d) (k : Srt w w1 b off d1) : Srt w0 w1 b off d1 :=
  ⟨h.tread.trans (k.tread.mono fun _ hx => .inl hx), h.old, k.row⟩
theorem Srt.here (h : Srt w0 w b off d) : Srt w w b off d := ⟨Tread.refl _ _, h.lt, h.row⟩
/-- The row's numbers under a name, as a walk wants them. -/
theorem Srt.fam (h : Srt w0 w b off d) : ∃ G : Nat → Int, (∀ t, G t = d[t]!) ∧ (∀ t, t < d.size → w.cell? ⟨b, off + t, none⟩ = some (.int .u64 (G t))) ∧ ∀ t, t < d.size → w.frozen? ⟨b, off + t, none⟩ = false :=
  ⟨fun t => d[t]!, fun _ => rfl, fun t ht => (h.row t ht).1, fun t ht => (h.row t ht).2⟩
theorem Srt.fams (h : Srt w0 w b off d) {G : Nat → Int} (hG : ∀ t, G t = d[t]!) {n : Nat} (hn : d.size = n) : (∀ t, t < n → w.cell? ⟨b, off + t, none⟩ = some (.int .u64 (G t))) ∧ ∀ t, t < n → w.frozen? ⟨b, off + t, none⟩ = false := by
  subst hn
  exact ⟨fun t ht => by rw [hG]; exact (h.row t ht).1, fun t ht => (h.row t ht).2⟩
theorem Srt.swapd (h : Srt w0 w b off d) (i j : Nat) (hi : i < d.size) (hj : j < d.size) :
    Srt w0 ((w.setCell ⟨b, off + i, none⟩ (.int .u64 d[j]!)).setCell ⟨b, off + j, none⟩ (.int .u64 d[i]!)).drew b off (swp d i j) := (h.swap i j hi hj).drew
/-- Behind the first store the second place holds something still (the two may be one). -/
theorem Srt.again (h : Srt w0 w b off d) (i j : Nat) (hi : i < d.size) (hj : j < d.size) (v : Value) : ∃ u, (w.setCell ⟨b, off + i, none⟩ v).cell? ⟨b, off + j, none⟩ = some u := by
  by_cases e : i = j
  · subst e
    exact ⟨v, World.cell?_setCell_same _ _ _ (h.row i hi).1⟩
  · exact ⟨_, (World.cell?_setCell_other _ _ _ _ (by intro e'; simp only [Addr.mk.injEq] at e'; omega)).trans (h.row j hj).1⟩
set_option maxHeartbeats 1000000 in
theorem nan_any (x : Int) (w : World) : Calls Tryz.prog 124 #[.int .u64 x] w fun e w' => e = .returned (.bool false) ∧ w' = w := by
  go_enter Tryz.func124, Tryz.ntmps124
  go_wp2
  go_ret
  exact ⟨by simp, rfl⟩
set_option maxHeartbeats 1000000 in
theorem less_any (x y : Int) (w : World) : Calls Tryz.prog 99 #[.int .u64 x, .int .u64 y] w fun e w' => e = .returned (.bool (ltInt x y)) ∧ w' = w := by
  go_enter Tryz.func99, Tryz.ntmps99
  go_wp2_with (go_at_call 124; refine (nan_any _ _).mono ?_; rintro e w' ⟨rfl, rfl⟩)
  go_ret
  exact ⟨rfl, rfl⟩
end Go.Proofs.YtaoneiicoaiehaaGreat.Sx11
