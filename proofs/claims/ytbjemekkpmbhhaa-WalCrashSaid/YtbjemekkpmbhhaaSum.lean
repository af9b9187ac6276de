/- The contracts of word.Sum and of what it calls: the CRC-32 of every text; all old memory is left alone. -/
import Derived.Test.YtbjemekkpmbhhaaProg
import Derived.Test.YtbjemekkpmbhhaaWc
import Derived.Deep.OwnRows
import Derived.Lib.Hide
import Derived.RegionTactic
import Derived.ChangeAlike
namespace Go.Proofs.Ytbjemekkpmbhhaa.WSum
open Go Go.RowKit Go.Proofs.Ytbjemekkpmbhhaa.Wm Go.Proofs.Ytbjemekkpmbhhaa.Wc
/-- The closure's round: cell 'half' of the table is made of two others. -/
theorem fill (b : Nat) (half lo xo : Nat) (x y z : Int) (w : World) (hh : half < 16) (hlo : lo < 16) (hxo : xo < 16)
    (hand : bits .and .i64 (half : Int) (-(half : Int)) = (lo : Int)) (hxor : bits .xor .i64 (half : Int) (lo : Int) = (xo : Int))
    (hx : w.cell? ⟨b, lo, none⟩ = some (.int .u32 x)) (hy : w.cell? ⟨b, xo, none⟩ = some (.int .u32 y)) (hz : w.cell? ⟨b, half, none⟩ = some (.int .u32 z))
    (hf : w.frozen? ⟨b, half, none⟩ = false) :
    Calls Try.prog 74 #[.int .i64 (half : Int), .pointer (some ⟨b, 0, none⟩)] w fun e w' => e = .returned (.tuple #[]) ∧ w' = (w.setCell ⟨b, half, none⟩ (.int .u32 (bits .xor .u32 x y))).drew := by
  go_enter Try.func74, Try.ntmps74
  go_wp2
  go_region
  all_goals (go_end0; exact ⟨rfl, rfl⟩)
/-- The lowest bit of half, and the rest of it. -/
def loN (k : Nat) : Nat := [0, 1, 2, 1, 4, 1, 2, 1, 8, 1, 2, 1, 4, 1, 2, 1].getD k 0
def xoN (k : Nat) : Nat := [0, 0, 0, 2, 0, 4, 4, 6, 0, 8, 8, 10, 8, 12, 12, 14].getD k 0
theorem and_neg : ∀ k : Nat, k < 16 → bits .and .i64 (k : Int) (-(k : Int)) = (loN k : Int) := by
  have h : ∀ k : Fin 16, bits .and .i64 ((k.val : Nat) : Int) (-((k.val : Nat) : Int)) = (loN k.val : Int) := by decide
  intro k hk; exact h ⟨k, hk⟩
theorem xor_lo : ∀ k : Nat, k < 16 → bits .xor .i64 (k : Int) (loN k : Int) = (xoN k : Int) := by
  have h : ∀ k : Fin 16, bits .xor .i64 ((k.val : Nat) : Int) (loN k.val : Int) = (xoN k.val : Int) := by decide
  intro k hk; exact h ⟨k, hk⟩
theorem lo_lt : ∀ k : Nat, k < 16 → loN k < 16 := by
  have h : ∀ k : Fin 16, loN k.val < 16 := by decide
  intro k hk; exact h ⟨k, hk⟩
theorem xo_lt : ∀ k : Nat, k < 16 → xoN k < 16 := by
  have h : ∀ k : Fin 16, xoN k.val < 16 := by decide
  intro k hk; exact h ⟨k, hk⟩
/-- Cell j of the table behind k rounds. -/
def tab (k j : Nat) : Nat := if j < k ∨ j = 1 ∨ j = 2 ∨ j = 4 ∨ j = 8 then tabN j else 0
/-- The table behind k rounds. -/
def row (k : Nat) : Array Value := #[.int .u32 (tab k 0), .int .u32 (tab k 1), .int .u32 (tab k 2), .int .u32 (tab k 3), .int .u32 (tab k 4), .int .u32 (tab k 5), .int .u32 (tab k 6), .int .u32 (tab k 7),
  .int .u32 (tab k 8), .int .u32 (tab k 9), .int .u32 (tab k 10), .int .u32 (tab k 11), .int .u32 (tab k 12), .int .u32 (tab k 13), .int .u32 (tab k 14), .int .u32 (tab k 15)]
theorem row_get (k : Nat) : ∀ j : Nat, j < 16 → (row k)[j]? = some (.int .u32 (tab k j)) := by
  intro j hj
  have h : j = 0 ∨ j = 1 ∨ j = 2 ∨ j = 3 ∨ j = 4 ∨ j = 5 ∨ j = 6 ∨ j = 7 ∨ j = 8 ∨ j = 9 ∨ j = 10 ∨ j = 11 ∨ j = 12 ∨ j = 13 ∨ j = 14 ∨ j = 15 := by omega
  rcases h with rfl | rfl | rfl | rfl | rfl | rfl | rfl | rfl | rfl | rfl | rfl | rfl | rfl | rfl | rfl | rfl <;> rfl
theorem row_size (k : Nat) : (row k).size = 16 := rfl
/-- What a round makes is what the next table has. -/
theorem tab_xor : ∀ k : Nat, k < 16 → tab k (loN k) ^^^ tab k (xoN k) = tab (k + 1) k := by
  have h : ∀ k : Fin 16, tab k.val (loN k.val) ^^^ tab k.val (xoN k.val) = tab (k.val + 1) k.val := by decide
  intro k hk; exact h ⟨k, hk⟩
theorem tab_other (k j : Nat) (h : j ≠ k) : tab (k + 1) j = tab k j := by
  unfold tab
  by_cases h1 : j < k ∨ j = 1 ∨ j = 2 ∨ j = 4 ∨ j = 8
  · rw [if_pos h1, if_pos (by omega)]
  · rw [if_neg h1, if_neg (by omega)]
theorem row_set (k : Nat) (hk : k < 16) : (row k).setIfInBounds k (.int .u32 (tab (k + 1) k)) = row (k + 1) := by
  apply Array.ext_getElem?
  intro j
  by_cases hj : j < 16
  · rw [Array.getElem?_setIfInBounds, row_get _ _ hj]
    by_cases e : k = j
    · subst e; rw [if_pos rfl, if_pos (by rw [row_size]; exact hk), row_get _ _ hk]
    · rw [if_neg e, row_get _ _ hj, tab_other k j (fun x => e x.symm)]
  · rw [Array.getElem?_eq_none (by rw [Array.size_setIfInBounds, row_size]; omega), Array.getElem?_eq_none (by rw [row_size]; omega)]
theorem tab_lt (k j : Nat) (hj : j < 16) : tab k j < 4294967296 := by
  unfold tab
  split
  · exact steps_lt 4 j (by omega)
  · omega
theorem infoT : (Try.prog.info? 105).map (·.size) = some 16 := by kernel_rfl
theorem undT : Try.prog.underlying 105 = some (.array 16 94) := by kernel_rfl
theorem infoR : (Try.prog.info? 105).map (·.size) = some (row 16).size := infoT
def zeros : Array Value := #[.int .u32 0, .int .u32 0, .int .u32 0, .int .u32 0, .int .u32 0, .int .u32 0, .int .u32 0, .int .u32 0, .int .u32 0, .int .u32 0, .int .u32 0, .int .u32 0, .int .u32 0, .int .u32 0, .int .u32 0, .int .u32 0]
theorem below_setRow {B : Nat} {a w : World} (h : Below B a w) {g : Nat} (hg : B ≤ g) (cs : Array Value) : Below B a (w.setRow g cs) :=
  h.trans ⟨rfl, rfl, rfl, by simp, fun k hk => setRow_other w g k cs (by omega)⟩
theorem rowOne : (row 16).all (·.oneCell') = true := by
  unfold row
  simp [Value.oneCell']
theorem zerosSize : zeros.size = (row 16).size := rfl
/-- What a round of the loop keeps. -/
structure Rel (w : World) (k : Nat) (wr : World) : Prop where
  le : k ≤ 16
  res : wr.heap[w.heap.size]? = some (.cells zeros 105 (0, 0))
  tbl : wr.heap[w.heap.size + 1]? = some (.cells (row k) 105 (0, 0))
  below : Below w.heap.size w wr
theorem Rel.start (w : World) : Rel w 0 ((w.alloc (.cells zeros 105)).alloc (.cells (row 0) 105)) :=
  ⟨by omega, heap_alloc2_old _ _ _, heap_alloc2_new _ _ _, ((Below.refl _ _).alloc (Nat.le_refl _) _).alloc (by simp) _⟩
theorem Rel.next {w wr : World} {k : Nat} (h : Rel w k wr) (hk : k < 16) : Rel w (k + 1) (wr.setCell ⟨w.heap.size + 1, k, none⟩ (.int .u32 (tab (k + 1) k))).drew :=
  ⟨by omega, by rw [heap_drew, heap_setCell_other _ _ _ _ (by simp)]; exact h.res,
   by rw [heap_drew, heap_setCell_same _ _ _ _ _ _ h.tbl, row_set k hk], (h.below.setCell (Nat.le_add_right _ _) _).drew⟩
theorem Rel.round {w wr : World} {k : Nat} (h : Rel w k wr) (hk : k < 16) :
    Calls Try.prog 74 #[.int .i64 (k : Int), .pointer (some ⟨w.heap.size + 1, 0, none⟩)] wr fun e w' => e = .returned (.tuple #[]) ∧ Rel w (k + 1) w' := by
  have hc := fun j hj => (cell_of_row wr (w.heap.size + 1) j _ _ _ h.tbl).trans (row_get k j hj)
  refine (fill (w.heap.size + 1) k (loN k) (xoN k) _ _ _ wr hk (lo_lt k hk) (xo_lt k hk) (and_neg k hk) (xor_lo k hk) (hc _ (lo_lt k hk)) (hc _ (xo_lt k hk)) (hc _ hk) (frozen_of_row _ _ _ _ _ h.tbl)).mono ?_
  rintro e w' ⟨rfl, rfl⟩
  refine ⟨rfl, ?_⟩
  rw [u32_xor_nat _ _ (tab_lt _ _ (lo_lt k hk)) (tab_lt _ _ (xo_lt k hk)), tab_xor k hk]
  exact h.next hk
set_option maxHeartbeats 1000000 in
theorem halves (w : World) :
    Calls Try.prog 73 #[] w fun e w' => e = .returned (.agg (row 16)) ∧ Below w.heap.size w w' := by
  go_enter Try.func73, Try.ntmps73
  go_wp2
  go_loopw [3, 6] (fun _ j wr => ∃ k : Nat, j = .int .i64 k ∧ Rel w k wr) (fun _ j _ => 16 - (intOf j).toNat)
  case atStart => exact ⟨0, rfl, Rel.start w⟩
  case round =>
    obtain ⟨k, rfl, hr⟩ := hrel
    have hle := hr.le
    by_cases hk : k < 16
    · go_wp2_with fail
      refine (hr.round hk).mono ?_
      rintro e w1 ⟨rfl, hr1⟩
      go_wp2
      go_roundw
      case rel => exact ⟨k + 1, by go_num, hr1⟩
      case measure => simp [intOf]; omega
    · obtain rfl : k = 16 := by omega
      clear hk hle
      have hTbl := hr.tbl
      have hRes := hr.res
      have hB := hr.below
      clear hr
      go_wp2_with (first
        | ((with_reducible refine wpList_load_row (o := ⟨some 13, _, _, _, _, _⟩) ?a1 105 (.tmp 1) ?a2 (w.heap.size + 1) ?a3 105 (row 16) (0, 0) _ hTbl undT ?a4 infoR ?a5); (case a1 => rfl); (case a2 => rfl); (case a3 => rfl); (case a4 => rfl))
        | ((with_reducible refine wpList_store_row (o := ⟨none, _, _, _, _, _⟩) ?b1 105 (.tmp 0) (.tmp 13) ?b2 w.heap.size (row 16) ?b3 ?b4 105 zeros hRes infoR ?b5 ?b6 ?b7); (case b1 => rfl); (case b2 => rfl); (case b3 => rfl); (case b4 => rfl); (case b5 => exact zerosSize); (case b6 => exact rowOne)))
      refine bodyPost_ret (v := .agg (row 16)) ?_ rfl ⟨rfl, below_setRow hB (Nat.le_refl _) _⟩
      exact results_cell_row rfl _ _ w.heap.size 105 (row 16) (0, 0) _ rfl (setRow_heap wr _ _ _ _ _ hRes) undT rfl infoR
theorem and15 (D i : Nat) (hD : D < 4294967296) (h : D % 16 = i) : bits .and .u32 (D : Int) 15 = (i : Int) := by
  have h2 := u32_and_nat D 15 hD (by omega)
  refine h2.trans ?_
  rw [nat_mask4, h]
theorem half_xor (D : Nat) (hD : D < 4294967296) : bits .xor .u32 (tabN (D % 16) : Int) ((D : Int) / 16) = (steps 4 D : Int) := by
  have h1 : tabN (D % 16) < 4294967296 := steps_lt 4 _ (by omega)
  have e : (D : Int) / 16 = ((D / 16 : Nat) : Int) := by omega
  rw [e, u32_xor_nat _ _ h1 (by omega), half_step]
theorem tab16 : ∀ c : Nat, c < 16 → tab 16 c = tabN c := by
  intro c hc; unfold tab; rw [if_pos (.inl hc)]
set_option maxHeartbeats 1000000 in
theorem sum_any (s : ByteArray) (w : World) (hs : s.size ≤ maxLen) :
    Calls Try.prog 65 #[.string s] w fun e w' => e = .returned (.int .u32 (crc s.data.toList)) ∧ Below w.heap.size w w' := by
  unfold maxLen at hs
  go_enter Try.func65, Try.ntmps65
  go_wp2_with fail
  refine (halves w).mono ?_
  unfold row
  rintro e w1 ⟨rfl, hb⟩
  go_wp2
  have hcell : ∀ c : Nat, c < 16 → (w1.alloc (.cells (row 16) 105)).cell? ⟨w1.heap.size, c, none⟩ = some (.int .u32 (tabN c : Int)) := fun c hc => by
    rw [cell_of_row _ _ _ _ _ _ (heap_alloc_new w1 _), row_get 16 c hc, tab16 c hc]
  have hbel : Below w.heap.size w (w1.alloc (.cells (row 16) 105)) := hb.alloc hb.size _
  change Code.wp _ _ _ _ (w1.alloc (.cells (row 16) 105))
  generalize w1.alloc (.cells (row 16) 105) = W at *
  have HC := Lib.hid hcell
  clear hcell
  go_loop [4, 5, 9] (fun v _ j => ∃ k C : Nat, k ≤ s.size ∧ j = .int .i64 k ∧ v = .int .u32 (C : Int) ∧ C < 4294967296 ∧ Hid (C = remd 4294967295 (s.data.toList.take k))) (fun _ _ j => s.size - (intOf j).toNat)
  case atStart => exact ⟨0, 4294967295, by omega, rfl, rfl, by omega, by rw [List.take_zero, remd_nil]; exact rfl⟩
  case round =>
    obtain ⟨k, C, hk, rfl, rfl, hC, HR⟩ := hrel
    by_cases hlt : k < s.size
    · have hb8 := (s[k]).toNat_lt
      obtain ⟨D, hD⟩ : ∃ D, D = C ^^^ (s[k]).toNat := ⟨_, rfl⟩
      have hDlt : D < 4294967296 := by rw [hD]; exact Nat.xor_lt_two_pow (n := 32) hC (by omega)
      have hx1 : bits .xor .u32 (C : Int) ((s[k]).toNat : Int) = (D : Int) := by rw [hD]; exact u32_xor_nat _ _ hC (by omega)
      have HD := Lib.hid hD
      clear hD
      obtain ⟨i1, hi1, hand1⟩ : ∃ i1 : Nat, i1 < 16 ∧ (D % 16 = i1) := ⟨_, Nat.mod_lt _ (by omega), rfl⟩
      have ha1 : bits .and .u32 (D : Int) 15 = (i1 : Int) := and15 D i1 hDlt hand1
      obtain ⟨t1, ht1⟩ : ∃ t1, t1 = tabN i1 := ⟨_, rfl⟩
      have hc1 := HC.out i1 hi1
      rw [← ht1] at hc1
      obtain ⟨E, hE⟩ : ∃ E, E = steps 4 D := ⟨_, rfl⟩
      have hElt : E < 4294967296 := by rw [hE]; exact steps_lt 4 D hDlt
      have hx2 : bits .xor .u32 (t1 : Int) ((D : Int) / 16) = (E : Int) := by rw [ht1, hE, ← hand1]; exact half_xor D hDlt
      obtain ⟨i2, hi2, hand2⟩ : ∃ i2 : Nat, i2 < 16 ∧ (E % 16 = i2) := ⟨_, Nat.mod_lt _ (by omega), rfl⟩
      have ha2 : bits .and .u32 (E : Int) 15 = (i2 : Int) := and15 E i2 hElt hand2
      obtain ⟨t2, ht2⟩ : ∃ t2, t2 = tabN i2 := ⟨_, rfl⟩
      have hc2 := HC.out i2 hi2
      rw [← ht2] at hc2
      obtain ⟨F, hF⟩ : ∃ F, F = steps 4 E := ⟨_, rfl⟩
      have hFlt : F < 4294967296 := by rw [hF]; exact steps_lt 4 E hElt
      have hx3 : bits .xor .u32 (t2 : Int) ((E : Int) / 16) = (F : Int) := by rw [ht2, hF, ← hand2]; exact half_xor E hElt
      have hfin : F = remd 4294967295 (s.data.toList.take (k + 1)) := by
        have hts : s.data.toList.take (k + 1) = s.data.toList.take k ++ [s[k]] := by
          rw [List.take_succ_eq_append_getElem (by simpa using hlt)]; rfl
        rw [hts, remd_snoc, ← HR.out, hF, hE, ← steps_add]
        unfold bstep
        rw [← HD.out]
      have HF := Lib.hid hfin
      clear hfin hF hE hand1 hand2 ht1 ht2
      go_wp2
      go_round
      case rel => exact ⟨k + 1, F, by omega, by go_num, rfl, hFlt, HF⟩
      case measure => simp [intOf]; omega
    · have hfin : C = remd 4294967295 s.data.toList := by
        have h := HR.out
        rw [List.take_of_length_le (by simp; omega)] at h
        exact h
      have HF := Lib.hid hfin
      clear hfin
      go_wp2
      go_ret
      refine ⟨ret_i ?_, hbel⟩
      rw [HF.out]
      have e : IntKind.u32.max = ((4294967295 : Nat) : Int) := by decide
      rw [e, u32_xor_nat _ _ (by omega) (remd_lt _ _ (by omega))]
      rfl
end Go.Proofs.Ytbjemekkpmbhhaa.WSum
