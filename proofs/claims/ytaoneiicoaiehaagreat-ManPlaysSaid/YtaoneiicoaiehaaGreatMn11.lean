/- The contract of man.manOf: the man that a text tells. -/
import Derived.Test.YtaoneiicoaiehaaGreatTx11
import Derived.Test.YtaoneiicoaiehaaGreatFb1
import Derived.Test.YtaoneiicoaiehaaGreatFb2
namespace Go.Proofs.YtaoneiicoaiehaaGreat.Mn11
open Go Go.RowKit Go.Lib Go.Proofs.YtaoneiicoaiehaaGreat Go.Proofs.YtaoneiicoaiehaaGreat.Wm Go.Proofs.YtaoneiicoaiehaaGreat.Fl7 Go.Proofs.YtaoneiicoaiehaaGreat.Ff7 Go.Proofs.YtaoneiicoaiehaaGreat.Ft7 Go.Proofs.YtaoneiicoaiehaaGreat.Dh Go.Proofs.YtaoneiicoaiehaaGreat.Nu11 Go.Proofs.YtaoneiicoaiehaaGreat.Ma11 Go.Proofs.YtaoneiicoaiehaaGreat.Tx11
/-- The next number, whether there is one, what is left. -/
def rv (t : List UInt8) : Nat := if t.length < 8 then 0 else getL (t.take 8)
def rk (t : List UInt8) : Bool := decide (8 ≤ t.length)
def ro (t : List UInt8) : List UInt8 := if t.length < 8 then t else t.drop 8
theorem rv_lt (t : List UInt8) : rv t < 18446744073709551616 := by
  unfold rv
  split
  · omega
  · have h := getL_lt (t.take 8)
    rw [List.length_take, Nat.min_eq_left (by omega)] at h
    exact h
set_option maxRecDepth 100000 in
theorem numbers_any (s : ByteArray) (w : World) :
    Calls Tryz.prog 92 #[.string s] w fun e w' => e = .returned (.func (.func 117) #[] #[.pointer (some ⟨w.heap.size, 0, none⟩)]) ∧ w' = w.alloc (.cells #[.string s] 9) := by
  go_enter Tryz.func92, Tryz.ntmps92
  go_wp2
  go_ret
  exact ⟨rfl, rfl⟩
set_option maxRecDepth 100000 in
theorem read_short (b : Nat) (t : List UInt8) (w : World) (h : w.cell? ⟨b, 0, none⟩ = some (.string (bs t))) (hl : t.length < 8) :
    Calls Tryz.prog 117 #[.pointer (some ⟨b, 0, none⟩)] w fun e w' => e = .returned (.tuple #[.int .u64 0, .bool false]) ∧ w' = w := by
  have hs : ((bs t).size : Int) < 8 := by rw [bs_size]; omega
  have hs2 : (bs t).size < 8 := by rw [bs_size]; omega
  go_enter Tryz.func117, Tryz.ntmps117
  go_wp2
  go_ret2
  exact ⟨rfl, rfl⟩
set_option maxRecDepth 100000 in
theorem read_long (b : Nat) (t : List UInt8) (w : World) (h : w.cell? ⟨b, 0, none⟩ = some (.string (bs t))) (hf : w.frozen? ⟨b, 0, none⟩ = false) (hl : 8 ≤ t.length) (hm : t.length ≤ 4294967296) :
    Calls Tryz.prog 117 #[.pointer (some ⟨b, 0, none⟩)] w fun e w' => e = .returned (.tuple #[.int .u64 (getL (t.take 8) : Nat), .bool true]) ∧ w' = w.setCell ⟨b, 0, none⟩ (.string (bs (t.drop 8))) := by
  have hg := WGet.ok ((bs t).extract 0 8) w (by rw [ByteArray.size_extract, bs_size]; omega) (by rw [ByteArray.size_extract, bs_size]; omega)
  rw [ex_list, bs_list, List.drop_zero] at hg
  have hd : (bs t).extract 8 t.length = bs (t.drop 8) := bs_drop t 8
  have HD := Lib.hid hd
  have HG := Lib.hid hg
  obtain ⟨x, hx⟩ : ∃ x, x = bs t := ⟨_, rfl⟩
  have hxs : x.size = t.length := by rw [hx, bs_size]
  obtain ⟨n, hn⟩ : ∃ n, n = t.length := ⟨_, rfl⟩
  rw [← hx] at h HG HD
  rw [← hn] at hxs hl hm HD
  clear hg hd hx hn
  have hs : ¬ (x.size : Int) < 8 := by omega
  go_enter Tryz.func117, Tryz.ntmps117
  go_wp2_with fail
  refine HG.out.mono ?_
  rintro e w1 ⟨rfl, rfl⟩
  have hd := HD.out
  go_wp2
  go_ret2
  exact ⟨rfl, by rw [← HD.out]⟩
/-- What stands there while a text is read: the answer's cell, the man's, the text that is left, the runs so far. -/
structure Mid (s : Nat) (w W : World) (t : List UInt8) (x y : Nat) (v : Value) (l : List Nat) : Prop where
  below : Below s w W
  size : s + 3 ≤ W.heap.size
  res : W.heap[s]? = some (.cells #[.int .u64 0, .slice none 0 0, .int .u64 0] 36)
  man : W.heap[s + 1]? = some (.cells #[.int .u64 (x : Int), v, .int .u64 (y : Int)] 36)
  box : W.heap[s + 2]? = some (.cells #[.string (bs t)] 9)
  own : Nu11.Own (s + 3) l v W
theorem own_set {B b i : Nat} {l : List Nat} {v u : Value} {W : World} (h : Nu11.Own B l v W) (hb : b < B) : Nu11.Own B l v (W.setCell ⟨b, i, none⟩ u) := by
  refine World.ownsRow.kept h (row := some b) ⟨rfl, rfl, rfl, by rw [setCell_size]; exact Nat.le_refl _, fun k _ hne => Below.heap_setCell W ⟨b, i, none⟩ u k (fun e => hne (by rw [e]))⟩ ?_
  rcases h.2 with ⟨rfl, _⟩ | ⟨g, cap, cur, rfl, hg, _⟩
  · exact .inl rfl
  · refine .inr fun e => ?_
    have : g = b := by simpa [Value.ownBlock] using e
    omega
theorem Mid.step {s : Nat} {w W : World} {t : List UInt8} {x y : Nat} {v : Value} {l : List Nat} (h : Mid s w W t x y v l) (t' : List UInt8) : Mid s w (W.setCell ⟨s + 2, 0, none⟩ (.string (bs t'))) t' x y v l := by
  refine ⟨h.below.setCell (p := ⟨s + 2, 0, none⟩) (Nat.le_add_right _ _) _, by rw [setCell_size]; exact h.size, ?_, ?_, ?_, own_set h.own (Nat.lt_succ_self _)⟩
  · rw [Below.heap_setCell W ⟨s + 2, 0, none⟩ _ s (by show s ≠ s + 2; omega)]; exact h.res
  · rw [Below.heap_setCell W ⟨s + 2, 0, none⟩ _ (s + 1) (by show s + 1 ≠ s + 2; omega)]; exact h.man
  · exact setCell_heap h.box 0 _
theorem Mid.wal {s : Nat} {w W : World} {t : List UInt8} {x y : Nat} {v : Value} {l : List Nat} (h : Mid s w W t x y v l) (x' : Nat) : Mid s w (W.setCell ⟨s + 1, 0, none⟩ (.int .u64 (x' : Int))) t x' y v l := by
  refine ⟨h.below.setCell (p := ⟨s + 1, 0, none⟩) (Nat.le_add_right _ _) _, by rw [setCell_size]; exact h.size, ?_, ?_, ?_, own_set h.own (by omega)⟩
  · rw [Below.heap_setCell W ⟨s + 1, 0, none⟩ _ s (by show s ≠ s + 1; omega)]; exact h.res
  · exact setCell_heap h.man 0 _
  · rw [Below.heap_setCell W ⟨s + 1, 0, none⟩ _ (s + 2) (by show s + 2 ≠ s + 1; omega)]; exact h.box
theorem Mid.next {s : Nat} {w W : World} {t : List UInt8} {x y : Nat} {v : Value} {l : List Nat} (h : Mid s w W t x y v l) (y' : Nat) : Mid s w (W.setCell ⟨s + 1, 2, none⟩ (.int .u64 (y' : Int))) t x y' v l := by
  refine ⟨h.below.setCell (p := ⟨s + 1, 2, none⟩) (Nat.le_add_right _ _) _, by rw [setCell_size]; exact h.size, ?_, ?_, ?_, own_set h.own (by omega)⟩
  · rw [Below.heap_setCell W ⟨s + 1, 2, none⟩ _ s (by show s ≠ s + 1; omega)]; exact h.res
  · exact setCell_heap h.man 2 _
  · rw [Below.heap_setCell W ⟨s + 1, 2, none⟩ _ (s + 2) (by show s + 2 ≠ s + 1; omega)]; exact h.box
/-- The runs so far, one more: what an append leaves, then stored. -/
theorem Mid.more {s : Nat} {w W W1 : World} {t : List UInt8} {x y : Nat} {v v' : Value} {l l' : List Nat} (h : Mid s w W t x y v l) (ho : Nu11.Own (s + 3) l' v' W1) (hb : Below (s + 3) W W1) : Mid s w (W1.setCell ⟨s + 1, 1, none⟩ v') t x y v' l' := by
  have hb1 := hb.block (s + 1) (by omega)
  refine ⟨(h.below.trans (hb.mono (Nat.le_add_right _ _))).setCell (p := ⟨s + 1, 1, none⟩) (Nat.le_add_right _ _) _, by rw [setCell_size]; exact Nat.le_trans h.size hb.size, ?_, ?_, ?_, own_set ho (by omega)⟩
  · rw [Below.heap_setCell W1 ⟨s + 1, 1, none⟩ _ s (by show s ≠ s + 1; omega), hb.block s (by omega)]; exact h.res
  · exact setCell_heap (hb1.trans h.man) 1 _
  · rw [Below.heap_setCell W1 ⟨s + 1, 1, none⟩ _ (s + 2) (by show s + 2 ≠ s + 1; omega), hb.block (s + 2) (by omega)]; exact h.box
theorem Mid.keep {s : Nat} {w W W1 : World} {t : List UInt8} {x y : Nat} {v : Value} {l : List Nat} (h : Mid s w W t x y v l) (hb : Below W.heap.size W W1) : Mid s w W1 t x y v l :=
  ⟨h.below.trans (hb.mono (Nat.le_trans (Nat.le_add_right _ _) h.size)), Nat.le_trans h.size hb.size, (hb.block _ (lt_of_at h.res)).trans h.res, (hb.block _ (lt_of_at h.man)).trans h.man, (hb.block _ (lt_of_at h.box)).trans h.box, h.own.keep hb⟩
theorem Mid.cells {s : Nat} {w W : World} {t : List UInt8} {x y : Nat} {v : Value} {l : List Nat} (h : Mid s w W t x y v l) :
    (W.cell? ⟨s, 0, none⟩ = some (.int .u64 0) ∧ W.cell? ⟨s, 1, none⟩ = some (.slice none 0 0) ∧ W.cell? ⟨s, 2, none⟩ = some (.int .u64 0)) ∧
    (W.cell? ⟨s + 1, 0, none⟩ = some (.int .u64 (x : Int)) ∧ W.cell? ⟨s + 1, 1, none⟩ = some v ∧ W.cell? ⟨s + 1, 2, none⟩ = some (.int .u64 (y : Int))) ∧
    (∀ i, W.frozen? ⟨s, i, none⟩ = false) ∧ ∀ i, W.frozen? ⟨s + 1, i, none⟩ = false := by
  refine ⟨⟨?_, ?_, ?_⟩, ⟨?_, ?_, ?_⟩, fun i => free_of h.res i, fun i => free_of h.man i⟩
  · rw [cell_of h.res]; rfl
  · rw [cell_of h.res]; rfl
  · rw [cell_of h.res]; rfl
  · rw [cell_of h.man]; rfl
  · rw [cell_of h.man]; rfl
  · rw [cell_of h.man]; rfl
/-- A number is read. -/
theorem read_mid {s : Nat} {w W : World} {t : List UInt8} {x y : Nat} {v : Value} {l : List Nat} (h : Mid s w W t x y v l) (hm : t.length ≤ 4294967296) :
    Calls Tryz.prog 117 #[.pointer (some ⟨s + 2, 0, none⟩)] W fun e W' => e = .returned (.tuple #[.int .u64 (rv t : Int), .bool (rk t)]) ∧ Mid s w W' (ro t) x y v l := by
  have hc : W.cell? ⟨s + 2, 0, none⟩ = some (.string (bs t)) := by rw [cell_of h.box]; rfl
  by_cases hl : t.length < 8
  · refine (read_short (s + 2) t W hc hl).mono ?_
    rintro e W' ⟨rfl, rfl⟩
    have e1 : rv t = 0 := by unfold rv; rw [if_pos hl]
    have e2 : rk t = false := by unfold rk; exact decide_eq_false (by omega)
    have e3 : ro t = t := by unfold ro; rw [if_pos hl]
    rw [e1, e2, e3]
    exact ⟨rfl, h⟩
  · refine (read_long (s + 2) t W hc (free_of h.box 0) (by omega) hm).mono ?_
    rintro e W' ⟨rfl, rfl⟩
    have e1 : rv t = getL (t.take 8) := by unfold rv; rw [if_neg hl]
    have e2 : rk t = true := by unfold rk; exact decide_eq_true (by omega)
    have e3 : ro t = t.drop 8 := by unfold ro; rw [if_neg hl]
    rw [e1, e2, e3]
    exact ⟨rfl, h.step _⟩
/-- The answer is stored. -/
theorem Mid.answer {s : Nat} {w W : World} {t : List UInt8} {x y : Nat} {v : Value} {l : List Nat} (h : Mid s w W t x y v l) (a b c : Value) :
    let W' := ((W.setCell ⟨s, 0, none⟩ a).setCell ⟨s, 1, none⟩ b).setCell ⟨s, 2, none⟩ c
    (W'.cell? ⟨s, 0, none⟩ = some a ∧ W'.cell? ⟨s, 1, none⟩ = some b ∧ W'.cell? ⟨s, 2, none⟩ = some c) ∧ Below s w W' ∧ Nu11.Own (s + 3) l v W' := by
  intro W'
  have hb : W'.heap[s]? = some (.cells #[a, b, c] 36) := setCell_heap (setCell_heap (setCell_heap h.res 0 a) 1 b) 2 c
  refine ⟨⟨?_, ?_, ?_⟩, ((h.below.setCell (p := ⟨s, 0, none⟩) (Nat.le_refl _) _).setCell (p := ⟨s, 1, none⟩) (Nat.le_refl _) _).setCell (p := ⟨s, 2, none⟩) (Nat.le_refl _) _, own_set (own_set (own_set h.own (by omega)) (by omega)) (by omega)⟩
  · rw [cell_of hb]; rfl
  · rw [cell_of hb]; rfl
  · rw [cell_of hb]; rfl
/-- What is left behind some numbers, and these numbers. -/
def rest (t : List UInt8) : Nat → List UInt8
  | 0 => t
  | j + 1 => ro (rest t j)
def rs (t : List UInt8) : Nat → List Nat
  | 0 => []
  | j + 1 => rs t j ++ [rv (rest t j)]
theorem rs_len (t : List UInt8) : ∀ j, (rs t j).length = j
  | 0 => rfl
  | j + 1 => by rw [rs, List.length_append, rs_len t j]; rfl
theorem rs_fits (t : List UInt8) : ∀ j, ∀ n ∈ rs t j, n < 18446744073709551616
  | 0, n, h => by cases h
  | j + 1, n, h => by
    rw [rs, List.mem_append] at h
    rcases h with h | h
    · exact rs_fits t j n h
    · rw [List.mem_singleton] at h
      rw [h]; exact rv_lt _
/-- The man that a text would tell. -/
def mo (t : List UInt8) : Man := ⟨rv t, rs (ro (ro (ro t))) (rv (ro (ro t))), rv (ro t)⟩
def full (t : List UInt8) : Prop := rk (ro (ro t)) = true ∧ ∀ j, j < rv (ro (ro t)) → rk (rest (ro (ro (ro t))) j) = true
def zeroV : Value := .agg #[.int .u64 0, .slice none 0 0, .int .u64 0]
/-- What manOf leaves. -/
def Tells (w : World) (t : List UInt8) (e : Ending) (w' : World) : Prop :=
  Below w.heap.size w w' ∧
  ((full t ∧ tx (mo t) = t ∧ ∃ A c, e = .returned (.tuple #[manV (mo t) A c, .bool true]) ∧ Nu11.Own w.heap.size (mo t).runs (.slice A (mo t).runs.length c) w') ∨
   (¬ (full t ∧ tx (mo t) = t) ∧ e = .returned (.tuple #[zeroV, .bool false])))
theorem ro_len (t : List UInt8) : (ro t).length ≤ t.length := by
  unfold ro
  split
  · exact Nat.le_refl _
  · rw [List.length_drop]; omega
theorem rest_len (t : List UInt8) : ∀ j, (∀ i, i < j → rk (rest t i) = true) → (rest t j).length + 8 * j = t.length
  | 0, _ => rfl
  | j + 1, h => by
    have ih := rest_len t j (fun i hi => h i (by omega))
    have hk : 8 ≤ (rest t j).length := of_decide_eq_true (h j (by omega))
    rw [rest, ro, if_neg (by omega), List.length_drop]
    omega
set_option maxHeartbeats 16000000 in
set_option maxRecDepth 100000 in
theorem manOf_any {t : List UInt8} (w : World) (hm : t.length ≤ 1073741824) :
    Calls Tryz.prog 66 #[.string (bs t)] w (Tells w t) := by
  obtain ⟨W0, hW0⟩ : ∃ W0, W0 = (w.alloc (.cells #[.int .u64 0, .slice none 0 0, .int .u64 0] 36)).alloc (.cells #[.int .u64 0, .slice none 0 0, .int .u64 0] 36) := ⟨_, rfl⟩
  have hs0 : W0.heap.size = w.heap.size + 2 := by rw [hW0, size_alloc, size_alloc]
  have hnum := numbers_any (bs t) W0
  have hmid : Mid w.heap.size w (W0.alloc (.cells #[.string (bs t)] 9)) t 0 0 (.slice none 0 0) [] := by
    have e1 : (W0.alloc (.cells #[.string (bs t)] 9)).heap.size = w.heap.size + 3 := by rw [size_alloc, hs0]
    refine ⟨?_, by rw [e1]; exact Nat.le_refl _, ?_, ?_, ?_, ⟨rfl, .inl ⟨rfl, rfl⟩⟩⟩
    · rw [hW0]; exact (((Below.refl _ _).alloc (Nat.le_refl _) _).alloc (by rw [size_alloc]; omega) _).alloc (by rw [size_alloc, size_alloc]; omega) _
    · rw [heap_alloc _ _ _ (by omega), hW0, heap_alloc _ _ _ (by rw [size_alloc]; omega), heap_new]
    · rw [heap_alloc _ _ _ (by omega), hW0]
      have hx := heap_new (w.alloc (.cells #[.int .u64 0, .slice none 0 0, .int .u64 0] 36)) (.cells #[.int .u64 0, .slice none 0 0, .int .u64 0] 36)
      rw [size_alloc] at hx; exact hx
    · have hx := heap_new W0 (.cells #[.string (bs t)] 9)
      rw [hs0] at hx; exact hx
  rw [hs0] at hnum
  subst hW0
  have HN := Lib.hid hnum
  have HM := Lib.hid hmid
  obtain ⟨s, hs⟩ : ∃ s, s = w.heap.size := ⟨_, rfl⟩
  have HS := Lib.hid hs
  clear hnum hmid hs0
  go_enter Tryz.func66, Tryz.ntmps66
  go_wp2_with fail
  refine HN.out.mono ?_
  rintro e w1 ⟨rfl, rfl⟩
  clear HN
  generalize (((w.alloc (.cells #[.int .u64 0, .slice none 0 0, .int .u64 0] 36)).alloc (.cells #[.int .u64 0, .slice none 0 0, .int .u64 0] 36)).alloc (.cells #[.string (bs t)] 9)) = W1 at HM ⊢
  rw [← hs] at HM ⊢
  clear hs
  have HR1 := Lib.hid (read_mid HM.out (by omega))
  clear HM
  go_wp2_with fail
  refine HR1.out.mono ?_
  rintro e w2 ⟨rfl, h2⟩
  have M2 := Lib.hid (h2.wal (rv t))
  obtain ⟨_, ⟨m0, m1, m2⟩, _, mf⟩ := h2.cells
  have mf0 := mf 0
  clear h2 HR1 mf
  go_wp2_with fail
  clear m0 m1 m2 mf0
  generalize w2.setCell ⟨s + 1, 0, none⟩ (.int .u64 (rv t : Int)) = w3 at M2 ⊢
  obtain ⟨t1, ht1⟩ : ∃ t1, t1 = ro t := ⟨_, rfl⟩
  have hl1 : t1.length ≤ 1073741824 := by rw [ht1]; exact Nat.le_trans (ro_len t) hm
  have HT1 := Lib.hid ht1
  rw [← ht1] at M2
  clear ht1
  have HR2 := Lib.hid (read_mid M2.out (by omega))
  refine HR2.out.mono ?_
  rintro e w4 ⟨rfl, h4⟩
  have M4 := Lib.hid (h4.next (rv t1))
  obtain ⟨_, ⟨m0, m1, m2⟩, _, mf⟩ := h4.cells
  have mf2 := mf 2
  clear h4 HR2 mf
  go_wp2_with fail
  clear m0 m1 m2 mf2
  generalize w4.setCell ⟨s + 1, 2, none⟩ (.int .u64 (rv t1 : Int)) = w5 at M4 ⊢
  obtain ⟨t2, ht2⟩ : ∃ t2, t2 = ro t1 := ⟨_, rfl⟩
  have hl2 : t2.length ≤ 1073741824 := by rw [ht2]; exact Nat.le_trans (ro_len t1) hl1
  have HT2 := Lib.hid ht2
  rw [← ht2] at M4
  clear ht2
  have HR3 := Lib.hid (read_mid M4.out (by omega))
  refine HR3.out.mono ?_
  rintro e w6 ⟨rfl, h6⟩
  obtain ⟨t3, ht3⟩ : ∃ t3, t3 = ro t2 := ⟨_, rfl⟩
  have hl3 : t3.length ≤ 1073741824 := by rw [ht3]; exact Nat.le_trans (ro_len t2) hl2
  have HT3 := Lib.hid ht3
  rw [← ht3] at h6
  clear ht3
  obtain ⟨C, hC⟩ : ∃ C, C = rv t2 := ⟨_, rfl⟩
  obtain ⟨b0, hb0⟩ : ∃ b0, b0 = rk t2 := ⟨_, rfl⟩
  have hCl : C < 18446744073709551616 := by rw [hC]; exact rv_lt _
  have hCb : 0 < C → b0 = true := by
    intro h
    rw [hb0]
    unfold rk
    refine decide_eq_true ?_
    rw [hC] at h
    unfold rv at h
    split at h
    · omega
    · omega
  have HC := Lib.hid hC
  have HB0 := Lib.hid hb0
  have HCB := Lib.hid hCb
  rw [← hC, ← hb0]
  have M6 := Lib.hid h6
  clear hC hb0 hCb h6 HR3
  obtain ⟨x, hx⟩ : ∃ x, x = rv t := ⟨_, rfl⟩
  obtain ⟨y, hy⟩ : ∃ y, y = rv t1 := ⟨_, rfl⟩
  have HX := Lib.hid hx
  have HY := Lib.hid hy
  rw [← hx, ← hy] at M6 ⊢
  clear hx hy
  go_wp2
  go_loopg [7, 29] (t3.length + 1) (fun g1 vb vj wr => ∃ (j : Nat) (v : Value), vj = .int .u64 (j : Int) ∧ vb = .bool b0 ∧ j ≤ C ∧ Hid (∀ i, i < j → rk (rest t3 i) = true) ∧ t3.length + 1 - 8 * j ≤ g1 ∧ 8 * j ≤ t3.length ∧ Hid (Mid s w wr (rest t3 j) x y v (rs t3 j)))
  case atStart => exact ⟨0, _, rfl, rfl, by omega, Lib.hid (fun i hi => by omega), by omega, by omega, M6⟩
  case round =>
    clear M6
    obtain ⟨j, v, rfl, rfl, hjC, HK, hg, hj8, HM⟩ := hrel
    by_cases hlt : j < C
    · have hltz : (j : Int) < (C : Int) := by omega
      have hln := rest_len t3 j HK.out
      have hrd := read_mid HM.out (by omega)
      obtain ⟨n, hn⟩ : ∃ n, n = rv (rest t3 j) := ⟨_, rfl⟩
      have HN := Lib.hid hn
      have HRD := Lib.hid hrd
      rw [← hn] at HRD
      clear hrd hn
      cases hk : rk (rest t3 j) with
      | false =>
        rw [hk] at HRD
        have HNF := Lib.hid (show ¬ (full t ∧ tx (mo t) = t) from fun h => by
          have := h.1.2 j (by rw [← HT1.out, ← HT2.out, ← HC.out]; exact hlt)
          rw [← HT1.out, ← HT2.out, ← HT3.out, hk] at this
          cases this)
        clear hk
        go_wp2_with fail
        refine HRD.out.mono ?_
        rintro e w7 ⟨rfl, h7⟩
        obtain ⟨⟨r0, r1, r2⟩, _, rf, _⟩ := h7.cells
        have rf0 := rf 0
        have rf1 := rf 1
        have rf2 := rf 2
        have H7 := Lib.hid h7
        clear h7 rf
        go_wp2
        obtain ⟨⟨z0, z1, z2⟩, zb, _⟩ := H7.out.answer (.int .u64 0) (.slice none 0 0) (.int .u64 0)
        generalize ((w7.setCell ⟨s, 0, none⟩ (.int .u64 0)).setCell ⟨s, 1, none⟩ (.slice none 0 0)).setCell ⟨s, 2, none⟩ (.int .u64 0) = w8 at z0 z1 z2 zb ⊢
        refine bodyPost_ret (v := .tuple #[zeroV, .bool false]) (by simp [results, Tryz.results66, go_sem, z0, z1, z2, zeroV]) rfl ?_
        exact ⟨by rw [← HS.out]; exact zb, .inr ⟨HNF.out, rfl⟩⟩
      | true =>
        rw [hk] at HRD
        have hk8 : 8 ≤ (rest t3 j).length := of_decide_eq_true hk
        have HKK := Lib.hid hk
        clear hk
        go_wp2_with fail
        refine HRD.out.mono ?_
        rintro e w7 ⟨rfl, h7⟩
        obtain ⟨_, ⟨m0, m1, m2⟩, _, mf⟩ := h7.cells
        have H7 := Lib.hid h7
        have hmade := own_made w7 [n] (by show 1 ≤ 1000; omega)
        have hnum : Nums (w7.alloc (.cells (Nu11.nums [n]).toArray 33)) (some ⟨w7.heap.size, 0, none⟩) [n] := Nu11.Own.nums hmade
        have HNUM := Lib.hid hnum
        clear h7 hmade hnum mf
        go_wp2_with (at_builtin; refine wpList_app (B := s + 3) (H := rs t3 j) (L := [n]) rfl _ _ rfl rfl rfl ?c1 ?c2 (fun h => by cases h) ?c3 ?c4 ?_)
        case c1 => exact H7.out.own.keep ((Below.refl _ _).alloc (Nat.le_refl _) _)
        case c2 => exact HNUM.out
        case c3 => rw [rs_len]; show j + 1 ≤ _; omega
        case c4 => rw [size_alloc]; have := H7.out.size; omega
        intro v' w8 hown hb8
        have hb9 : Below (s + 3) w7 w8 := ((Below.refl _ _).alloc H7.out.size _).trans hb8
        rcases hown.shape with ⟨_, h0⟩ | ⟨g, c', rfl, _⟩
        · simp at h0
        have H9 := Lib.hid (H7.out.more hown hb9)
        have e1 : (rs t3 j ++ [n]) = rs t3 (j + 1) := by rw [rs, ← HN.out]
        have k1 : w8.cell? ⟨s + 1, 1, none⟩ = some v := (hb9.cell (p := ⟨s + 1, 1, none⟩) (by show s + 1 < s + 3; omega)).trans m1
        have kf : w8.frozen? ⟨s + 1, 1, none⟩ = false := by
          have := free_of ((hb9.block (s + 1) (by omega)).trans H7.out.man) 1
          exact this
        clear hown hb8 hb9 m0 m1 m2 HNUM
        go_wp2
        go_roundg (t3.length + 1 - 8 * (j + 1))
        case measure => omega
        case rel =>
          refine ⟨j + 1, _, by go_num, by rw [HCB.out (by omega)], by omega, Lib.hid (fun i hi => ?_), Nat.le_refl _, by omega, by rw [← e1]; exact H9⟩
          by_cases e : i = j
          · rw [e]; exact HKK.out
          · exact HK.out i (by omega)
    · obtain rfl : j = C := by omega
      have hltz : ¬ (j : Int) < (j : Int) := by omega
      obtain ⟨⟨r0, r1, r2⟩, ⟨m0, m1, m2⟩, rf, _⟩ := HM.out.cells
      have rf0 := rf 0
      have rf1 := rf 1
      have rf2 := rf 2
      clear rf
      cases hb : b0 with
      | false =>
        have HNF := Lib.hid (show ¬ (full t ∧ tx (mo t) = t) from fun h => by
          have := h.1.1
          rw [← HT1.out, ← HT2.out, ← HB0.out, hb] at this
          cases this)
        clear hb
        go_wp2
        obtain ⟨⟨z0, z1, z2⟩, zb, _⟩ := HM.out.answer (.int .u64 0) (.slice none 0 0) (.int .u64 0)
        generalize ((wr.setCell ⟨s, 0, none⟩ (.int .u64 0)).setCell ⟨s, 1, none⟩ (.slice none 0 0)).setCell ⟨s, 2, none⟩ (.int .u64 0) = w8 at z0 z1 z2 zb ⊢
        refine bodyPost_ret (v := .tuple #[zeroV, .bool false]) (by simp [results, Tryz.results66, go_sem, z0, z1, z2, zeroV]) rfl ?_
        exact ⟨by rw [← HS.out]; exact zb, .inr ⟨HNF.out, rfl⟩⟩
      | true =>
        have hfull : full t := by
          refine ⟨by rw [← HT1.out, ← HT2.out, ← HB0.out]; exact hb, fun i hi => ?_⟩
          rw [← HT1.out, ← HT2.out, ← HC.out] at hi
          rw [← HT1.out, ← HT2.out, ← HT3.out]
          exact HK.out i hi
        have hmo : mo t = ⟨x, rs t3 j, y⟩ := by
          unfold mo
          rw [← HT1.out, ← HT2.out, ← HT3.out, ← HX.out, ← HY.out, ← HC.out]
        have HFULL := Lib.hid hfull
        have HMO := Lib.hid hmo
        have hxl : x < 18446744073709551616 := by rw [HX.out]; exact rv_lt _
        have hyl : y < 18446744073709551616 := by rw [HY.out]; exact rv_lt _
        have hshape : ∃ A c, v = .slice A (rs t3 j).length c ∧ Nums wr A (rs t3 j) ∧ (rs t3 j = [] → A = none ∧ c = 0 ∨ A ≠ none) := by
          rcases HM.out.own.shape with ⟨rfl, h0⟩ | ⟨g, c', rfl, _, h1, h2⟩
          · rw [h0]; exact ⟨none, 0, rfl, Nums.nil _ _, fun _ => .inl ⟨rfl, rfl⟩⟩
          · exact ⟨_, c', rfl, fun _ => ⟨g, 0, rfl, h1, fun k hk => by rw [Nat.zero_add]; exact (h2 k hk).1⟩, fun _ => .inr (by simp)⟩
        obtain ⟨A, c, rfl, hn1, hn2⟩ := hshape
        have htx := textOf_any (m := ⟨x, rs t3 j, y⟩) ⟨hn1, hn2, hxl, hyl, rs_fits t3 j⟩ (by show (rs t3 j).length ≤ _; rw [rs_len]; omega)
        rw [← hmo] at htx
        unfold manV at htx
        rw [hmo] at htx
        have HTX := Lib.hid htx
        clear htx hfull hmo hb hn1 hn2
        have HMK := fun W (hb : Below wr.heap.size wr W) => HM.out.keep hb
        go_wp2_with fail
        refine HTX.out.mono ?_
        rintro e w7 ⟨rfl, hb⟩
        have h7 := HMK w7 hb
        obtain ⟨⟨r0, r1, r2⟩, ⟨m0, m1, m2⟩, rf, _⟩ := h7.cells
        have rf0 := rf 0
        have rf1 := rf 1
        have rf2 := rf 2
        have H7 := Lib.hid h7
        clear h7 hb HMK HTX rf
        by_cases heq : tx ⟨x, rs t3 j, y⟩ = t
        · have HEQ := Lib.hid (show tx (mo t) = t from by rw [HMO.out]; exact heq)
          rw [heq]
          clear heq
          go_wp2
          obtain ⟨⟨z0, z1, z2⟩, zb, zo⟩ := H7.out.answer (.int .u64 (x : Int)) (.slice A (rs t3 j).length c) (.int .u64 (y : Int))
          have ZO := Lib.hid zo
          clear zo
          generalize ((w7.setCell ⟨s, 0, none⟩ (.int .u64 (x : Int))).setCell ⟨s, 1, none⟩ (.slice A (rs t3 j).length c)).setCell ⟨s, 2, none⟩ (.int .u64 (y : Int)) = w8 at z0 z1 z2 zb ZO ⊢
          refine bodyPost_ret (v := .tuple #[manV ⟨x, rs t3 j, y⟩ A c, .bool true]) (by simp [results, Tryz.results66, go_sem, z0, z1, z2, manV]) rfl ?_
          refine ⟨by rw [← HS.out]; exact zb, .inl ⟨HFULL.out, HEQ.out, A, c, by rw [HMO.out], ?_⟩⟩
          rw [HMO.out, ← HS.out]
          have zo := ZO.out
          refine ⟨zo.1, ?_⟩
          rcases zo.2 with h | ⟨g, cap, cur, h1, h2, h3⟩
          · exact .inl h
          · exact .inr ⟨g, cap, cur, h1, Nat.le_trans (Nat.le_add_right _ _) h2, h3⟩
        · have HNF := Lib.hid (show ¬ (full t ∧ tx (mo t) = t) from fun h => heq (by rw [← HMO.out]; exact h.2))
          have hne : ¬ (bs (tx ⟨x, rs t3 j, y⟩)).toList = (bs t).toList := fun e => heq (bs_inj (Rs7.bytes_inj e))
          have hneb : ((bs (tx ⟨x, rs t3 j, y⟩)).toList == (bs t).toList) = false := by simpa using hne
          clear heq
          generalize bs (tx ⟨x, rs t3 j, y⟩) = T at hne hneb ⊢
          go_wp2
          obtain ⟨⟨z0, z1, z2⟩, zb, _⟩ := H7.out.answer (.int .u64 0) (.slice none 0 0) (.int .u64 0)
          generalize ((w7.setCell ⟨s, 0, none⟩ (.int .u64 0)).setCell ⟨s, 1, none⟩ (.slice none 0 0)).setCell ⟨s, 2, none⟩ (.int .u64 0) = w8 at z0 z1 z2 zb ⊢
          refine bodyPost_ret (v := .tuple #[zeroV, .bool false]) (by simp [results, Tryz.results66, go_sem, z0, z1, z2, zeroV]) rfl ?_
          exact ⟨by rw [← HS.out]; exact zb, .inr ⟨HNF.out, rfl⟩⟩
end Go.Proofs.YtaoneiicoaiehaaGreat.Mn11
