/- The document's own answers for values: May, Row, Same, Copy of package fascicleref04, and the law's Long. -/
import Derived.Test.YtbkaphcipbhmhaaDoorVa
namespace Go.Proofs.YtbkaphcipbhmhaaDoor.Vf
open Go Go.RowKit Go.Proofs.YtbkaphcipbhmhaaDoor.Vm Go.Proofs.YtbkaphcipbhmhaaDoor.Vl Go.Proofs.YtbkaphcipbhmhaaDoor.Ve Go.Proofs.YtbkaphcipbhmhaaDoor.Vr Go.Proofs.YtbkaphcipbhmhaaDoor.Vs Go.Proofs.YtbkaphcipbhmhaaDoor.Vc Go.Proofs.YtbkaphcipbhmhaaDoor.Vk
theorem eqI_of {k n R k' n' R' : Int} {s s' : ByteArray} : eqI k n R s k' n' R' s' = true ↔ k = k' ∧ n = n' ∧ R = R' ∧ s = s' := by
  unfold eqI
  simp only [Bool.and_eq_true, beq_iff_eq]
  exact ⟨fun ⟨a, b, c, d⟩ => ⟨a, b, c, bytes_ext d⟩, fun ⟨a, b, c, d⟩ => ⟨a, b, c, by rw [d]⟩⟩
theorem bool_iff {a b : Bool} (h : a = true ↔ b = true) : a = b := by
  cases a <;> cases b <;> simp_all
set_option maxRecDepth 20000 in
theorem ref0 (n : Int) (r : Nat) (s : ByteArray) (w : World) :
    Calls Tryd.prog 33 #[.agg #[.int .u8 0, .int .i64 n, .int .u64 (r : Int), .string s]] w fun e w' => e = .returned (.bool (eqI 0 n r s 0 0 0 ⟨#[]⟩ && decide ((s.size : Int) ≤ 100))) ∧ Below w.heap.size w w' := by
  have he := run_eqI 0 n r s 0 0 0 ⟨#[]⟩
  cases hB : eqI 0 n r s 0 0 0 ⟨#[]⟩
  · rw [hB] at he
    clear hB
    rw [Bool.false_and]
    go_enter Tryd.func33, Tryd.ntmps33
    go_wp2
    go_ret
    exact ⟨rfl, ((Below.refl w.heap.size w).alloc (Nat.le_refl _) _).alloc (by simp) _⟩
  · rw [hB] at he
    clear hB
    rw [Bool.true_and]
    go_enter Tryd.func33, Tryd.ntmps33
    go_wp2
    go_ret
    exact ⟨rfl, ((Below.refl w.heap.size w).alloc (Nat.le_refl _) _).alloc (by simp) _⟩
set_option maxRecDepth 20000 in
theorem ref1a (r : Nat) (s : ByteArray) (w : World) :
    Calls Tryd.prog 33 #[.agg #[.int .u8 1, .int .i64 0, .int .u64 (r : Int), .string s]] w fun e w' => e = .returned (.bool (eqI 1 0 r s 1 0 0 ⟨#[]⟩ && decide ((s.size : Int) ≤ 100))) ∧ Below w.heap.size w w' := by
  have he := run_eqI 1 0 r s 1 0 0 ⟨#[]⟩
  cases hB : eqI 1 0 r s 1 0 0 ⟨#[]⟩
  · rw [hB] at he
    clear hB
    rw [Bool.false_and]
    skip
    go_enter Tryd.func33, Tryd.ntmps33
    go_wp2
    go_ret
    exact ⟨rfl, ((Below.refl w.heap.size w).alloc (Nat.le_refl _) _).alloc (by simp) _⟩
  · rw [hB] at he
    clear hB
    rw [Bool.true_and]
    skip
    go_enter Tryd.func33, Tryd.ntmps33
    go_wp2
    go_ret
    exact ⟨rfl, ((Below.refl w.heap.size w).alloc (Nat.le_refl _) _).alloc (by simp) _⟩
set_option maxRecDepth 20000 in
theorem ref1b (r : Nat) (s : ByteArray) (w : World) :
    Calls Tryd.prog 33 #[.agg #[.int .u8 1, .int .i64 1, .int .u64 (r : Int), .string s]] w fun e w' => e = .returned (.bool (eqI 1 1 r s 1 1 0 ⟨#[]⟩ && decide ((s.size : Int) ≤ 100))) ∧ Below w.heap.size w w' := by
  have he := run_eqI 1 1 r s 1 1 0 ⟨#[]⟩
  cases hB : eqI 1 1 r s 1 1 0 ⟨#[]⟩
  · rw [hB] at he
    clear hB
    rw [Bool.false_and]
    skip
    go_enter Tryd.func33, Tryd.ntmps33
    go_wp2
    go_ret
    exact ⟨rfl, ((Below.refl w.heap.size w).alloc (Nat.le_refl _) _).alloc (by simp) _⟩
  · rw [hB] at he
    clear hB
    rw [Bool.true_and]
    skip
    go_enter Tryd.func33, Tryd.ntmps33
    go_wp2
    go_ret
    exact ⟨rfl, ((Below.refl w.heap.size w).alloc (Nat.le_refl _) _).alloc (by simp) _⟩
set_option maxRecDepth 20000 in
theorem ref1n (n : Int) (r : Nat) (s : ByteArray) (w : World) (h0 : ¬ n = 0) (h1 : ¬ n = 1) :
    Calls Tryd.prog 33 #[.agg #[.int .u8 1, .int .i64 n, .int .u64 (r : Int), .string s]] w fun e w' => e = .returned (.bool false) ∧ Below w.heap.size w w' := by
  have b0 : (n != 0) = true := by simpa using h0
  have b1 : (n != 1) = true := by simpa using h1
  go_enter Tryd.func33, Tryd.ntmps33
  go_wp2
  go_ret
  exact ⟨rfl, ((Below.refl w.heap.size w).alloc (Nat.le_refl _) _).alloc (by simp) _⟩
set_option maxRecDepth 20000 in
theorem ref2 (n : Int) (r : Nat) (s : ByteArray) (w : World) :
    Calls Tryd.prog 33 #[.agg #[.int .u8 2, .int .i64 n, .int .u64 (r : Int), .string s]] w fun e w' => e = .returned (.bool (eqI 2 n r s 2 n 0 ⟨#[]⟩ && decide ((s.size : Int) ≤ 100))) ∧ Below w.heap.size w w' := by
  have he := run_eqI 2 n r s 2 n 0 ⟨#[]⟩
  cases hB : eqI 2 n r s 2 n 0 ⟨#[]⟩
  · rw [hB] at he
    clear hB
    rw [Bool.false_and]
    go_enter Tryd.func33, Tryd.ntmps33
    go_wp2
    go_ret
    exact ⟨rfl, ((Below.refl w.heap.size w).alloc (Nat.le_refl _) _).alloc (by simp) _⟩
  · rw [hB] at he
    clear hB
    rw [Bool.true_and]
    go_enter Tryd.func33, Tryd.ntmps33
    go_wp2
    go_ret
    exact ⟨rfl, ((Below.refl w.heap.size w).alloc (Nat.le_refl _) _).alloc (by simp) _⟩
set_option maxRecDepth 20000 in
theorem ref3 (n : Int) (r : Nat) (s : ByteArray) (w : World) (c : Int) (HC : Hid (∀ W, Calls Tryd.prog 54 #[.int .u64 (r : Int)] W fun e w' => e = .returned (.int .u64 c) ∧ W = w')) :
    Calls Tryd.prog 33 #[.agg #[.int .u8 3, .int .i64 n, .int .u64 (r : Int), .string s]] w fun e w' => e = .returned (.bool (eqI 3 n r s 3 0 c ⟨#[]⟩ && decide ((s.size : Int) ≤ 100))) ∧ Below w.heap.size w w' := by
  have he := run_eqI 3 n r s 3 0 c ⟨#[]⟩
  cases hB : eqI 3 n r s 3 0 c ⟨#[]⟩
  · rw [hB] at he
    clear hB
    rw [Bool.false_and]
    go_enter Tryd.func33, Tryd.ntmps33
    go_wp2_with fail
    refine (HC.out _).mono ?_
    rintro e w1 ⟨rfl, rfl⟩
    go_wp2
    go_ret
    exact ⟨rfl, ((Below.refl w.heap.size w).alloc (Nat.le_refl _) _).alloc (by simp) _⟩
  · rw [hB] at he
    clear hB
    rw [Bool.true_and]
    go_enter Tryd.func33, Tryd.ntmps33
    go_wp2_with fail
    refine (HC.out _).mono ?_
    rintro e w1 ⟨rfl, rfl⟩
    go_wp2
    go_ret
    exact ⟨rfl, ((Below.refl w.heap.size w).alloc (Nat.le_refl _) _).alloc (by simp) _⟩
set_option maxRecDepth 20000 in
theorem ref4 (n : Int) (r : Nat) (s : ByteArray) (w : World) :
    Calls Tryd.prog 33 #[.agg #[.int .u8 4, .int .i64 n, .int .u64 (r : Int), .string s]] w fun e w' => e = .returned (.bool (eqI 4 n r s 4 0 0 s && decide ((s.size : Int) ≤ 100))) ∧ Below w.heap.size w w' := by
  have he := run_eqI 4 n r s 4 0 0 s
  cases hB : eqI 4 n r s 4 0 0 s
  · rw [hB] at he
    clear hB
    rw [Bool.false_and]
    go_enter Tryd.func33, Tryd.ntmps33
    go_wp2
    go_ret
    exact ⟨rfl, ((Below.refl w.heap.size w).alloc (Nat.le_refl _) _).alloc (by simp) _⟩
  · rw [hB] at he
    clear hB
    rw [Bool.true_and]
    go_enter Tryd.func33, Tryd.ntmps33
    go_wp2
    go_ret
    exact ⟨rfl, ((Below.refl w.heap.size w).alloc (Nat.le_refl _) _).alloc (by simp) _⟩
theorem stored {w w1 : World} {k n : Int} {r : Int} {s : ByteArray} {T : TypeId} (h : ∀ b o, b < ((w.alloc (.cells #[.int .u8 k, .int .i64 n, .int .u64 r, .string s] T)).alloc (.cells #[.int .u8 k, .int .i64 0, .int .u64 0, .string ⟨#[]⟩] T)).heap.size → w1.cell? ⟨b, o, none⟩ = ((w.alloc (.cells #[.int .u8 k, .int .i64 n, .int .u64 r, .string s] T)).alloc (.cells #[.int .u8 k, .int .i64 0, .int .u64 0, .string ⟨#[]⟩] T)).cell? ⟨b, o, none⟩) :
    (∀ v, (w1.setCell ⟨w.heap.size + 1, 3, none⟩ v).cell? ⟨w.heap.size + 1, 3, none⟩ = some v) ∧ (∀ v, (w1.setCell ⟨w.heap.size + 1, 3, none⟩ v).cell? ⟨w.heap.size + 1, 0, none⟩ = some (.int .u8 k)) ∧
    (∀ v, (w1.setCell ⟨w.heap.size + 1, 3, none⟩ v).cell? ⟨w.heap.size + 1, 1, none⟩ = some (.int .i64 0)) ∧ (∀ v, (w1.setCell ⟨w.heap.size + 1, 3, none⟩ v).cell? ⟨w.heap.size + 1, 2, none⟩ = some (.int .u64 0)) := by
  have e : ((w.alloc (.cells #[.int .u8 k, .int .i64 n, .int .u64 r, .string s] T)).alloc (.cells #[.int .u8 k, .int .i64 0, .int .u64 0, .string ⟨#[]⟩] T)).heap[w.heap.size + 1]? = some (.cells #[.int .u8 k, .int .i64 0, .int .u64 0, .string ⟨#[]⟩] T) := by
    have := heap_alloc_new (w.alloc (.cells #[.int .u8 k, .int .i64 n, .int .u64 r, .string s] T)) (.cells #[.int .u8 k, .int .i64 0, .int .u64 0, .string ⟨#[]⟩] T)
    rwa [show (w.alloc (.cells #[.int .u8 k, .int .i64 n, .int .u64 r, .string s] T)).heap.size = w.heap.size + 1 by simp] at this
  have hc : ∀ o, w1.cell? ⟨w.heap.size + 1, o, none⟩ = (#[Value.int .u8 k, .int .i64 0, .int .u64 0, .string ⟨#[]⟩])[o]? := fun o => by
    rw [h _ _ (by simp)]; unfold World.cell?; rw [e]; rfl
  refine ⟨fun v => World.cell?_setCell_same' _ _ _ (by rw [hc]; rfl), fun v => ?_, fun v => ?_, fun v => ?_⟩
  all_goals
    rw [World.cell?_setCell_other _ _ _ _ (by simp), hc]; rfl
set_option maxRecDepth 20000 in
theorem ref5 (n : Int) (r : Nat) (s : ByteArray) (w : World) (hT : Tabs w) (hm : s.size ≤ 9223372036854775807) (hu : utf8 s = true) :
    Calls Tryd.prog 33 #[.agg #[.int .u8 5, .int .i64 n, .int .u64 (r : Int), .string s]] w fun e w' => e = .returned (.bool (eqI 5 n r s 5 0 0 s && decide ((s.size : Int) ≤ 100))) ∧ Below w.heap.size w w' := by
  have he := run_eqI 5 n r s 5 0 0 s
  cases hB : eqI 5 n r s 5 0 0 s
  · rw [hB] at he
    clear hB
    rw [Bool.false_and]
    have HV := Lib.hid fun W (hW : Tabs W) => valid_any s W hm hW
    have hal : Below w.heap.size w ((w.alloc (.cells #[.int .u8 5, .int .i64 n, .int .u64 (r : Int), .string s] 38)).alloc (.cells #[.int .u8 5, .int .i64 0, .int .u64 0, .string ⟨#[]⟩] 38)) := ((Below.refl _ _).alloc (Nat.le_refl _) _).alloc (by simp) _
    have HA := Lib.hid hal
    have HT := Lib.hid (hT.keep hal)
    rw [hu] at HV
    clear hal hT hu hm
    go_enter Tryd.func33, Tryd.ntmps33
    go_wp2_with fail
    refine (HV.out _ HT.out).mono ?_
    rintro e w1 ⟨rfl, hb1⟩
    have HB := Lib.hid hb1
    obtain ⟨hc1, hf1⟩ := bcell hb1
    have hsz : w.heap.size + 1 < w1.heap.size := by have := HB.out.size; simp at this; omega
    obtain ⟨hs0, hs1, hs2, hs3⟩ := stored hc1
    clear hb1
    go_wp2
    go_ret
    exact ⟨rfl, (below_more HA HB.out (Below.refl _ _)).setCell (by simp) _⟩
  · rw [hB] at he
    clear hB
    rw [Bool.true_and]
    have HV := Lib.hid fun W (hW : Tabs W) => valid_any s W hm hW
    have hal : Below w.heap.size w ((w.alloc (.cells #[.int .u8 5, .int .i64 n, .int .u64 (r : Int), .string s] 38)).alloc (.cells #[.int .u8 5, .int .i64 0, .int .u64 0, .string ⟨#[]⟩] 38)) := ((Below.refl _ _).alloc (Nat.le_refl _) _).alloc (by simp) _
    have HA := Lib.hid hal
    have HT := Lib.hid (hT.keep hal)
    rw [hu] at HV
    clear hal hT hu hm
    go_enter Tryd.func33, Tryd.ntmps33
    go_wp2_with fail
    refine (HV.out _ HT.out).mono ?_
    rintro e w1 ⟨rfl, hb1⟩
    have HB := Lib.hid hb1
    obtain ⟨hc1, hf1⟩ := bcell hb1
    have hsz : w.heap.size + 1 < w1.heap.size := by have := HB.out.size; simp at this; omega
    obtain ⟨hs0, hs1, hs2, hs3⟩ := stored hc1
    clear hb1
    go_wp2
    go_ret
    exact ⟨rfl, (below_more HA HB.out (Below.refl _ _)).setCell (by simp) _⟩
set_option maxRecDepth 20000 in
theorem ref5u (n : Int) (r : Nat) (s : ByteArray) (w : World) (hT : Tabs w) (hm : s.size ≤ 9223372036854775807) (hu : utf8 s = false) :
    Calls Tryd.prog 33 #[.agg #[.int .u8 5, .int .i64 n, .int .u64 (r : Int), .string s]] w fun e w' => e = .returned (.bool false) ∧ Below w.heap.size w w' := by
  have HV := Lib.hid fun W (hW : Tabs W) => valid_any s W hm hW
  have hal : Below w.heap.size w ((w.alloc (.cells #[.int .u8 5, .int .i64 n, .int .u64 (r : Int), .string s] 38)).alloc (.cells #[.int .u8 5, .int .i64 0, .int .u64 0, .string ⟨#[]⟩] 38)) := ((Below.refl _ _).alloc (Nat.le_refl _) _).alloc (by simp) _
  have HA := Lib.hid hal
  have HT := Lib.hid (hT.keep hal)
  rw [hu] at HV
  clear hal hT hu hm
  go_enter Tryd.func33, Tryd.ntmps33
  go_wp2_with fail
  refine (HV.out _ HT.out).mono ?_
  rintro e w1 ⟨rfl, hb1⟩
  have HB := Lib.hid hb1
  obtain ⟨hc1, hf1⟩ := bcell hb1
  have hsz : w.heap.size + 1 < w1.heap.size := by have := HB.out.size; simp at this; omega
  clear hb1
  go_wp2
  go_ret
  exact ⟨rfl, below_more HA HB.out (Below.refl _ _)⟩
set_option maxRecDepth 20000 in
theorem ref6 (k n : Int) (r : Nat) (s : ByteArray) (w : World) (h0 : ¬ k = 0) (h1 : ¬ k = 1) (h2 : ¬ k = 2) (h3 : ¬ k = 3) (h4 : ¬ k = 4) (h5 : ¬ k = 5) :
    Calls Tryd.prog 33 #[.agg #[.int .u8 k, .int .i64 n, .int .u64 (r : Int), .string s]] w fun e w' => e = .returned (.bool false) ∧ Below w.heap.size w w' := by
  go_enter Tryd.func33, Tryd.ntmps33
  go_wp2
  go_ret
  exact ⟨rfl, ((Below.refl w.heap.size w).alloc (Nat.le_refl _) _).alloc (by simp) _⟩
/-- The document's own May is ours. -/
theorem may_eq (v : V) : (if v.k = 0 then eqI v.k v.n v.r v.s v.k 0 0 ⟨#[]⟩ && decide ((v.s.size : Int) ≤ 100)
    else if v.k = 1 then (if v.n = 0 ∨ v.n = 1 then eqI v.k v.n v.r v.s v.k v.n 0 ⟨#[]⟩ && decide ((v.s.size : Int) ≤ 100) else false)
    else if v.k = 2 then eqI v.k v.n v.r v.s v.k v.n 0 ⟨#[]⟩ && decide ((v.s.size : Int) ≤ 100)
    else if v.k = 3 then eqI v.k v.n v.r v.s v.k 0 (Rm.canon v.r : Int) ⟨#[]⟩ && decide ((v.s.size : Int) ≤ 100)
    else if v.k = 4 then eqI v.k v.n v.r v.s v.k 0 0 v.s && decide ((v.s.size : Int) ≤ 100)
    else if v.k = 5 then (if utf8 v.s = true then eqI v.k v.n v.r v.s v.k 0 0 v.s && decide ((v.s.size : Int) ≤ 100) else false)
    else false) = may v := by
  have z0 : (⟨#[]⟩ : ByteArray).size = 0 := rfl
  unfold may
  apply bool_iff
  by_cases h0 : v.k = 0
  · simp only [h0, if_true, Bool.and_eq_true, eqI_of, decide_eq_true_eq]
    exact ⟨fun h => h.1, fun h => ⟨h, by rw [h.2.2.2, z0]; decide⟩⟩
  by_cases h1 : v.k = 1
  · by_cases hn : v.n = 0 ∨ v.n = 1
    · simp only [if_pos h1, if_neg h0, if_pos hn, Bool.and_eq_true, eqI_of, decide_eq_true_eq]
      exact ⟨fun h => ⟨trivial, trivial, h.1.2.2⟩, fun h => ⟨⟨trivial, trivial, h.2.2⟩, by rw [h.2.2.2, z0]; decide⟩⟩
    · simp only [if_pos h1, if_neg h0, if_neg hn]
  by_cases h2 : v.k = 2
  · simp only [if_neg h0, if_neg h1, if_pos h2, Bool.and_eq_true, eqI_of, decide_eq_true_eq]
    exact ⟨fun h => ⟨trivial, trivial, h.1.2.2⟩, fun h => ⟨⟨trivial, trivial, h.2.2⟩, by rw [h.2.2.2, z0]; decide⟩⟩
  by_cases h3 : v.k = 3
  · by_cases hr : Rm.canon v.r = v.r
    · simp only [if_neg h0, if_neg h1, if_neg h2, if_pos h3, if_pos hr, Bool.and_eq_true, eqI_of, decide_eq_true_eq]
      exact ⟨fun h => ⟨trivial, h.1.2.1, trivial, h.1.2.2.2⟩, fun h => ⟨⟨trivial, h.2.1, by rw [hr], h.2.2.2⟩, by rw [h.2.2.2, z0]; decide⟩⟩
    · simp only [if_neg h0, if_neg h1, if_neg h2, if_pos h3, if_neg hr, Bool.and_eq_true, eqI_of, decide_eq_true_eq]
      exact ⟨fun h => absurd (by have := h.1.2.2.1; omega) hr, fun h => by cases h⟩
  by_cases h4 : v.k = 4
  · by_cases hs : v.s.size ≤ 100
    · simp only [if_neg h0, if_neg h1, if_neg h2, if_neg h3, if_pos h4, if_pos hs, Bool.and_eq_true, eqI_of, decide_eq_true_eq]
      exact ⟨fun h => ⟨trivial, h.1.2.1, h.1.2.2.1, trivial⟩, fun h => ⟨⟨trivial, h.2.1, h.2.2.1, trivial⟩, by omega⟩⟩
    · simp only [if_neg h0, if_neg h1, if_neg h2, if_neg h3, if_pos h4, if_neg hs, Bool.and_eq_true, eqI_of, decide_eq_true_eq]
      exact ⟨fun h => absurd (by have := h.2; omega) hs, fun h => by cases h⟩
  by_cases h5 : v.k = 5
  · by_cases hu : utf8 v.s = true
    · by_cases hs : v.s.size ≤ 100
      · simp only [if_neg h0, if_neg h1, if_neg h2, if_neg h3, if_neg h4, if_pos h5, if_pos hu, if_pos hs, Bool.and_eq_true, eqI_of, decide_eq_true_eq]
        exact ⟨fun h => ⟨trivial, h.1.2.1, h.1.2.2.1, trivial⟩, fun h => ⟨⟨trivial, h.2.1, h.2.2.1, trivial⟩, by omega⟩⟩
      · simp only [if_neg h0, if_neg h1, if_neg h2, if_neg h3, if_neg h4, if_pos h5, if_pos hu, if_neg hs, Bool.and_eq_true, eqI_of, decide_eq_true_eq]
        exact ⟨fun h => absurd (by have := h.2; omega) hs, fun h => by cases h⟩
    · simp only [if_neg h0, if_neg h1, if_neg h2, if_neg h3, if_neg h4, if_pos h5, if_neg hu]
  simp only [if_neg h0, if_neg h1, if_neg h2, if_neg h3, if_neg h4, if_neg h5]
theorem refmay_any (v : V) (w : World) (hT : Tabs w) (hr : v.r < 18446744073709551616) (hm : v.s.size ≤ 140737488351232) :
    Calls Tryd.prog 33 #[vv v] w fun e w' => e = .returned (.bool (may v)) ∧ Below w.heap.size w w' := by
  rw [← may_eq]
  obtain ⟨k, n, r, s⟩ := v
  have hm' : s.size ≤ 9223372036854775807 := Nat.le_trans hm (by decide)
  clear hm
  unfold vv
  dsimp only at hr ⊢
  by_cases h0 : k = 0
  · subst h0; rw [if_pos rfl]; exact ref0 n r s w
  rw [if_neg h0]
  by_cases h1 : k = 1
  · subst h1
    rw [if_pos rfl]
    by_cases hn : n = 0 ∨ n = 1
    · rw [if_pos hn]
      rcases hn with rfl | rfl
      · exact ref1a r s w
      · exact ref1b r s w
    · rw [if_neg hn]; exact ref1n n r s w (fun h => hn (.inl h)) (fun h => hn (.inr h))
  rw [if_neg h1]
  by_cases h2 : k = 2
  · subst h2; rw [if_pos rfl]; exact ref2 n r s w
  rw [if_neg h2]
  by_cases h3 : k = 3
  · subst h3; rw [if_pos rfl]; exact ref3 n r s w _ (Lib.hid fun W => ref_canon r W hr)
  rw [if_neg h3]
  by_cases h4 : k = 4
  · subst h4; rw [if_pos rfl]; exact ref4 n r s w
  rw [if_neg h4]
  by_cases h5 : k = 5
  · subst h5
    rw [if_pos rfl]
    cases hu : utf8 s
    · rw [if_neg (by simp)]; exact ref5u n r s w hT hm' hu
    · rw [if_pos rfl]; exact ref5 n r s w hT hm' hu
  rw [if_neg h5]
  exact ref6 k n r s w h0 h1 h2 h3 h4 h5
def Bits (l : List V) : Prop := ∀ v ∈ l, v.r < 18446744073709551616
set_option maxRecDepth 20000 in
set_option maxHeartbeats 2000000 in
theorem refrow_any (w : World) (A : Option Addr) (c : Nat) (l : List V) (hl : Reads w A l) (hlen : l.length ≤ 140737488351232) (hs : Texts l) (hr : Bits l) (hT : Tabs w) :
    Calls Tryd.prog 22 #[.slice A l.length c] w fun e w' => e = .returned (.bool (mayRow l)) ∧ Below w.heap.size w w' := by
  have HL := Lib.hid hl
  have HT := Lib.hid hT
  have HS := Lib.hid hs
  have HB := Lib.hid hr
  obtain ⟨N, hN⟩ : ∃ N, N = l.length := ⟨_, rfl⟩
  have HR : Hid (mayRow l = (decide (1 ≤ N) && (decide (N ≤ 8) && l.all may))) := Lib.hid (by rw [hN]; rfl)
  rw [← hN]
  rw [← hN] at hlen
  have H1 := Lib.hid hN
  clear hl hT hs hN hr
  go_enter Tryd.func22, Tryd.ntmps22
  go_wp2
  go_loopw [3, 4, 5, 6, 7, 8, 9, 10, 11, 12, 13, 14, 15] (fun i _ _ _ _ _ _ _ _ _ _ _ _ wr => ∃ k : Nat, k ≤ N ∧ i = .int .i64 k ∧ Hid ((l.drop k).all may = l.all may) ∧ Hid (Below w.heap.size w wr)) (fun i _ _ _ _ _ _ _ _ _ _ _ _ _ => N - (intOf i).toNat)
  case atStart => exact ⟨0, by omega, rfl, Lib.hid (by simp), Lib.hid (Below.refl _ _)⟩
  case round =>
    obtain ⟨k, hk, rfl, hs, hb⟩ := hrel
    by_cases hlt : k < N
    · have hkl : k < l.length := by rw [← H1.out]; exact hlt
      obtain ⟨b, o, rfl, p0, p1, p2, p3⟩ := (HL.out.keep hb.out).at_ hkl
      have hd := allMay_step hkl
      rw [hs.out] at hd
      have HD := Lib.hid hd
      have HM : Hid (∀ W, Tabs W → Calls Tryd.prog 33 #[vv l[k]] W fun e w' => e = .returned (.bool (may l[k])) ∧ Below W.heap.size W w') := Lib.hid fun W hW => refmay_any _ W hW (HB.out _ (List.getElem_mem hkl)) (HS.out _ (List.getElem_mem hkl))
      clear hd hs
      obtain ⟨x, hx⟩ : ∃ x, x = l[k] := ⟨_, rfl⟩
      rw [← hx] at HD p0 p1 p2 p3 HM
      clear hx hkl
      obtain ⟨k0, n0, r0, s0⟩ := x
      dsimp only at p0 p1 p2 p3
      have HTr : Hid (Tabs wr) := Lib.hid (HT.out.keep hb.out)
      unfold vv at HM
      dsimp only at HM
      cases hm : may ⟨k0, n0, r0, s0⟩
      · rw [hm] at HM
        rw [hm, Bool.false_and] at HD
        clear hm
        go_wp2_with fail
        refine (HM.out _ HTr.out).mono ?_
        rintro e w1 ⟨rfl, hb1⟩
        have HX := chain hb hb1 (Below.refl _ _)
        clear hb1
        go_wp2
        go_ret
        exact ⟨by rw [HR.out, HD.out, Bool.and_false, Bool.and_false]; rfl, HX.out⟩
      · rw [hm] at HM
        rw [hm, Bool.true_and] at HD
        clear hm
        go_wp2_with fail
        refine (HM.out _ HTr.out).mono ?_
        rintro e w1 ⟨rfl, hb1⟩
        have HX := chain hb hb1 (Below.refl _ _)
        clear hb1
        go_wp2
        exact ⟨⟨k + 1, by omega, by go_num, Lib.hid HD.out.symm, HX⟩, by simp [intOf]; omega⟩
    · obtain rfl : k = N := by omega
      have ht : l.all may = true := by
        rw [← hs.out, H1.out, List.drop_length]; rfl
      have HQ := Lib.hid ht
      clear ht hs
      by_cases h1 : 1 ≤ k
      · have d1 : decide ((1 : Int) ≤ (k : Int)) = true := decide_eq_true (by omega)
        go_wp2
        go_ret
        exact ⟨by rw [HR.out, HQ.out, decide_eq_true h1, Bool.true_and, Bool.and_true]; exact congrArg (fun b => Ending.returned (.bool b)) (decide_eq_decide.2 (by omega)), hb.out⟩
      · obtain rfl : k = 0 := by omega
        go_wp2
        go_ret
        exact ⟨by rw [HR.out]; rfl, hb.out⟩
end Go.Proofs.YtbkaphcipbhmhaaDoor.Vf
