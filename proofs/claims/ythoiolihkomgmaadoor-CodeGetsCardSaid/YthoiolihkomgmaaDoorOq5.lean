/- The contract of the document's opens. -/
import Derived.Test.YthoiolihkomgmaaDoorOp5
namespace Go.Proofs.YthoiolihkomgmaaDoor.Op5
open Go Go.RowKit Go.Proofs Go.Proofs.YthoiolihkomgmaaDoor.Cm Go.Proofs.YthoiolihkomgmaaDoor.Cu5 Go.Proofs.YthoiolihkomgmaaDoor.Cg5
theorem dnat {a b : Nat} (r : Bool) (h : decide (a < b) = r) : decide ((a : Int) < (b : Int)) = r := by rw [← h]; simp
/-- opz, its size and bounds laid open. -/
def op3 (n most x1 x2 sz lo hi : Nat) : Bool := decide (sz ≤ most) && (decide (n < sz) && ((decide (n ≤ 1) || (decide (lo ≤ x1) && decide (x1 ≤ hi))) && (decide (n ≤ 2) || (decide (128 ≤ x2) && decide (x2 ≤ 191)))))
theorem opz_of {l : List UInt8} {most sz lo hi : Nat} (h1 : Lib.firstT (b l 0) < 240) (h2 : Lib.firstT (b l 0) % 8 = sz) (h3 : Lib.accLo (Lib.firstT (b l 0) / 16) = lo) (h4 : Lib.accHi (Lib.firstT (b l 0) / 16) = hi) : opz l most = op3 l.length most (b l 1) (b l 2) sz lo hi := by
  unfold opz op3
  rw [decide_eq_true h1, h2, h3, h4, Bool.true_and]
theorem opz_not {l : List UInt8} {most : Nat} (h1 : ¬ Lib.firstT (b l 0) < 240) : opz l most = false := by
  unfold opz
  rw [decide_eq_false h1, Bool.false_and]
theorem lt_of {a c : Nat} (h : decide (a < c) = false) : c ≤ a := by simpa using h
theorem lt_yes {a c : Nat} (h : decide (a < c) = true) : a < c := by simpa using h
theorem all_c2 {l : List UInt8} (most : Nat) (w : World) (x0 : UInt8) (hx0 : l.getD 0 0 = x0) (hc : 194 ≤ x0.toNat ∧ x0.toNat ≤ 223) (h0 : l ≠ []) (h : At3 (bs l) l.length x0 (l.getD 1 0) (l.getD 2 0)) :
    Calls Tryd.prog 56 #[.string (bs l), .int .i64 (most : Int)] w (Says w (opz l most)) := by
  have hp := List.length_pos_iff.2 h0
  have hb : b l 0 = x0.toNat := by unfold b; rw [hx0]
  have hf : Lib.firstT (b l 0) = 2 := by
    rw [hb]; unfold Lib.firstT
    repeat' split
    all_goals omega
  rw [opz_of (sz := 2) (lo := 128) (hi := 191) (by rw [hf]; omega) (by rw [hf]) (by rw [hf]; rfl) (by rw [hf]; rfl)]
  show Calls _ _ _ _ (Says w (op3 l.length most (l.getD 1 0).toNat (l.getD 2 0).toNat 2 128 191))
  generalize hx1 : l.getD 1 0 = x1 at h ⊢
  generalize hx2 : l.getD 2 0 = x2 at h ⊢
  have l1 := x1.toNat_lt; have l2 := x2.toNat_lt
  generalize hn : l.length = n at h hp ⊢
  clear hx1 hx2 hf hb hx0
  by_cases hm : (most : Int) < 2
  · rw [show op3 n most x1.toNat x2.toNat 2 128 191 = false by unfold op3; rw [decide_eq_false (by omega), Bool.false_and]]
    exact c2_m most w h hc hp hm
  by_cases hl : 2 ≤ n
  · rw [show op3 n most x1.toNat x2.toNat 2 128 191 = false by unfold op3; rw [decide_eq_false (p := n < 2) (by omega), Bool.false_and, Bool.and_false]]
    exact c2_l most w h hc hm hl
  have hq : 2 ≤ most := by omega
  rcases (show n = 1 by omega) with rfl
  · rw [show op3 1 most x1.toNat x2.toNat 2 128 191 = true by simp [op3, hq]]
    exact c2_1 most w h hc hm
theorem all_c19 {l : List UInt8} (most : Nat) (w : World) (x0 : UInt8) (hx0 : l.getD 0 0 = x0) (hc : x0 = 224) (h0 : l ≠ []) (h : At3 (bs l) l.length x0 (l.getD 1 0) (l.getD 2 0)) :
    Calls Tryd.prog 56 #[.string (bs l), .int .i64 (most : Int)] w (Says w (opz l most)) := by
  have hp := List.length_pos_iff.2 h0
  have hb : b l 0 = x0.toNat := by unfold b; rw [hx0]
  have hv : x0.toNat = 224 := by rw [hc]; rfl
  have hf : Lib.firstT (b l 0) = 19 := by rw [hb, hv]; rfl
  rw [opz_of (sz := 3) (lo := 160) (hi := 191) (by rw [hf]; omega) (by rw [hf]) (by rw [hf]; rfl) (by rw [hf]; rfl)]
  show Calls _ _ _ _ (Says w (op3 l.length most (l.getD 1 0).toNat (l.getD 2 0).toNat 3 160 191))
  generalize hx1 : l.getD 1 0 = x1 at h ⊢
  generalize hx2 : l.getD 2 0 = x2 at h ⊢
  have l1 := x1.toNat_lt; have l2 := x2.toNat_lt
  generalize hn : l.length = n at h hp ⊢
  clear hx1 hx2 hf hb hx0 hv
  by_cases hm : (most : Int) < 3
  · rw [show op3 n most x1.toNat x2.toNat 3 160 191 = false by unfold op3; rw [decide_eq_false (by omega), Bool.false_and]]
    exact c19_m most w h hc hp hm
  by_cases hl : 3 ≤ n
  · rw [show op3 n most x1.toNat x2.toNat 3 160 191 = false by unfold op3; rw [decide_eq_false (p := n < 3) (by omega), Bool.false_and, Bool.and_false]]
    exact c19_l most w h hc hm hl
  have hq : 3 ≤ most := by omega
  rcases (show n = 1 ∨ n = 2 by omega) with rfl | rfl
  · rw [show op3 1 most x1.toNat x2.toNat 3 160 191 = true by simp [op3, hq]]
    exact c19_1 most w h hc hm
  · cases c1 : decide (x1.toNat < 160)
    · have d1 := lt_of c1
      cases c2 : decide (191 < x1.toNat)
      · have d2 := lt_of c2
        rw [show op3 2 most x1.toNat x2.toNat 3 160 191 = true by simp [op3, hq]; omega]
        exact c19_2c most w h hc hm (dnat (b := 160) _ c1) (dnat (a := 191) _ c2)
      · have d2 := lt_yes c2
        rw [show op3 2 most x1.toNat x2.toNat 3 160 191 = false by simp [op3, hq]; omega]
        exact c19_2b most w h hc hm (dnat (b := 160) _ c1) (dnat (a := 191) _ c2)
    · have d1 := lt_yes c1
      rw [show op3 2 most x1.toNat x2.toNat 3 160 191 = false by simp [op3, hq]; omega]
      exact c19_2a most w h hc hm (dnat (b := 160) _ c1)
theorem all_c3a {l : List UInt8} (most : Nat) (w : World) (x0 : UInt8) (hx0 : l.getD 0 0 = x0) (hc : 225 ≤ x0.toNat ∧ x0.toNat ≤ 236) (h0 : l ≠ []) (h : At3 (bs l) l.length x0 (l.getD 1 0) (l.getD 2 0)) :
    Calls Tryd.prog 56 #[.string (bs l), .int .i64 (most : Int)] w (Says w (opz l most)) := by
  have hp := List.length_pos_iff.2 h0
  have hb : b l 0 = x0.toNat := by unfold b; rw [hx0]
  have hf : Lib.firstT (b l 0) = 3 := by
    rw [hb]; unfold Lib.firstT
    repeat' split
    all_goals omega
  rw [opz_of (sz := 3) (lo := 128) (hi := 191) (by rw [hf]; omega) (by rw [hf]) (by rw [hf]; rfl) (by rw [hf]; rfl)]
  show Calls _ _ _ _ (Says w (op3 l.length most (l.getD 1 0).toNat (l.getD 2 0).toNat 3 128 191))
  generalize hx1 : l.getD 1 0 = x1 at h ⊢
  generalize hx2 : l.getD 2 0 = x2 at h ⊢
  have l1 := x1.toNat_lt; have l2 := x2.toNat_lt
  generalize hn : l.length = n at h hp ⊢
  clear hx1 hx2 hf hb hx0
  by_cases hm : (most : Int) < 3
  · rw [show op3 n most x1.toNat x2.toNat 3 128 191 = false by unfold op3; rw [decide_eq_false (by omega), Bool.false_and]]
    exact c3a_m most w h hc hp hm
  by_cases hl : 3 ≤ n
  · rw [show op3 n most x1.toNat x2.toNat 3 128 191 = false by unfold op3; rw [decide_eq_false (p := n < 3) (by omega), Bool.false_and, Bool.and_false]]
    exact c3a_l most w h hc hm hl
  have hq : 3 ≤ most := by omega
  rcases (show n = 1 ∨ n = 2 by omega) with rfl | rfl
  · rw [show op3 1 most x1.toNat x2.toNat 3 128 191 = true by simp [op3, hq]]
    exact c3a_1 most w h hc hm
  · cases c1 : decide (x1.toNat < 128)
    · have d1 := lt_of c1
      cases c2 : decide (191 < x1.toNat)
      · have d2 := lt_of c2
        rw [show op3 2 most x1.toNat x2.toNat 3 128 191 = true by simp [op3, hq]; omega]
        exact c3a_2c most w h hc hm (dnat (b := 128) _ c1) (dnat (a := 191) _ c2)
      · have d2 := lt_yes c2
        rw [show op3 2 most x1.toNat x2.toNat 3 128 191 = false by simp [op3, hq]; omega]
        exact c3a_2b most w h hc hm (dnat (b := 128) _ c1) (dnat (a := 191) _ c2)
    · have d1 := lt_yes c1
      rw [show op3 2 most x1.toNat x2.toNat 3 128 191 = false by simp [op3, hq]; omega]
      exact c3a_2a most w h hc hm (dnat (b := 128) _ c1)
theorem all_c35 {l : List UInt8} (most : Nat) (w : World) (x0 : UInt8) (hx0 : l.getD 0 0 = x0) (hc : x0 = 237) (h0 : l ≠ []) (h : At3 (bs l) l.length x0 (l.getD 1 0) (l.getD 2 0)) :
    Calls Tryd.prog 56 #[.string (bs l), .int .i64 (most : Int)] w (Says w (opz l most)) := by
  have hp := List.length_pos_iff.2 h0
  have hb : b l 0 = x0.toNat := by unfold b; rw [hx0]
  have hv : x0.toNat = 237 := by rw [hc]; rfl
  have hf : Lib.firstT (b l 0) = 35 := by rw [hb, hv]; rfl
  rw [opz_of (sz := 3) (lo := 128) (hi := 159) (by rw [hf]; omega) (by rw [hf]) (by rw [hf]; rfl) (by rw [hf]; rfl)]
  show Calls _ _ _ _ (Says w (op3 l.length most (l.getD 1 0).toNat (l.getD 2 0).toNat 3 128 159))
  generalize hx1 : l.getD 1 0 = x1 at h ⊢
  generalize hx2 : l.getD 2 0 = x2 at h ⊢
  have l1 := x1.toNat_lt; have l2 := x2.toNat_lt
  generalize hn : l.length = n at h hp ⊢
  clear hx1 hx2 hf hb hx0 hv
  by_cases hm : (most : Int) < 3
  · rw [show op3 n most x1.toNat x2.toNat 3 128 159 = false by unfold op3; rw [decide_eq_false (by omega), Bool.false_and]]
    exact c35_m most w h hc hp hm
  by_cases hl : 3 ≤ n
  · rw [show op3 n most x1.toNat x2.toNat 3 128 159 = false by unfold op3; rw [decide_eq_false (p := n < 3) (by omega), Bool.false_and, Bool.and_false]]
    exact c35_l most w h hc hm hl
  have hq : 3 ≤ most := by omega
  rcases (show n = 1 ∨ n = 2 by omega) with rfl | rfl
  · rw [show op3 1 most x1.toNat x2.toNat 3 128 159 = true by simp [op3, hq]]
    exact c35_1 most w h hc hm
  · cases c1 : decide (x1.toNat < 128)
    · have d1 := lt_of c1
      cases c2 : decide (159 < x1.toNat)
      · have d2 := lt_of c2
        rw [show op3 2 most x1.toNat x2.toNat 3 128 159 = true by simp [op3, hq]; omega]
        exact c35_2c most w h hc hm (dnat (b := 128) _ c1) (dnat (a := 159) _ c2)
      · have d2 := lt_yes c2
        rw [show op3 2 most x1.toNat x2.toNat 3 128 159 = false by simp [op3, hq]; omega]
        exact c35_2b most w h hc hm (dnat (b := 128) _ c1) (dnat (a := 159) _ c2)
    · have d1 := lt_yes c1
      rw [show op3 2 most x1.toNat x2.toNat 3 128 159 = false by simp [op3, hq]; omega]
      exact c35_2a most w h hc hm (dnat (b := 128) _ c1)
theorem all_c3b {l : List UInt8} (most : Nat) (w : World) (x0 : UInt8) (hx0 : l.getD 0 0 = x0) (hc : 238 ≤ x0.toNat ∧ x0.toNat ≤ 239) (h0 : l ≠ []) (h : At3 (bs l) l.length x0 (l.getD 1 0) (l.getD 2 0)) :
    Calls Tryd.prog 56 #[.string (bs l), .int .i64 (most : Int)] w (Says w (opz l most)) := by
  have hp := List.length_pos_iff.2 h0
  have hb : b l 0 = x0.toNat := by unfold b; rw [hx0]
  have hf : Lib.firstT (b l 0) = 3 := by
    rw [hb]; unfold Lib.firstT
    repeat' split
    all_goals omega
  rw [opz_of (sz := 3) (lo := 128) (hi := 191) (by rw [hf]; omega) (by rw [hf]) (by rw [hf]; rfl) (by rw [hf]; rfl)]
  show Calls _ _ _ _ (Says w (op3 l.length most (l.getD 1 0).toNat (l.getD 2 0).toNat 3 128 191))
  generalize hx1 : l.getD 1 0 = x1 at h ⊢
  generalize hx2 : l.getD 2 0 = x2 at h ⊢
  have l1 := x1.toNat_lt; have l2 := x2.toNat_lt
  generalize hn : l.length = n at h hp ⊢
  clear hx1 hx2 hf hb hx0
  by_cases hm : (most : Int) < 3
  · rw [show op3 n most x1.toNat x2.toNat 3 128 191 = false by unfold op3; rw [decide_eq_false (by omega), Bool.false_and]]
    exact c3b_m most w h hc hp hm
  by_cases hl : 3 ≤ n
  · rw [show op3 n most x1.toNat x2.toNat 3 128 191 = false by unfold op3; rw [decide_eq_false (p := n < 3) (by omega), Bool.false_and, Bool.and_false]]
    exact c3b_l most w h hc hm hl
  have hq : 3 ≤ most := by omega
  rcases (show n = 1 ∨ n = 2 by omega) with rfl | rfl
  · rw [show op3 1 most x1.toNat x2.toNat 3 128 191 = true by simp [op3, hq]]
    exact c3b_1 most w h hc hm
  · cases c1 : decide (x1.toNat < 128)
    · have d1 := lt_of c1
      cases c2 : decide (191 < x1.toNat)
      · have d2 := lt_of c2
        rw [show op3 2 most x1.toNat x2.toNat 3 128 191 = true by simp [op3, hq]; omega]
        exact c3b_2c most w h hc hm (dnat (b := 128) _ c1) (dnat (a := 191) _ c2)
      · have d2 := lt_yes c2
        rw [show op3 2 most x1.toNat x2.toNat 3 128 191 = false by simp [op3, hq]; omega]
        exact c3b_2b most w h hc hm (dnat (b := 128) _ c1) (dnat (a := 191) _ c2)
    · have d1 := lt_yes c1
      rw [show op3 2 most x1.toNat x2.toNat 3 128 191 = false by simp [op3, hq]; omega]
      exact c3b_2a most w h hc hm (dnat (b := 128) _ c1)
theorem all_c52 {l : List UInt8} (most : Nat) (w : World) (x0 : UInt8) (hx0 : l.getD 0 0 = x0) (hc : x0 = 240) (h0 : l ≠ []) (h : At3 (bs l) l.length x0 (l.getD 1 0) (l.getD 2 0)) :
    Calls Tryd.prog 56 #[.string (bs l), .int .i64 (most : Int)] w (Says w (opz l most)) := by
  have hp := List.length_pos_iff.2 h0
  have hb : b l 0 = x0.toNat := by unfold b; rw [hx0]
  have hv : x0.toNat = 240 := by rw [hc]; rfl
  have hf : Lib.firstT (b l 0) = 52 := by rw [hb, hv]; rfl
  rw [opz_of (sz := 4) (lo := 144) (hi := 191) (by rw [hf]; omega) (by rw [hf]) (by rw [hf]; rfl) (by rw [hf]; rfl)]
  show Calls _ _ _ _ (Says w (op3 l.length most (l.getD 1 0).toNat (l.getD 2 0).toNat 4 144 191))
  generalize hx1 : l.getD 1 0 = x1 at h ⊢
  generalize hx2 : l.getD 2 0 = x2 at h ⊢
  have l1 := x1.toNat_lt; have l2 := x2.toNat_lt
  generalize hn : l.length = n at h hp ⊢
  clear hx1 hx2 hf hb hx0 hv
  by_cases hm : (most : Int) < 4
  · rw [show op3 n most x1.toNat x2.toNat 4 144 191 = false by unfold op3; rw [decide_eq_false (by omega), Bool.false_and]]
    exact c52_m most w h hc hp hm
  by_cases hl : 4 ≤ n
  · rw [show op3 n most x1.toNat x2.toNat 4 144 191 = false by unfold op3; rw [decide_eq_false (p := n < 4) (by omega), Bool.false_and, Bool.and_false]]
    exact c52_l most w h hc hm hl
  have hq : 4 ≤ most := by omega
  rcases (show n = 1 ∨ n = 2 ∨ n = 3 by omega) with rfl | rfl | rfl
  · rw [show op3 1 most x1.toNat x2.toNat 4 144 191 = true by simp [op3, hq]]
    exact c52_1 most w h hc hm
  · cases c1 : decide (x1.toNat < 144)
    · have d1 := lt_of c1
      cases c2 : decide (191 < x1.toNat)
      · have d2 := lt_of c2
        rw [show op3 2 most x1.toNat x2.toNat 4 144 191 = true by simp [op3, hq]; omega]
        exact c52_2c most w h hc hm (dnat (b := 144) _ c1) (dnat (a := 191) _ c2)
      · have d2 := lt_yes c2
        rw [show op3 2 most x1.toNat x2.toNat 4 144 191 = false by simp [op3, hq]; omega]
        exact c52_2b most w h hc hm (dnat (b := 144) _ c1) (dnat (a := 191) _ c2)
    · have d1 := lt_yes c1
      rw [show op3 2 most x1.toNat x2.toNat 4 144 191 = false by simp [op3, hq]; omega]
      exact c52_2a most w h hc hm (dnat (b := 144) _ c1)
  · cases c1 : decide (x1.toNat < 144)
    · have d1 := lt_of c1
      cases c2 : decide (191 < x1.toNat)
      · have d2 := lt_of c2
        cases c3 : decide (x2.toNat < 128)
        · have d3 := lt_of c3
          cases c4 : decide (191 < x2.toNat)
          · have d4 := lt_of c4
            rw [show op3 3 most x1.toNat x2.toNat 4 144 191 = true by simp [op3, hq]; omega]
            exact c52_3f most w h hc hm (dnat (b := 144) _ c1) (dnat (a := 191) _ c2) (dnat (b := 128) _ c3) (dnat (a := 191) _ c4)
          · have d4 := lt_yes c4
            rw [show op3 3 most x1.toNat x2.toNat 4 144 191 = false by simp [op3, hq]; omega]
            exact c52_3e most w h hc hm (dnat (b := 144) _ c1) (dnat (a := 191) _ c2) (dnat (b := 128) _ c3) (dnat (a := 191) _ c4)
        · have d3 := lt_yes c3
          rw [show op3 3 most x1.toNat x2.toNat 4 144 191 = false by simp [op3, hq]; omega]
          exact c52_3d most w h hc hm (dnat (b := 144) _ c1) (dnat (a := 191) _ c2) (dnat (b := 128) _ c3)
      · have d2 := lt_yes c2
        rw [show op3 3 most x1.toNat x2.toNat 4 144 191 = false by simp [op3, hq]; omega]
        exact c52_3b most w h hc hm (dnat (b := 144) _ c1) (dnat (a := 191) _ c2)
    · have d1 := lt_yes c1
      rw [show op3 3 most x1.toNat x2.toNat 4 144 191 = false by simp [op3, hq]; omega]
      exact c52_3a most w h hc hm (dnat (b := 144) _ c1)
theorem all_c4 {l : List UInt8} (most : Nat) (w : World) (x0 : UInt8) (hx0 : l.getD 0 0 = x0) (hc : 241 ≤ x0.toNat ∧ x0.toNat ≤ 243) (h0 : l ≠ []) (h : At3 (bs l) l.length x0 (l.getD 1 0) (l.getD 2 0)) :
    Calls Tryd.prog 56 #[.string (bs l), .int .i64 (most : Int)] w (Says w (opz l most)) := by
  have hp := List.length_pos_iff.2 h0
  have hb : b l 0 = x0.toNat := by unfold b; rw [hx0]
  have hf : Lib.firstT (b l 0) = 4 := by
    rw [hb]; unfold Lib.firstT
    repeat' split
    all_goals omega
  rw [opz_of (sz := 4) (lo := 128) (hi := 191) (by rw [hf]; omega) (by rw [hf]) (by rw [hf]; rfl) (by rw [hf]; rfl)]
  show Calls _ _ _ _ (Says w (op3 l.length most (l.getD 1 0).toNat (l.getD 2 0).toNat 4 128 191))
  generalize hx1 : l.getD 1 0 = x1 at h ⊢
  generalize hx2 : l.getD 2 0 = x2 at h ⊢
  have l1 := x1.toNat_lt; have l2 := x2.toNat_lt
  generalize hn : l.length = n at h hp ⊢
  clear hx1 hx2 hf hb hx0
  by_cases hm : (most : Int) < 4
  · rw [show op3 n most x1.toNat x2.toNat 4 128 191 = false by unfold op3; rw [decide_eq_false (by omega), Bool.false_and]]
    exact c4_m most w h hc hp hm
  by_cases hl : 4 ≤ n
  · rw [show op3 n most x1.toNat x2.toNat 4 128 191 = false by unfold op3; rw [decide_eq_false (p := n < 4) (by omega), Bool.false_and, Bool.and_false]]
    exact c4_l most w h hc hm hl
  have hq : 4 ≤ most := by omega
  rcases (show n = 1 ∨ n = 2 ∨ n = 3 by omega) with rfl | rfl | rfl
  · rw [show op3 1 most x1.toNat x2.toNat 4 128 191 = true by simp [op3, hq]]
    exact c4_1 most w h hc hm
  · cases c1 : decide (x1.toNat < 128)
    · have d1 := lt_of c1
      cases c2 : decide (191 < x1.toNat)
      · have d2 := lt_of c2
        rw [show op3 2 most x1.toNat x2.toNat 4 128 191 = true by simp [op3, hq]; omega]
        exact c4_2c most w h hc hm (dnat (b := 128) _ c1) (dnat (a := 191) _ c2)
      · have d2 := lt_yes c2
        rw [show op3 2 most x1.toNat x2.toNat 4 128 191 = false by simp [op3, hq]; omega]
        exact c4_2b most w h hc hm (dnat (b := 128) _ c1) (dnat (a := 191) _ c2)
    · have d1 := lt_yes c1
      rw [show op3 2 most x1.toNat x2.toNat 4 128 191 = false by simp [op3, hq]; omega]
      exact c4_2a most w h hc hm (dnat (b := 128) _ c1)
  · cases c1 : decide (x1.toNat < 128)
    · have d1 := lt_of c1
      cases c2 : decide (191 < x1.toNat)
      · have d2 := lt_of c2
        cases c3 : decide (x2.toNat < 128)
        · have d3 := lt_of c3
          cases c4 : decide (191 < x2.toNat)
          · have d4 := lt_of c4
            rw [show op3 3 most x1.toNat x2.toNat 4 128 191 = true by simp [op3, hq]; omega]
            exact c4_3f most w h hc hm (dnat (b := 128) _ c1) (dnat (a := 191) _ c2) (dnat (b := 128) _ c3) (dnat (a := 191) _ c4)
          · have d4 := lt_yes c4
            rw [show op3 3 most x1.toNat x2.toNat 4 128 191 = false by simp [op3, hq]; omega]
            exact c4_3e most w h hc hm (dnat (b := 128) _ c1) (dnat (a := 191) _ c2) (dnat (b := 128) _ c3) (dnat (a := 191) _ c4)
        · have d3 := lt_yes c3
          rw [show op3 3 most x1.toNat x2.toNat 4 128 191 = false by simp [op3, hq]; omega]
          exact c4_3d most w h hc hm (dnat (b := 128) _ c1) (dnat (a := 191) _ c2) (dnat (b := 128) _ c3)
      · have d2 := lt_yes c2
        rw [show op3 3 most x1.toNat x2.toNat 4 128 191 = false by simp [op3, hq]; omega]
        exact c4_3b most w h hc hm (dnat (b := 128) _ c1) (dnat (a := 191) _ c2)
    · have d1 := lt_yes c1
      rw [show op3 3 most x1.toNat x2.toNat 4 128 191 = false by simp [op3, hq]; omega]
      exact c4_3a most w h hc hm (dnat (b := 128) _ c1)
theorem all_c68 {l : List UInt8} (most : Nat) (w : World) (x0 : UInt8) (hx0 : l.getD 0 0 = x0) (hc : x0 = 244) (h0 : l ≠ []) (h : At3 (bs l) l.length x0 (l.getD 1 0) (l.getD 2 0)) :
    Calls Tryd.prog 56 #[.string (bs l), .int .i64 (most : Int)] w (Says w (opz l most)) := by
  have hp := List.length_pos_iff.2 h0
  have hb : b l 0 = x0.toNat := by unfold b; rw [hx0]
  have hv : x0.toNat = 244 := by rw [hc]; rfl
  have hf : Lib.firstT (b l 0) = 68 := by rw [hb, hv]; rfl
  rw [opz_of (sz := 4) (lo := 128) (hi := 143) (by rw [hf]; omega) (by rw [hf]) (by rw [hf]; rfl) (by rw [hf]; rfl)]
  show Calls _ _ _ _ (Says w (op3 l.length most (l.getD 1 0).toNat (l.getD 2 0).toNat 4 128 143))
  generalize hx1 : l.getD 1 0 = x1 at h ⊢
  generalize hx2 : l.getD 2 0 = x2 at h ⊢
  have l1 := x1.toNat_lt; have l2 := x2.toNat_lt
  generalize hn : l.length = n at h hp ⊢
  clear hx1 hx2 hf hb hx0 hv
  by_cases hm : (most : Int) < 4
  · rw [show op3 n most x1.toNat x2.toNat 4 128 143 = false by unfold op3; rw [decide_eq_false (by omega), Bool.false_and]]
    exact c68_m most w h hc hp hm
  by_cases hl : 4 ≤ n
  · rw [show op3 n most x1.toNat x2.toNat 4 128 143 = false by unfold op3; rw [decide_eq_false (p := n < 4) (by omega), Bool.false_and, Bool.and_false]]
    exact c68_l most w h hc hm hl
  have hq : 4 ≤ most := by omega
  rcases (show n = 1 ∨ n = 2 ∨ n = 3 by omega) with rfl | rfl | rfl
  · rw [show op3 1 most x1.toNat x2.toNat 4 128 143 = true by simp [op3, hq]]
    exact c68_1 most w h hc hm
  · cases c1 : decide (x1.toNat < 128)
    · have d1 := lt_of c1
      cases c2 : decide (143 < x1.toNat)
      · have d2 := lt_of c2
        rw [show op3 2 most x1.toNat x2.toNat 4 128 143 = true by simp [op3, hq]; omega]
        exact c68_2c most w h hc hm (dnat (b := 128) _ c1) (dnat (a := 143) _ c2)
      · have d2 := lt_yes c2
        rw [show op3 2 most x1.toNat x2.toNat 4 128 143 = false by simp [op3, hq]; omega]
        exact c68_2b most w h hc hm (dnat (b := 128) _ c1) (dnat (a := 143) _ c2)
    · have d1 := lt_yes c1
      rw [show op3 2 most x1.toNat x2.toNat 4 128 143 = false by simp [op3, hq]; omega]
      exact c68_2a most w h hc hm (dnat (b := 128) _ c1)
  · cases c1 : decide (x1.toNat < 128)
    · have d1 := lt_of c1
      cases c2 : decide (143 < x1.toNat)
      · have d2 := lt_of c2
        cases c3 : decide (x2.toNat < 128)
        · have d3 := lt_of c3
          cases c4 : decide (191 < x2.toNat)
          · have d4 := lt_of c4
            rw [show op3 3 most x1.toNat x2.toNat 4 128 143 = true by simp [op3, hq]; omega]
            exact c68_3f most w h hc hm (dnat (b := 128) _ c1) (dnat (a := 143) _ c2) (dnat (b := 128) _ c3) (dnat (a := 191) _ c4)
          · have d4 := lt_yes c4
            rw [show op3 3 most x1.toNat x2.toNat 4 128 143 = false by simp [op3, hq]; omega]
            exact c68_3e most w h hc hm (dnat (b := 128) _ c1) (dnat (a := 143) _ c2) (dnat (b := 128) _ c3) (dnat (a := 191) _ c4)
        · have d3 := lt_yes c3
          rw [show op3 3 most x1.toNat x2.toNat 4 128 143 = false by simp [op3, hq]; omega]
          exact c68_3d most w h hc hm (dnat (b := 128) _ c1) (dnat (a := 143) _ c2) (dnat (b := 128) _ c3)
      · have d2 := lt_yes c2
        rw [show op3 3 most x1.toNat x2.toNat 4 128 143 = false by simp [op3, hq]; omega]
        exact c68_3b most w h hc hm (dnat (b := 128) _ c1) (dnat (a := 143) _ c2)
    · have d1 := lt_yes c1
      rw [show op3 3 most x1.toNat x2.toNat 4 128 143 = false by simp [op3, hq]; omega]
      exact c68_3a most w h hc hm (dnat (b := 128) _ c1)
theorem opens_any (l : List UInt8) (most : Nat) (w : World) (h0 : l ≠ []) : Calls Tryd.prog 56 #[.string (bs l), .int .i64 (most : Int)] w (Says w (opz l most)) := by
  have hp := List.length_pos_iff.2 h0
  obtain ⟨x0, hx0⟩ : ∃ x0, l.getD 0 0 = x0 := ⟨_, rfl⟩
  have hb : b l 0 = x0.toNat := by unfold b; rw [hx0]
  have at_ : ∀ i (h : i < (bs l).size), (bs l)[i]'h = l.getD i 0 := fun i h => by
    have : i < l.length := h
    simp [bs, ByteArray.getElem_eq_getElem_data, List.getD_eq_getElem?_getD, this]
  have h : At3 (bs l) l.length x0 (l.getD 1 0) (l.getD 2 0) := ⟨bs_size l, fun h => by rw [at_ 0 h, hx0], at_ 1, at_ 2⟩
  have hl := x0.toNat_lt
  have ex : ∀ k : Nat, k < 256 → x0.toNat = k → x0 = UInt8.ofNat k := fun k hk e => by rw [← e]; simp
  by_cases q1 : x0.toNat < 194
  · rw [opz_not (by rw [hb]; unfold Lib.firstT; repeat' split; all_goals omega)]
    exact cA most w h ⟨by omega, by omega⟩ hp
  by_cases q2 : x0.toNat < 224
  · exact all_c2 most w x0 hx0 ⟨by omega, by omega⟩ h0 h
  by_cases q3 : x0.toNat = 224
  · exact all_c19 most w x0 hx0 (ex 224 (by omega) q3) h0 h
  by_cases q4 : x0.toNat < 237
  · exact all_c3a most w x0 hx0 ⟨by omega, by omega⟩ h0 h
  by_cases q5 : x0.toNat = 237
  · exact all_c35 most w x0 hx0 (ex 237 (by omega) q5) h0 h
  by_cases q6 : x0.toNat < 240
  · exact all_c3b most w x0 hx0 ⟨by omega, by omega⟩ h0 h
  by_cases q7 : x0.toNat = 240
  · exact all_c52 most w x0 hx0 (ex 240 (by omega) q7) h0 h
  by_cases q8 : x0.toNat < 244
  · exact all_c4 most w x0 hx0 ⟨by omega, by omega⟩ h0 h
  by_cases q9 : x0.toNat = 244
  · exact all_c68 most w x0 hx0 (ex 244 (by omega) q9) h0 h
  · rw [opz_not (by rw [hb]; unfold Lib.firstT; repeat' split; all_goals omega)]
    exact cB most w h ⟨by omega, by omega⟩ hp
end Go.Proofs.YthoiolihkomgmaaDoor.Op5
