/- ValueLine: what may be has canonical bits; which way three values and three rows go. -/
import Derived.Test.YtjkfgchjdhgbgaaDoorVz
import Derived.Test.YtjkfgchjdhgbgaaDoorVtlt1
import Derived.Test.YtjkfgchjdhgbgaaDoorVtlt0
import Derived.Test.YtjkfgchjdhgbgaaDoorVtgt
import Derived.Test.YtjkfgchjdhgbgaaDoorVteq
namespace Go.Proofs.YtjkfgchjdhgbgaaDoor.Vw
open Go Go.RowKit Go.Proofs.YtjkfgchjdhgbgaaDoor.Vm Go.Proofs.YtjkfgchjdhgbgaaDoor.Vl Go.Proofs.YtjkfgchjdhgbgaaDoor.Ve Go.Proofs.YtjkfgchjdhgbgaaDoor.Vr Go.Proofs.YtjkfgchjdhgbgaaDoor.Vs Go.Proofs.YtjkfgchjdhgbgaaDoor.Vc Go.Proofs.YtjkfgchjdhgbgaaDoor.Vf Go.Proofs.YtjkfgchjdhgbgaaDoor.Vt Go.Proofs.YtjkfgchjdhgbgaaDoor.Vtlt1 Go.Proofs.YtjkfgchjdhgbgaaDoor.Vtlt0 Go.Proofs.YtjkfgchjdhgbgaaDoor.Vtgt Go.Proofs.YtjkfgchjdhgbgaaDoor.Vteq Go.Proofs.YtjkfgchjdhgbgaaDoor.Vz
theorem zero_canon {r : Nat} (h : (r : Int) = 0) : Rm.canon r = r := by
  obtain rfl : r = 0 := by omega
  decide
theorem may_canon {v : V} (h : may v = true) : Rm.canon v.r = v.r := by
  unfold may at h
  by_cases h0 : v.k = 0
  · rw [if_pos h0] at h; exact zero_canon (eqI_of.1 h).2.2.1
  rw [if_neg h0] at h
  by_cases h1 : v.k = 1
  · rw [if_pos h1] at h
    by_cases hn : v.n = 0 ∨ v.n = 1
    · rw [if_pos hn] at h; exact zero_canon (eqI_of.1 h).2.2.1
    · rw [if_neg hn] at h; cases h
  rw [if_neg h1] at h
  by_cases h2 : v.k = 2
  · rw [if_pos h2] at h; exact zero_canon (eqI_of.1 h).2.2.1
  rw [if_neg h2] at h
  by_cases h3 : v.k = 3
  · rw [if_pos h3] at h
    by_cases hr : Rm.canon v.r = v.r
    · exact hr
    · rw [if_neg hr] at h; cases h
  rw [if_neg h3] at h
  by_cases h4 : v.k = 4
  · rw [if_pos h4] at h
    by_cases hs : v.s.size ≤ 100
    · rw [if_pos hs] at h; exact zero_canon (eqI_of.1 h).2.2.1
    · rw [if_neg hs] at h; cases h
  rw [if_neg h4] at h
  by_cases h5 : v.k = 5
  · rw [if_pos h5] at h
    by_cases hu : utf8 v.s = true
    · rw [if_pos hu] at h
      by_cases hs : v.s.size ≤ 100
      · rw [if_pos hs] at h; exact zero_canon (eqI_of.1 h).2.2.1
      · rw [if_neg hs] at h; cases h
    · rw [if_neg hu] at h; cases h
  rw [if_neg h5] at h; cases h
theorem may_fit {v : V} (hk : v.ok) (h : may v = true) : Fit v := ⟨hk, may_canon h⟩
theorem row_fit {l : List V} (hk : ∀ v ∈ l, v.ok) (h : mayRow l = true) : FitAll l := fun v hv => by
  unfold mayRow at h
  simp only [Bool.and_eq_true] at h
  exact may_fit (hk v hv) (List.all_eq_true.1 h.2.2 v hv)
/-- The three answers on values. -/
inductive Three (a b : V) : Prop where
  | lt (h : less a b = true) (h' : less b a = false) (e : eqv a b = false)
  | gt (h : less a b = false) (h' : less b a = true) (e : eqv a b = false)
  | eq (h : less a b = false) (h' : less b a = false) (e : eqv a b = true)
theorem three_of {a b : V} (ha : Fit a) (hb : Fit b) : Three a b := by
  cases h : less a b
  · cases h' : less b a
    · exact .eq h h' (eqv_iff.2 (less_total ha hb h h'))
    · exact .gt h h' (eqv_not.2 fun e => by subst e; rw [less_irrefl ha.ok] at h'; cases h')
  · exact .lt h (less_asymm ha hb h) (eqv_not.2 fun e => by subst e; rw [less_irrefl ha.ok] at h; cases h)
inductive Three' (l m : List V) : Prop where
  | lt (h : rowLess l m = true) (h' : rowLess m l = false) (e : same l m = false)
  | gt (h : rowLess l m = false) (h' : rowLess m l = true) (e : same l m = false)
  | eq (h : rowLess l m = false) (h' : rowLess m l = false) (e : same l m = true)
theorem same_not {l m : List V} (h : l ≠ m) : same l m = false := by
  cases e : same l m
  · rfl
  · exact absurd (same_iff.1 e) h
theorem three_of' {l m : List V} (hl : FitAll l) (hm : FitAll m) : Three' l m := by
  cases h : rowLess l m
  · cases h' : rowLess m l
    · exact .eq h h' (same_iff.2 (row_total l m hl hm h h'))
    · exact .gt h h' (same_not fun e => by subst e; rw [row_irrefl] at h'; cases h')
  · exact .lt h (row_asymm l m hl hm h) (same_not fun e => by subst e; rw [row_irrefl] at h; cases h)
section
variable {W : World} (hT : Tabs W)
include hT
theorem q_val (a : V) (ha : a.ok) (b : Bool) (h : may a = b) : Hid (∀ W', Below W.heap.size W W' → Calls Tryd.prog 10 #[.agg #[.int .u8 a.k, .int .i64 a.n, .int .u64 (a.r : Int), .string a.s]] W' fun e w' => e = .returned (.int .i64 (erg b)) ∧ Below W'.heap.size W' w') :=
  Lib.hid fun W' hW => by rw [← h]; exact check_any a W' (hT.keep hW) ha.s
theorem q_row {A : Option Addr} {c : Nat} {l : List V} (hl : RowAt W A c l) (b : Bool) (h : mayRow l = b) : Hid (∀ W', Below W.heap.size W W' → Calls Tryd.prog 12 #[.slice A l.length c] W' fun e w' => e = .returned (.int .i64 (erg b)) ∧ Below W'.heap.size W' w') :=
  Lib.hid fun W' hW => by rw [← h]; exact row_any W' A c l (hl.reads.keep hW) hl.count hl.texts (hT.keep hW)
theorem q_alive : Hid (∀ W', Below W.heap.size W W' → Calls Tryd.prog 8 #[] W' fun e w' => e = .returned (.bool true) ∧ Below W'.heap.size W' w') :=
  Lib.hid fun W' hW => Va.alive W' (hT.keep hW)
omit hT
theorem q_less (a b : V) (ha : a.ok) (hb : b.ok) (x : Bool) (h : less a b = x) : Hid (∀ W', Below W.heap.size W W' → Calls Tryd.prog 24 #[.agg #[.int .u8 a.k, .int .i64 a.n, .int .u64 (a.r : Int), .string a.s], .agg #[.int .u8 b.k, .int .i64 b.n, .int .u64 (b.r : Int), .string b.s]] W' fun e w' => e = .returned (.bool x) ∧ Below W'.heap.size W' w') :=
  Lib.hid fun W' _ => by rw [← h]; exact Vn.less_any a b ha.r hb.r W'
theorem q_rl {A A' : Option Addr} {c c' : Nat} {l m : List V} (hl : RowAt W A c l) (hm : RowAt W A' c' m) (x : Bool) (h : rowLess l m = x) : Hid (∀ W', Below W.heap.size W W' → Calls Tryd.prog 25 #[.slice A l.length c, .slice A' m.length c'] W' fun e w' => e = .returned (.bool x) ∧ Below W'.heap.size W' w') :=
  Lib.hid fun W' hW => by
    rw [← h]
    rcases Nat.lt_or_ge m.length l.length with hc | hc
    · exact rowless_gt W' A A' c c' l m (hl.reads.keep hW) (hm.reads.keep hW) ⟨hl.count, hm.count⟩ hl.bits hm.bits hc
    · exact rowless_le W' A A' c c' l m (hl.reads.keep hW) (hm.reads.keep hW) ⟨hl.count, hm.count⟩ hl.bits hm.bits hc
theorem q_same {A A' : Option Addr} {c c' : Nat} {l m : List V} (hl : RowAt W A c l) (hm : RowAt W A' c' m) (x : Bool) (h : same l m = x) : Hid (∀ W', Below W.heap.size W W' → Calls Tryd.prog 26 #[.slice A l.length c, .slice A' m.length c'] W' fun e w' => e = .returned (.bool x) ∧ Below W'.heap.size W' w') :=
  Lib.hid fun W' hW => by rw [← h]; exact Vr.same_any W' A A' c c' l m (hl.reads.keep hW) (hm.reads.keep hW) ⟨hl.count, hm.count⟩
end
/-- The call, as the row has it. -/
def Holds (W : World) (a b c : V) (A1 : Option Addr) (c1 : Nat) (l : List V) (A2 : Option Addr) (c2 : Nat) (m : List V) (A3 : Option Addr) (c3 : Nat) (n : List V) : Prop :=
  Calls Tryd.prog 5 #[vv a, vv b, vv c, .slice A1 l.length c1, .slice A2 m.length c2, .slice A3 n.length c3] W fun e w' => e = .returned (.bool true) ∧ Below W.heap.size W w'
section
variable {W : World} (hT : Tabs W) (a b c : V) (ha : a.ok) (hb : b.ok) (hc : c.ok) {A1 A2 A3 : Option Addr} {c1 c2 c3 : Nat} {l m n : List V} (hl : RowAt W A1 c1 l) (hm : RowAt W A2 c2 m) (hn : RowAt W A3 c3 n)
include hT ha hb hc hl hm hn
/-- All may be. -/
theorem all_may (h1 : may a = true) (h2 : may b = true) (h3 : may c = true) (h4 : mayRow l = true) (h5 : mayRow m = true) (h6 : mayRow n = true) : Holds W a b c A1 c1 l A2 c2 m A3 c3 n := by
  have fa := may_fit ha h1
  have fb := may_fit hb h2
  have fc := may_fit hc h3
  have fl := row_fit hl.ok h4
  have fm := row_fit hm.ok h5
  have fn := row_fit hn.ok h6
  have g1 := q_val hT a ha _ h1
  have g2 := q_val hT b hb _ h2
  have g3 := q_val hT c hc _ h3
  have g4 := q_row hT hl _ h4
  have g5 := q_row hT hm _ h5
  have g6 := q_row hT hn _ h6
  have al := q_alive hT
  rcases three_of fa fb with ⟨v1, v2, v3⟩ | ⟨v1, v2, v3⟩ | ⟨v1, v2, v3⟩
  · cases v4 : less b c
    · rcases three_of' fl fm with ⟨r1, r2, r3⟩ | ⟨r1, r2, r3⟩ | ⟨r1, r2, r3⟩
      · cases r4 : rowLess m n
        · exact w_lt0_lt0 a.k a.n b.k b.n c.k c.n a.r b.r c.r a.s b.s c.s A1 A2 A3 l.length c1 m.length c2 n.length c3 W g1 g2 g3 g4 g5 g6 al (q_less a b ha hb _ v1) (q_less b a hb ha _ v2) (q_less b c hb hc _ v4) (q_rl hl hm _ r1) (q_rl hm hl _ r2) (q_same hl hm _ r3) (q_rl hm hn _ r4) v3
        · have r5 := row_trans l m n fl fm fn r1 r4
          exact w_lt0_lt1 a.k a.n b.k b.n c.k c.n a.r b.r c.r a.s b.s c.s A1 A2 A3 l.length c1 m.length c2 n.length c3 W g1 g2 g3 g4 g5 g6 al (q_less a b ha hb _ v1) (q_less b a hb ha _ v2) (q_less b c hb hc _ v4) (q_rl hl hm _ r1) (q_rl hm hl _ r2) (q_same hl hm _ r3) (q_rl hm hn _ r4) (q_rl hl hn _ r5) v3
      · exact w_lt0_gt a.k a.n b.k b.n c.k c.n a.r b.r c.r a.s b.s c.s A1 A2 A3 l.length c1 m.length c2 n.length c3 W g1 g2 g3 g4 g5 g6 al (q_less a b ha hb _ v1) (q_less b a hb ha _ v2) (q_less b c hb hc _ v4) (q_rl hl hm _ r1) (q_rl hm hl _ r2) (q_same hl hm _ r3) v3
      · exact w_lt0_eq a.k a.n b.k b.n c.k c.n a.r b.r c.r a.s b.s c.s A1 A2 A3 l.length c1 m.length c2 n.length c3 W g1 g2 g3 g4 g5 g6 al (q_less a b ha hb _ v1) (q_less b a hb ha _ v2) (q_less b c hb hc _ v4) (q_rl hl hm _ r1) (q_rl hm hl _ r2) (q_same hl hm _ r3) v3
    · have v5 := less_trans fa fb fc v1 v4
      rcases three_of' fl fm with ⟨r1, r2, r3⟩ | ⟨r1, r2, r3⟩ | ⟨r1, r2, r3⟩
      · cases r4 : rowLess m n
        · exact w_lt1_lt0 a.k a.n b.k b.n c.k c.n a.r b.r c.r a.s b.s c.s A1 A2 A3 l.length c1 m.length c2 n.length c3 W g1 g2 g3 g4 g5 g6 al (q_less a b ha hb _ v1) (q_less b a hb ha _ v2) (q_less b c hb hc _ v4) (q_less a c ha hc _ v5) (q_rl hl hm _ r1) (q_rl hm hl _ r2) (q_same hl hm _ r3) (q_rl hm hn _ r4) v3
        · have r5 := row_trans l m n fl fm fn r1 r4
          exact w_lt1_lt1 a.k a.n b.k b.n c.k c.n a.r b.r c.r a.s b.s c.s A1 A2 A3 l.length c1 m.length c2 n.length c3 W g1 g2 g3 g4 g5 g6 al (q_less a b ha hb _ v1) (q_less b a hb ha _ v2) (q_less b c hb hc _ v4) (q_less a c ha hc _ v5) (q_rl hl hm _ r1) (q_rl hm hl _ r2) (q_same hl hm _ r3) (q_rl hm hn _ r4) (q_rl hl hn _ r5) v3
      · exact w_lt1_gt a.k a.n b.k b.n c.k c.n a.r b.r c.r a.s b.s c.s A1 A2 A3 l.length c1 m.length c2 n.length c3 W g1 g2 g3 g4 g5 g6 al (q_less a b ha hb _ v1) (q_less b a hb ha _ v2) (q_less b c hb hc _ v4) (q_less a c ha hc _ v5) (q_rl hl hm _ r1) (q_rl hm hl _ r2) (q_same hl hm _ r3) v3
      · exact w_lt1_eq a.k a.n b.k b.n c.k c.n a.r b.r c.r a.s b.s c.s A1 A2 A3 l.length c1 m.length c2 n.length c3 W g1 g2 g3 g4 g5 g6 al (q_less a b ha hb _ v1) (q_less b a hb ha _ v2) (q_less b c hb hc _ v4) (q_less a c ha hc _ v5) (q_rl hl hm _ r1) (q_rl hm hl _ r2) (q_same hl hm _ r3) v3
  · rcases three_of' fl fm with ⟨r1, r2, r3⟩ | ⟨r1, r2, r3⟩ | ⟨r1, r2, r3⟩
    · cases r4 : rowLess m n
      · exact w_gt_lt0 a.k a.n b.k b.n c.k c.n a.r b.r c.r a.s b.s c.s A1 A2 A3 l.length c1 m.length c2 n.length c3 W g1 g2 g3 g4 g5 g6 al (q_less a b ha hb _ v1) (q_less b a hb ha _ v2) (q_rl hl hm _ r1) (q_rl hm hl _ r2) (q_same hl hm _ r3) (q_rl hm hn _ r4) v3
      · have r5 := row_trans l m n fl fm fn r1 r4
        exact w_gt_lt1 a.k a.n b.k b.n c.k c.n a.r b.r c.r a.s b.s c.s A1 A2 A3 l.length c1 m.length c2 n.length c3 W g1 g2 g3 g4 g5 g6 al (q_less a b ha hb _ v1) (q_less b a hb ha _ v2) (q_rl hl hm _ r1) (q_rl hm hl _ r2) (q_same hl hm _ r3) (q_rl hm hn _ r4) (q_rl hl hn _ r5) v3
    · exact w_gt_gt a.k a.n b.k b.n c.k c.n a.r b.r c.r a.s b.s c.s A1 A2 A3 l.length c1 m.length c2 n.length c3 W g1 g2 g3 g4 g5 g6 al (q_less a b ha hb _ v1) (q_less b a hb ha _ v2) (q_rl hl hm _ r1) (q_rl hm hl _ r2) (q_same hl hm _ r3) v3
    · exact w_gt_eq a.k a.n b.k b.n c.k c.n a.r b.r c.r a.s b.s c.s A1 A2 A3 l.length c1 m.length c2 n.length c3 W g1 g2 g3 g4 g5 g6 al (q_less a b ha hb _ v1) (q_less b a hb ha _ v2) (q_rl hl hm _ r1) (q_rl hm hl _ r2) (q_same hl hm _ r3) v3
  · rcases three_of' fl fm with ⟨r1, r2, r3⟩ | ⟨r1, r2, r3⟩ | ⟨r1, r2, r3⟩
    · cases r4 : rowLess m n
      · exact w_eq_lt0 a.k a.n b.k b.n c.k c.n a.r b.r c.r a.s b.s c.s A1 A2 A3 l.length c1 m.length c2 n.length c3 W g1 g2 g3 g4 g5 g6 al (q_less a b ha hb _ v1) (q_less b a hb ha _ v2) (q_rl hl hm _ r1) (q_rl hm hl _ r2) (q_same hl hm _ r3) (q_rl hm hn _ r4) v3
      · have r5 := row_trans l m n fl fm fn r1 r4
        exact w_eq_lt1 a.k a.n b.k b.n c.k c.n a.r b.r c.r a.s b.s c.s A1 A2 A3 l.length c1 m.length c2 n.length c3 W g1 g2 g3 g4 g5 g6 al (q_less a b ha hb _ v1) (q_less b a hb ha _ v2) (q_rl hl hm _ r1) (q_rl hm hl _ r2) (q_same hl hm _ r3) (q_rl hm hn _ r4) (q_rl hl hn _ r5) v3
    · exact w_eq_gt a.k a.n b.k b.n c.k c.n a.r b.r c.r a.s b.s c.s A1 A2 A3 l.length c1 m.length c2 n.length c3 W g1 g2 g3 g4 g5 g6 al (q_less a b ha hb _ v1) (q_less b a hb ha _ v2) (q_rl hl hm _ r1) (q_rl hm hl _ r2) (q_same hl hm _ r3) v3
    · exact w_eq_eq a.k a.n b.k b.n c.k c.n a.r b.r c.r a.s b.s c.s A1 A2 A3 l.length c1 m.length c2 n.length c3 W g1 g2 g3 g4 g5 g6 al (q_less a b ha hb _ v1) (q_less b a hb ha _ v2) (q_rl hl hm _ r1) (q_rl hm hl _ r2) (q_same hl hm _ r3) v3
theorem walk : Holds W a b c A1 c1 l A2 c2 m A3 c3 n := by
  have al := q_alive hT
  cases h1 : may a
  · exact skip1 a.k a.n b.k b.n c.k c.n a.r b.r c.r a.s b.s c.s A1 A2 A3 l.length c1 m.length c2 n.length c3 W (q_val hT a ha _ h1) al
  · skip
    cases h2 : may b
    · exact skip2 a.k a.n b.k b.n c.k c.n a.r b.r c.r a.s b.s c.s A1 A2 A3 l.length c1 m.length c2 n.length c3 W (q_val hT a ha _ h1) (q_val hT b hb _ h2) al
    · skip
      cases h3 : may c
      · exact skip3 a.k a.n b.k b.n c.k c.n a.r b.r c.r a.s b.s c.s A1 A2 A3 l.length c1 m.length c2 n.length c3 W (q_val hT a ha _ h1) (q_val hT b hb _ h2) (q_val hT c hc _ h3) al
      · skip
        cases h4 : mayRow l
        · exact skip4 a.k a.n b.k b.n c.k c.n a.r b.r c.r a.s b.s c.s A1 A2 A3 l.length c1 m.length c2 n.length c3 W (q_val hT a ha _ h1) (q_val hT b hb _ h2) (q_val hT c hc _ h3) (q_row hT hl _ h4) al
        · skip
          cases h5 : mayRow m
          · exact skip5 a.k a.n b.k b.n c.k c.n a.r b.r c.r a.s b.s c.s A1 A2 A3 l.length c1 m.length c2 n.length c3 W (q_val hT a ha _ h1) (q_val hT b hb _ h2) (q_val hT c hc _ h3) (q_row hT hl _ h4) (q_row hT hm _ h5) al
          · skip
            cases h6 : mayRow n
            · exact skip6 a.k a.n b.k b.n c.k c.n a.r b.r c.r a.s b.s c.s A1 A2 A3 l.length c1 m.length c2 n.length c3 W (q_val hT a ha _ h1) (q_val hT b hb _ h2) (q_val hT c hc _ h3) (q_row hT hl _ h4) (q_row hT hm _ h5) (q_row hT hn _ h6) al
            · skip
              exact all_may hT a b c ha hb hc hl hm hn h1 h2 h3 h4 h5 h6
end
end Go.Proofs.YtjkfgchjdhgbgaaDoor.Vw
