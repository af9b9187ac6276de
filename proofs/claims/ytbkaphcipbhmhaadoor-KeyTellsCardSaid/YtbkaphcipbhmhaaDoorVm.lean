/- Values on plain data: which may be, their order, the order of rows. Nothing of the program but how a value lies in cells. -/
import Derived.Test.YtbkaphcipbhmhaaDoorVl
namespace Go.Proofs.YtbkaphcipbhmhaaDoor.Vm
open Go Go.Proofs.YtbkaphcipbhmhaaDoor.Wm Go.Proofs.YtbkaphcipbhmhaaDoor.Rm Go.Proofs.YtbkaphcipbhmhaaDoor.Vl
/-- A value: its kind, number, bits and text. -/
structure V where
  k : Int
  n : Int
  r : Nat
  s : ByteArray
/-- What the fields' types hold. -/
structure V.ok (v : V) : Prop where
  k : 0 ≤ v.k ∧ v.k ≤ 255
  n : -9223372036854775808 ≤ v.n ∧ v.n ≤ 9223372036854775807
  r : v.r < 18446744073709551616
  s : v.s.size ≤ 140737488351232
def vv (v : V) : Value := .agg #[.int .u8 v.k, .int .i64 v.n, .int .u64 (v.r : Int), .string v.s]
/-- Are two the same, in all fields? -/
def eqv (a b : V) : Bool := a.k == b.k && (a.n == b.n && (((a.r : Int) == (b.r : Int)) && a.s.toList == b.s.toList))
theorem bytes_ext {a b : ByteArray} (h : a.toList = b.toList) : a = b := by
  rw [ByteArray.toList_eq, ByteArray.toList_eq] at h
  obtain ⟨⟨x⟩⟩ := a
  obtain ⟨⟨y⟩⟩ := b
  simp at h
  rw [h]
theorem eqv_iff {a b : V} : eqv a b = true ↔ a = b := by
  obtain ⟨k, n, r, s⟩ := a
  obtain ⟨k', n', r', s'⟩ := b
  unfold eqv
  constructor
  · intro h
    simp only [Bool.and_eq_true, beq_iff_eq] at h
    obtain ⟨h1, h2, h3, h4⟩ := h
    have h3' : r = r' := by omega
    rw [h1, h2, h3', bytes_ext h4]
  · intro h
    cases h
    simp
theorem eqv_self (a : V) : eqv a a = true := eqv_iff.2 rfl
theorem eqv_not {a b : V} : eqv a b = false ↔ a ≠ b := by
  rw [← Bool.not_eq_true, eqv_iff]
/-- Is a ahead of b? -/
def less (a b : V) : Bool :=
  if a.k ≠ b.k then decide (a.k < b.k) else if a.n ≠ b.n then decide (a.n < b.n) else if Rm.less a.r b.r = true then true else if Rm.less b.r a.r = true then false else Op.bytesLess a.s.toList b.s.toList
/-- Texts' order. -/
theorem bl_irrefl : ∀ l : List UInt8, Op.bytesLess l l = false
  | [] => rfl
  | a :: x => by
    simp only [Op.bytesLess, beq_self_eq_true, Bool.true_and, bl_irrefl x, Bool.or_false]
    exact decide_eq_false (by simp)
theorem bl_asymm : ∀ l m : List UInt8, Op.bytesLess l m = true → Op.bytesLess m l = false
  | [], [], h => by simp [Op.bytesLess] at h
  | [], b :: y, _ => rfl
  | a :: x, [], h => by simp [Op.bytesLess] at h
  | a :: x, b :: y, h => by
    simp only [Op.bytesLess, Bool.or_eq_true, decide_eq_true_eq, Bool.and_eq_true, beq_iff_eq, Bool.or_eq_false_iff, decide_eq_false_iff_not] at h ⊢
    rcases h with h | ⟨rfl, h⟩
    · refine ⟨fun hc => ?_, ?_⟩
      · rw [UInt8.lt_iff_toNat_lt] at h hc; omega
      · have : b ≠ a := fun e => by rw [e, UInt8.lt_iff_toNat_lt] at h; omega
        simp [this]
    · refine ⟨fun hc => by rw [UInt8.lt_iff_toNat_lt] at hc; omega, ?_⟩
      rw [bl_asymm x y h, Bool.and_false]
theorem bl_trans : ∀ l m n : List UInt8, Op.bytesLess l m = true → Op.bytesLess m n = true → Op.bytesLess l n = true
  | [], [], n, h, _ => by simp [Op.bytesLess] at h
  | [], b :: y, [], _, h => by simp [Op.bytesLess] at h
  | [], b :: y, c :: z, _, _ => rfl
  | a :: x, [], n, h, _ => by simp [Op.bytesLess] at h
  | a :: x, b :: y, [], _, h => by simp [Op.bytesLess] at h
  | a :: x, b :: y, c :: z, h, k => by
    simp only [Op.bytesLess, Bool.or_eq_true, decide_eq_true_eq, Bool.and_eq_true, beq_iff_eq] at h k ⊢
    simp only [UInt8.lt_iff_toNat_lt] at h k ⊢
    rcases h with h | ⟨rfl, h⟩
    · rcases k with k | ⟨rfl, k⟩
      · exact .inl (by omega)
      · exact .inl h
    · rcases k with k | ⟨rfl, k⟩
      · exact .inl k
      · exact .inr ⟨rfl, bl_trans x y z h k⟩
theorem bl_total : ∀ l m : List UInt8, Op.bytesLess l m = false → Op.bytesLess m l = false → l = m
  | [], [], _, _ => rfl
  | [], b :: y, h, _ => by simp [Op.bytesLess] at h
  | a :: x, [], _, h => by simp [Op.bytesLess] at h
  | a :: x, b :: y, h, k => by
    simp only [Op.bytesLess, Bool.or_eq_false_iff, decide_eq_false_iff_not, Bool.and_eq_false_iff, beq_eq_false_iff_ne] at h k
    have e : a = b := by
      have h1 := h.1
      have k1 := k.1
      rw [UInt8.lt_iff_toNat_lt] at h1 k1
      exact UInt8.toNat_inj.1 (by omega)
    subst e
    have h2 : Op.bytesLess x y = false := by rcases h.2 with h | h; exact absurd rfl h; exact h
    have k2 : Op.bytesLess y x = false := by rcases k.2 with h | h; exact absurd rfl h; exact h
    rw [bl_total x y h2 k2]
/-- Order of bits that are canonical. -/
theorem rl_irrefl {x : Nat} (hx : x < 18446744073709551616) : Rm.less x x = false := by rw [less_key hx hx]; simp
theorem rl_asymm {x y : Nat} (hx : x < 18446744073709551616) (hy : y < 18446744073709551616) (h : Rm.less x y = true) : Rm.less y x = false := by
  rw [less_key hx hy] at h; rw [less_key hy hx]; simp at h ⊢; omega
theorem rl_trans {x y z : Nat} (hx : x < 18446744073709551616) (hy : y < 18446744073709551616) (hz : z < 18446744073709551616) (h : Rm.less x y = true) (k : Rm.less y z = true) : Rm.less x z = true := by
  rw [less_key hx hy] at h; rw [less_key hy hz] at k; rw [less_key hx hz]; simp at h k ⊢; omega
theorem rl_total {x y : Nat} (hx : x < 18446744073709551616) (hy : y < 18446744073709551616) (cx : canon x = x) (cy : canon y = y) (h : Rm.less x y = false) (k : Rm.less y x = false) : x = y := by
  rw [less_key hx hy] at h; rw [less_key hy hx] at k; simp at h k
  have := (key_inj hx hy).1 (by omega)
  rw [cx, cy] at this
  exact this
/-- What of a value that may be the order asks. -/
structure Fit (v : V) : Prop where
  ok : v.ok
  r : canon v.r = v.r
theorem less_irrefl {a : V} (ha : a.ok) : less a a = false := by
  unfold less; simp [rl_irrefl ha.r, bl_irrefl]
theorem less_asymm {a b : V} (ha : Fit a) (hb : Fit b) (h : less a b = true) : less b a = false := by
  unfold less at h ⊢
  by_cases hk : a.k = b.k
  · have hk' : b.k = a.k := hk.symm
    simp only [hk, ne_eq, not_true_eq_false, if_false] at h ⊢
    by_cases hn : a.n = b.n
    · simp only [hn, not_true_eq_false, if_false] at h ⊢
      by_cases h1 : Rm.less a.r b.r = true
      · rw [rl_asymm ha.ok.r hb.ok.r h1, h1]; simp
      · rw [if_neg h1] at h
        by_cases h2 : Rm.less b.r a.r = true
        · rw [if_pos h2] at h; simp at h
        · rw [if_neg h2] at h
          rw [if_neg h2, if_neg h1]
          exact bl_asymm _ _ h
    · have hn' : ¬ b.n = a.n := fun e => hn e.symm
      simp only [hn, hn', not_false_eq_true, if_true] at h ⊢
      simp at h ⊢; omega
  · have hk' : ¬ b.k = a.k := fun e => hk e.symm
    simp only [hk, hk', ne_eq, not_false_eq_true, if_true] at h ⊢
    simp at h ⊢; omega
theorem less_total {a b : V} (ha : Fit a) (hb : Fit b) (h : less a b = false) (k : less b a = false) : a = b := by
  obtain ⟨ak, an, ar, at0⟩ := a
  obtain ⟨bk, bn, br, bt0⟩ := b
  have har := ha.ok.r
  have hbr := hb.ok.r
  have hac := ha.r
  have hbc := hb.r
  clear ha hb
  unfold less at h k
  dsimp only at h k har hbr hac hbc
  by_cases hk : ak = bk
  · subst hk
    simp only [ne_eq, not_true_eq_false, if_false] at h k
    by_cases hn : an = bn
    · subst hn
      simp only [not_true_eq_false, if_false] at h k
      by_cases h1 : Rm.less ar br = true
      · rw [if_pos h1] at h; simp at h
      · rw [if_neg h1] at h k
        by_cases h2 : Rm.less br ar = true
        · rw [if_pos h2] at k; simp at k
        · rw [if_neg h2] at h k
          have e := rl_total har hbr hac hbc (by simpa using h1) (by simpa using h2)
          have e2 := bytes_ext (bl_total _ _ h k)
          rw [e, e2]
    · have hn' : ¬ bn = an := fun e => hn e.symm
      simp only [hn, hn', not_false_eq_true, if_true] at h k
      simp at h k; omega
  · have hk' : ¬ bk = ak := fun e => hk e.symm
    simp only [hk, hk', ne_eq, not_false_eq_true, if_true] at h k
    simp at h k; omega
theorem less_trans {a b c : V} (ha : Fit a) (hb : Fit b) (hc : Fit c) (h : less a b = true) (k : less b c = true) : less a c = true := by
  unfold less at h k ⊢
  by_cases hk : a.k = b.k
  · rw [hk]
    simp only [hk, ne_eq, not_true_eq_false, if_false] at h
    by_cases kk : b.k = c.k
    · simp only [kk, ne_eq, not_true_eq_false, if_false] at k ⊢
      by_cases hn : a.n = b.n
      · rw [hn]
        simp only [hn, not_true_eq_false, if_false] at h
        by_cases kn : b.n = c.n
        · simp only [kn, not_true_eq_false, if_false] at k ⊢
          by_cases h1 : Rm.less a.r b.r = true
          · by_cases k1 : Rm.less b.r c.r = true
            · rw [if_pos (rl_trans ha.ok.r hb.ok.r hc.ok.r h1 k1)]
            · rw [if_neg k1] at k
              by_cases k2 : Rm.less c.r b.r = true
              · rw [if_pos k2] at k; simp at k
              · have e := rl_total hb.ok.r hc.ok.r hb.r hc.r (by simpa using k1) (by simpa using k2)
                rw [← e, if_pos h1]
          · rw [if_neg h1] at h
            by_cases h2 : Rm.less b.r a.r = true
            · rw [if_pos h2] at h; simp at h
            · have e := rl_total ha.ok.r hb.ok.r ha.r hb.r (by simpa using h1) (by simpa using h2)
              rw [if_neg h2] at h
              rw [e]
              by_cases k1 : Rm.less b.r c.r = true
              · rw [if_pos k1]
              · rw [if_neg k1] at k ⊢
                by_cases k2 : Rm.less c.r b.r = true
                · rw [if_pos k2] at k; simp at k
                · rw [if_neg k2] at k ⊢
                  exact bl_trans _ _ _ h k
        · simp only [kn, not_false_eq_true, if_true] at k ⊢
          exact k
      · simp only [hn, not_false_eq_true, if_true] at h
        by_cases kn : b.n = c.n
        · rw [← kn]
          simp only [hn, not_false_eq_true, if_true]
          exact h
        · simp only [kn, not_false_eq_true, if_true] at k
          have : ¬ a.n = c.n := by simp at h k; omega
          simp only [this, not_false_eq_true, if_true]
          simp at h k ⊢; omega
    · simp only [kk, ne_eq, not_false_eq_true, if_true] at k ⊢
      exact k
  · simp only [hk, ne_eq, not_false_eq_true, if_true] at h
    by_cases kk : b.k = c.k
    · rw [← kk]
      simp only [hk, ne_eq, not_false_eq_true, if_true]
      exact h
    · simp only [kk, ne_eq, not_false_eq_true, if_true] at k
      have : ¬ a.k = c.k := by simp at h k; omega
      simp only [this, ne_eq, not_false_eq_true, if_true]
      simp at h k ⊢; omega
/-- Is row l ahead of row m? Are they the same? -/
def rowLess : List V → List V → Bool
  | [], [] => false
  | [], _ :: _ => true
  | _ :: _, [] => false
  | a :: l, b :: m => if eqv a b = true then rowLess l m else less a b
def same : List V → List V → Bool
  | [], [] => true
  | a :: l, b :: m => eqv a b && same l m
  | _, _ => false
theorem same_iff : ∀ {l m : List V}, same l m = true ↔ l = m
  | [], [] => by simp [same]
  | [], b :: m => by simp [same]
  | a :: l, [] => by simp [same]
  | a :: l, b :: m => by simp [same, eqv_iff, same_iff (l := l) (m := m)]
theorem same_self (l : List V) : same l l = true := same_iff.2 rfl
def FitAll (l : List V) : Prop := ∀ v ∈ l, Fit v
theorem row_irrefl : ∀ l : List V, rowLess l l = false
  | [] => rfl
  | a :: l => by simp [rowLess, eqv_self, row_irrefl l]
theorem row_asymm : ∀ (l m : List V), FitAll l → FitAll m → rowLess l m = true → rowLess m l = false
  | [], [], _, _, h => by simp [rowLess] at h
  | [], b :: m, _, _, _ => rfl
  | a :: l, [], _, _, h => by simp [rowLess] at h
  | a :: l, b :: m, hl, hm, h => by
    simp only [rowLess] at h ⊢
    by_cases e : a = b
    · subst e
      rw [if_pos (eqv_self a)] at h ⊢
      exact row_asymm l m (fun v hv => hl v (.tail _ hv)) (fun v hv => hm v (.tail _ hv)) h
    · have e1 : ¬ eqv a b = true := fun h => e (eqv_iff.1 h)
      have e2 : ¬ eqv b a = true := fun h => e (eqv_iff.1 h).symm
      rw [if_neg e1] at h
      rw [if_neg e2]
      exact less_asymm (hl a (.head _)) (hm b (.head _)) h
theorem row_total : ∀ (l m : List V), FitAll l → FitAll m → rowLess l m = false → rowLess m l = false → l = m
  | [], [], _, _, _, _ => rfl
  | [], b :: m, _, _, h, _ => by simp [rowLess] at h
  | a :: l, [], _, _, _, h => by simp [rowLess] at h
  | a :: l, b :: m, hl, hm, h, k => by
    simp only [rowLess] at h k
    by_cases e : a = b
    · subst e
      rw [if_pos (eqv_self a)] at h k
      rw [row_total l m (fun v hv => hl v (.tail _ hv)) (fun v hv => hm v (.tail _ hv)) h k]
    · have e1 : ¬ eqv a b = true := fun h => e (eqv_iff.1 h)
      have e2 : ¬ eqv b a = true := fun h => e (eqv_iff.1 h).symm
      rw [if_neg e1] at h
      rw [if_neg e2] at k
      exact absurd (less_total (hl a (.head _)) (hm b (.head _)) h k) e
theorem row_trans : ∀ (l m n : List V), FitAll l → FitAll m → FitAll n → rowLess l m = true → rowLess m n = true → rowLess l n = true
  | [], [], _, _, _, _, h, _ => by simp [rowLess] at h
  | [], b :: m, [], _, _, _, _, k => by simp [rowLess] at k
  | [], b :: m, c :: n, _, _, _, _, _ => rfl
  | a :: l, [], _, _, _, _, h, _ => by simp [rowLess] at h
  | a :: l, b :: m, [], _, _, _, _, k => by simp [rowLess] at k
  | a :: l, b :: m, c :: n, hl, hm, hn, h, k => by
    simp only [rowLess] at h k ⊢
    have fa := hl a (.head _)
    have fb := hm b (.head _)
    have fc := hn c (.head _)
    by_cases e : a = b
    · subst e
      rw [if_pos (eqv_self a)] at h
      by_cases e' : a = c
      · subst e'
        rw [if_pos (eqv_self a)] at k ⊢
        exact row_trans l m n (fun v hv => hl v (.tail _ hv)) (fun v hv => hm v (.tail _ hv)) (fun v hv => hn v (.tail _ hv)) h k
      · have e1 : ¬ eqv a c = true := fun h => e' (eqv_iff.1 h)
        rw [if_neg e1] at k ⊢
        exact k
    · have e1 : ¬ eqv a b = true := fun h => e (eqv_iff.1 h)
      rw [if_neg e1] at h
      by_cases e' : b = c
      · subst e'
        rw [if_neg e1]
        exact h
      · have e2 : ¬ eqv b c = true := fun h => e' (eqv_iff.1 h)
        rw [if_neg e2] at k
        have t := less_trans fa fb fc h k
        have e3 : ¬ eqv a c = true := fun h' => by
          have := eqv_iff.1 h'
          subst this
          have := less_irrefl fa.ok
          rw [t] at this; cases this
        rw [if_neg e3]
        exact t
end Go.Proofs.YtbkaphcipbhmhaaDoor.Vm
