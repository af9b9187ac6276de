/- The order of keys is that of their rows, on plain lists. -/
import Derived.Test.YtbkaphcipbhmhaaDoorKm6
import Derived.Test.YtbkaphcipbhmhaaDoorPa6
namespace Go.Proofs.YtbkaphcipbhmhaaDoor.Po6
open Go Go.Proofs.YtbkaphcipbhmhaaDoor.Wm Go.Proofs.YtbkaphcipbhmhaaDoor.Vm Go.Proofs.YtbkaphcipbhmhaaDoor.Vl Go.Proofs.YtbkaphcipbhmhaaDoor.Vc Go.Proofs.YtbkaphcipbhmhaaDoor.Cm Go.Proofs.YtbkaphcipbhmhaaDoor.Kl6 Go.Proofs.YtbkaphcipbhmhaaDoor.Km6 Go.Proofs.YtbkaphcipbhmhaaDoor.Pa6
theorem lt_self (a : UInt8) : decide (a < a) = false := decide_eq_false (by rw [UInt8.lt_iff_toNat_lt]; omega)
theorem bl_cons (a b : UInt8) (x y : List UInt8) : Op.bytesLess (a :: x) (b :: y) = if a = b then Op.bytesLess x y else decide (a < b) := by
  by_cases h : a = b
  · subst h; rw [if_pos rfl]; simp [Op.bytesLess]
  · rw [if_neg h]; simp [Op.bytesLess, h]
/-- Numbers of as many bytes, the highest first. -/
theorem bl_num : ∀ (p q x y : List UInt8), p.length = q.length → Op.bytesLess (p ++ x) (q ++ y) = if p = q then Op.bytesLess x y else decide (getL p.reverse < getL q.reverse)
  | [], [], x, y, _ => by simp
  | [], b :: q, x, y, h => by simp at h
  | a :: p, [], x, y, h => by simp at h
  | a :: p, b :: q, x, y, h => by
    have hl : p.length = q.length := by simpa using h
    have ih := bl_num p q x y hl
    rw [List.cons_append, List.cons_append, bl_cons]
    rw [List.reverse_cons, List.reverse_cons, getL_snoc, getL_snoc, List.length_reverse, List.length_reverse, hl]
    by_cases hab : a = b
    · subst hab
      rw [if_pos rfl, ih]
      by_cases hpq : p = q
      · subst hpq; simp
      · rw [if_neg hpq, if_neg (by simp [hpq])]
        exact decide_eq_decide.2 (by omega)
    · rw [if_neg hab, if_neg (by simp [hab])]
      refine decide_eq_decide.2 ?_
      have h1 := getL_lt p.reverse
      have h2 := getL_lt q.reverse
      rw [List.length_reverse] at h1 h2
      rw [hl] at h1
      rw [UInt8.lt_iff_toNat_lt]
      have hne : a.toNat ≠ b.toNat := fun e => hab (UInt8.toNat_inj.1 e)
      generalize 256 ^ q.length = P at h1 h2
      generalize getL p.reverse = u at h1
      generalize getL q.reverse = v at h2
      constructor
      · intro hlt
        have : P * (a.toNat + 1) ≤ P * b.toNat := Nat.mul_le_mul_left P hlt
        rw [Nat.mul_add, Nat.mul_one] at this
        omega
      · intro hlt
        rcases Nat.lt_or_ge a.toNat b.toNat with hh | hh
        · exact hh
        · have hh' : b.toNat + 1 ≤ a.toNat := by omega
          have : P * (b.toNat + 1) ≤ P * a.toNat := Nat.mul_le_mul_left P hh'
          rw [Nat.mul_add, Nat.mul_one] at this
          omega
theorem hi_inj {N M : Nat} (hN : N < 18446744073709551616) (hM : M < 18446744073709551616) (h : hi N = hi M) : N = M := by
  rw [← getL_hi hN, ← getL_hi hM, h]
theorem bl_hi {N M : Nat} (hN : N < 18446744073709551616) (hM : M < 18446744073709551616) (x y : List UInt8) : Op.bytesLess (hi N ++ x) (hi M ++ y) = if N = M then Op.bytesLess x y else decide (N < M) := by
  rw [bl_num _ _ _ _ (by rw [hi_length, hi_length]), getL_hi hN, getL_hi hM]
  by_cases h : N = M
  · subst h; simp
  · rw [if_neg h, if_neg (fun e => h (hi_inj hN hM e))]
theorem zero_lt {d : UInt8} (h : d ≠ 0) : (0 : UInt8) < d := by
  rw [UInt8.lt_iff_toNat_lt]
  have : d.toNat ≠ 0 := fun e => h (UInt8.toNat_inj.1 (by simpa using e))
  have h0 : (0 : UInt8).toNat = 0 := rfl
  rw [h0]; omega
theorem not_lt_zero (d : UInt8) : ¬ d < (0 : UInt8) := by
  rw [UInt8.lt_iff_toNat_lt]
  have h0 : (0 : UInt8).toNat = 0 := rfl
  rw [h0]; omega
theorem bl_text : ∀ (s t x y : List UInt8), Op.bytesLess (esc s ++ 0 :: 1 :: x) (esc t ++ 0 :: 1 :: y) = if s = t then Op.bytesLess x y else Op.bytesLess s t
  | [], [], x, y => by simp [esc, bl_cons]
  | [], d :: t, x, y => by
    rw [if_neg (by simp)]
    by_cases hd : d = 0
    · subst hd
      simp only [esc, if_true, List.nil_append, List.cons_append, bl_cons]
      simp [Op.bytesLess]
    · simp only [esc, if_neg hd, List.nil_append, List.cons_append, bl_cons]
      rw [if_neg (fun e => hd e.symm), decide_eq_true (zero_lt hd)]; rfl
  | c :: s, [], x, y => by
    rw [if_neg (by simp)]
    by_cases hc : c = 0
    · subst hc
      simp only [esc, if_true, List.nil_append, List.cons_append, bl_cons]
      simp [Op.bytesLess]
    · simp only [esc, if_neg hc, List.nil_append, List.cons_append, bl_cons]
      rw [decide_eq_false (not_lt_zero c)]; rfl
  | c :: s, d :: t, x, y => by
    have ih := bl_text s t x y
    by_cases hcd : c = d
    · subst hcd
      have e : Op.bytesLess (esc (c :: s) ++ 0 :: 1 :: x) (esc (c :: t) ++ 0 :: 1 :: y) = Op.bytesLess (esc s ++ 0 :: 1 :: x) (esc t ++ 0 :: 1 :: y) := by
        simp only [esc, List.append_assoc]
        exact bl_app _ _ _
      rw [e, ih, bl_cons, if_pos rfl]
      by_cases hst : s = t
      · subst hst; simp
      · rw [if_neg hst, if_neg (by simp [hst])]
    · rw [if_neg (by simp [hcd]), bl_cons, if_neg hcd]
      by_cases hc : c = 0
      · subst hc
        have hd : d ≠ 0 := fun e => hcd e.symm
        simp only [esc, if_true, if_neg hd, List.nil_append, List.cons_append, bl_cons]
        rw [if_neg (fun e => hd e.symm)]
      · by_cases hd : d = 0
        · subst hd
          simp only [esc, if_true, if_neg hc, List.nil_append, List.cons_append, bl_cons]
        · simp only [esc, if_neg hc, if_neg hd, List.nil_append, List.cons_append, bl_cons]
          rw [if_neg hcd]
theorem kind_le {v : V} (h : Is v) : 0 ≤ v.k ∧ v.k ≤ 5 := by cases h <;> dsimp only <;> omega
theorem kind_byte {a b : V} (ha : Is a) (hb : Is b) : (UInt8.ofNat (a.k.toNat + 1) = UInt8.ofNat (b.k.toNat + 1) ↔ a.k = b.k) ∧ (UInt8.ofNat (a.k.toNat + 1) < UInt8.ofNat (b.k.toNat + 1) ↔ a.k < b.k) := by
  have h1 := kind_le ha
  have h2 := kind_le hb
  constructor
  · rw [← UInt8.toNat_inj]; simp; omega
  · rw [UInt8.lt_iff_toNat_lt]; simp; omega
theorem less_real {r q : Nat} (hr : r < 18446744073709551616) (hq : q < 18446744073709551616) : (if Rm.less r q = true then true else if Rm.less q r = true then false else Op.bytesLess [] []) = decide (Rm.key r < Rm.key q) := by
  rw [less_key hr hq, less_key hq hr]
  by_cases h : Rm.key r < Rm.key q
  · simp [h]
  · simp [h, Op.bytesLess]
theorem less_text (s t : List UInt8) : (if Rm.less 0 0 = true then true else if Rm.less 0 0 = true then false else Op.bytesLess s t) = Op.bytesLess s t := by
  have : Rm.less 0 0 = false := rl_irrefl (by decide)
  rw [this]; simp
theorem toList_mk (s : ByteArray) : s.toList = s.data.toList := ByteArray.toList_eq s
/-- Of two values that may be. -/
theorem bl_value {a b : V} (ha : Is a) (hb : Is b) (ka : a.ok) (kb : b.ok) (x y : List UInt8) : Op.bytesLess (kput a ++ x) (kput b ++ y) = if eqv a b = true then Op.bytesLess x y else less a b := by
  unfold kput
  rw [List.cons_append, List.cons_append, bl_cons]
  obtain ⟨e1, e2⟩ := kind_byte ha hb
  by_cases hk : a.k = b.k
  · rw [if_pos (e1.2 hk)]
    cases ha with
    | null =>
      cases hb with
      | null => rw [if_pos (eqv_self _)]; rfl
      | bool n h => cases hk
      | int n => cases hk
      | real r h => cases hk
      | bytes s h => cases hk
      | string s h hu => cases hk
    | bool n h =>
      cases hb with
      | bool m h' =>
        rcases h with rfl | rfl <;> rcases h' with rfl | rfl <;> simp [kbody, bl_cons, less, eqv]
      | null => cases hk
      | int n => cases hk
      | real r h => cases hk
      | bytes s h => cases hk
      | string s h hu => cases hk
    | int n =>
      cases hb with
      | int m =>
        have h1 := ka.n
        have h2 := kb.n
        dsimp only at h1 h2
        have e : Op.bytesLess (kbody ⟨2, n, 0, ⟨#[]⟩⟩ ++ x) (kbody ⟨2, m, 0, ⟨#[]⟩⟩ ++ y) = Op.bytesLess (hi (n + 9223372036854775808).toNat ++ x) (hi (m + 9223372036854775808).toNat ++ y) := rfl
        rw [e, bl_hi (by omega) (by omega)]
        by_cases hnm : n = m
        · subst hnm; rw [if_pos rfl, if_pos (eqv_self _)]
        · rw [if_neg (by omega), if_neg (fun e => hnm (congrArg V.n (eqv_iff.1 e)))]
          unfold less
          dsimp only
          rw [if_neg (by simp), if_pos hnm]
          exact decide_eq_decide.2 (by omega)
      | null => cases hk
      | bool n h => cases hk
      | real r h => cases hk
      | bytes s h => cases hk
      | string s h hu => cases hk
    | real r h =>
      cases hb with
      | real q h' =>
        have h1 := ka.r
        have h2 := kb.r
        dsimp only at h1 h2
        have e : Op.bytesLess (kbody ⟨3, 0, r, ⟨#[]⟩⟩ ++ x) (kbody ⟨3, 0, q, ⟨#[]⟩⟩ ++ y) = Op.bytesLess (hi (Rm.key r) ++ x) (hi (Rm.key q) ++ y) := rfl
        rw [e, bl_hi Rm.key_lt Rm.key_lt]
        by_cases hrq : r = q
        · subst hrq; rw [if_pos rfl, if_pos (eqv_self _)]
        · have hkey : Rm.key r ≠ Rm.key q := fun hh => hrq (by have := (key_inj h1 h2).1 hh; rw [h, h'] at this; exact this)
          rw [if_neg hkey, if_neg (fun e => hrq (congrArg V.r (eqv_iff.1 e)))]
          unfold less
          dsimp only
          rw [if_neg (by simp), if_neg (by simp)]
          rw [toList_mk]
          exact (less_real h1 h2).symm
      | null => cases hk
      | bool n h => cases hk
      | int n => cases hk
      | bytes s h => cases hk
      | string s h hu => cases hk
    | bytes s h =>
      cases hb with
      | bytes t h' =>
        have e : Op.bytesLess (kbody ⟨4, 0, 0, s⟩ ++ x) (kbody ⟨4, 0, 0, t⟩ ++ y) = Op.bytesLess (esc s.data.toList ++ 0 :: 1 :: x) (esc t.data.toList ++ 0 :: 1 :: y) := by
          simp [kbody]
        rw [e, bl_text]
        by_cases hst : s = t
        · subst hst; rw [if_pos rfl, if_pos (eqv_self _)]
        · have hne : s.data.toList ≠ t.data.toList := fun hh => hst (bytes_ext (by rw [toList_mk, toList_mk, hh]))
          rw [if_neg hne, if_neg (fun e => hst (congrArg V.s (eqv_iff.1 e)))]
          unfold less
          dsimp only
          rw [if_neg (by simp), if_neg (by simp), less_text, toList_mk, toList_mk]
      | null => cases hk
      | bool n h => cases hk
      | int n => cases hk
      | real r h => cases hk
      | string s h hu => cases hk
    | string s h hu =>
      cases hb with
      | string t h' hu' =>
        have e : Op.bytesLess (kbody ⟨5, 0, 0, s⟩ ++ x) (kbody ⟨5, 0, 0, t⟩ ++ y) = Op.bytesLess (esc s.data.toList ++ 0 :: 1 :: x) (esc t.data.toList ++ 0 :: 1 :: y) := by
          simp [kbody]
        rw [e, bl_text]
        by_cases hst : s = t
        · subst hst; rw [if_pos rfl, if_pos (eqv_self _)]
        · have hne : s.data.toList ≠ t.data.toList := fun hh => hst (bytes_ext (by rw [toList_mk, toList_mk, hh]))
          rw [if_neg hne, if_neg (fun e => hst (congrArg V.s (eqv_iff.1 e)))]
          unfold less
          dsimp only
          rw [if_neg (by simp), if_neg (by simp), less_text, toList_mk, toList_mk]
      | null => cases hk
      | bool n h => cases hk
      | int n => cases hk
      | real r h => cases hk
      | bytes s h => cases hk
  · have hne : a ≠ b := fun e => hk (by rw [e])
    rw [if_neg (fun e => hk (e1.1 e)), if_neg (fun e => hne (eqv_iff.1 e))]
    unfold less
    rw [if_pos hk]
    exact decide_eq_decide.2 e2
def Good (l : List V) : Prop := ∀ v ∈ l, Is v ∧ v.ok
theorem Good.tail {a : V} {l : List V} (h : Good (a :: l)) : Good l := fun v hv => h v (.tail _ hv)
/-- Of two rows. -/
theorem bl_rows : ∀ (l m : List V), Good l → Good m → Op.bytesLess (kputAll l) (kputAll m) = rowLess l m
  | [], [], _, _ => rfl
  | [], b :: m, _, _ => rfl
  | a :: l, [], _, _ => rfl
  | a :: l, b :: m, hl, hm => by
    simp only [kputAll, rowLess]
    rw [bl_value (hl a (.head _)).1 (hm b (.head _)).1 (hl a (.head _)).2 (hm b (.head _)).2]
    rw [bl_rows l m hl.tail hm.tail]
theorem rows_inj {l m : List V} (hl : Good l) (hm : Good m) (h : kputAll l = kputAll m) : l = m := by
  have h1 := reads_put (max l.length m.length) l (Nat.le_max_left _ _) hl
  have h2 := reads_put (max l.length m.length) m (Nat.le_max_right _ _) hm
  rw [h, h2] at h1
  exact (Option.some.inj h1).symm
/-- Does row l begin row m? -/
def pfx : List V → List V → Bool
  | [], _ => true
  | _ :: _, [] => false
  | a :: l, b :: m => eqv a b && pfx l m
theorem pfx_key : ∀ (l m : List V), Good l → Good m → (pfx l m = true ↔ ∃ z, kputAll m = kputAll l ++ z)
  | [], m, _, _ => by simp [pfx, kputAll]
  | a :: l, [], _, _ => by simp [pfx, kputAll, kput]
  | a :: l, b :: m, hl, hm => by
    have ih := pfx_key l m hl.tail hm.tail
    simp only [pfx, Bool.and_eq_true, eqv_iff, ih, kputAll]
    constructor
    · rintro ⟨rfl, z, hz⟩
      exact ⟨z, by rw [hz, List.append_assoc]⟩
    · rintro ⟨z, hz⟩
      have h1 := one_kput (hm b (.head _)).1 (hm b (.head _)).2 (kputAll m)
      have h2 := one_kput (hl a (.head _)).1 (hl a (.head _)).2 (kputAll l ++ z)
      rw [← List.append_assoc, ← hz, h1] at h2
      have h3 := Option.some.inj h2
      exact ⟨(congrArg Prod.fst h3).symm, z, congrArg Prod.snd h3⟩
theorem pfx_len {l m : List V} (h : pfx l m = true) : l.length ≤ m.length := by
  induction l generalizing m with
  | nil => simp
  | cons a l ih =>
    cases m with
    | nil => simp [pfx] at h
    | cons b m =>
      simp only [pfx, Bool.and_eq_true] at h
      have := ih h.2
      simp; omega
theorem pfx_long {l m : List V} (h : m.length < l.length) : pfx l m = false := by
  cases hq : pfx l m
  · rfl
  · have := pfx_len hq; omega
theorem pfx_step {l m : List V} {k : Nat} (hl : k < l.length) (hm : k < m.length) : pfx (l.drop k) (m.drop k) = (eqv l[k] m[k] && pfx (l.drop (k + 1)) (m.drop (k + 1))) := by
  rw [List.drop_eq_getElem_cons hl, List.drop_eq_getElem_cons hm]; rfl
end Go.Proofs.YtbkaphcipbhmhaaDoor.Po6
