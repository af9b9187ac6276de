/- Rows as keys, and what reads them, on plain lists: nothing of the program. -/
import Derived.Test.YtbkaphcipbhmhaaDoorVc
import Derived.Test.YtbkaphcipbhmhaaDoorCm
import Derived.Test.YtbkaphcipbhmhaaDoorKr
import Derived.Test.YtbkaphcipbhmhaaDoorKl6
namespace Go.Proofs.YtbkaphcipbhmhaaDoor.Km6
open Go Go.Proofs.YtbkaphcipbhmhaaDoor.Wm Go.Proofs.YtbkaphcipbhmhaaDoor.Vm Go.Proofs.YtbkaphcipbhmhaaDoor.Vs Go.Proofs.YtbkaphcipbhmhaaDoor.Vc Go.Proofs.YtbkaphcipbhmhaaDoor.Cm Go.Proofs.YtbkaphcipbhmhaaDoor.Kl6
/-- A value's key, a row's key. -/
def kbody (v : V) : List UInt8 :=
  if v.k = 1 then [UInt8.ofNat v.n.toNat] else if v.k = 2 then hi (v.n + 9223372036854775808).toNat else if v.k = 3 then hi (Rm.key v.r)
  else if v.k = 4 ∨ v.k = 5 then esc v.s.data.toList ++ [0, 1] else []
def kput (v : V) : List UInt8 := UInt8.ofNat (v.k.toNat + 1) :: kbody v
def kputAll : List V → List UInt8
  | [] => []
  | v :: r => kput v ++ kputAll r
theorem kputAll_append : ∀ l m : List V, kputAll (l ++ m) = kputAll l ++ kputAll m
  | [], m => rfl
  | v :: r, m => by simp [kputAll, kputAll_append r m]
theorem kputAll_snoc (l : List V) (k : Nat) (h : k < l.length) : kputAll (l.take (k + 1)) = kputAll (l.take k) ++ kput l[k] := by
  rw [List.take_succ_eq_append_getElem h, kputAll_append]
  simp [kputAll]
theorem kput_len {v : V} (h : Is v) : (kput v).length ≤ 203 := by
  cases h with
  | null => simp [kput, kbody]
  | bool n h => simp [kput, kbody]
  | int n => simp [kput, kbody, hi_length]
  | real r h => simp [kput, kbody, hi_length]
  | bytes s h =>
    have := esc_len s.data.toList
    have e : s.data.toList.length = s.size := Array.length_toList
    simp [kput, kbody]; omega
  | string s h hu =>
    have := esc_len s.data.toList
    have e : s.data.toList.length = s.size := Array.length_toList
    simp [kput, kbody]; omega
theorem kputAll_len : ∀ {l : List V}, (∀ v ∈ l, Is v) → (kputAll l).length ≤ l.length * 203
  | [], _ => by simp [kputAll]
  | v :: r, h => by
    have h1 := kput_len (h v (.head _))
    have h2 := kputAll_len (l := r) (fun u hu => h u (.tail _ hu))
    simp only [kputAll, List.length_append, List.length_cons]
    omega
/-- May the row be a key's? -/
def mayK (l : List V) : Bool := decide (l.length ≤ 8) && l.all may
theorem mayK_is {l : List V} (h : mayK l = true) : l.length ≤ 8 ∧ ∀ v ∈ l, Is v := by
  unfold mayK at h
  simp only [Bool.and_eq_true, decide_eq_true_eq, List.all_eq_true] at h
  exact ⟨h.1, fun v hv => (may_is v).1 (h.2 v hv)⟩
theorem is_mayK {l : List V} (h1 : l.length ≤ 8) (h2 : ∀ v ∈ l, Is v) : mayK l = true := by
  unfold mayK
  simp only [Bool.and_eq_true, decide_eq_true_eq, List.all_eq_true]
  exact ⟨h1, fun v hv => (may_is v).2 (h2 v hv)⟩
def nv : V := ⟨0, 0, 0, ⟨#[]⟩⟩
def oneOf (cut : List UInt8 → Option (List UInt8 × List UInt8)) (c : Nat) (r : List UInt8) : Option (V × List UInt8) :=
  if c = 1 then some (nv, r)
  else if c = 2 then (match r with | [] => none | b :: r' => some (⟨1, (b.toNat : Int), 0, ⟨#[]⟩⟩, r'))
  else if c = 3 then (match cutN r with | none => none | some (n, r') => some (⟨2, (n : Int) - 9223372036854775808, 0, ⟨#[]⟩⟩, r'))
  else if c = 4 then (match cutN r with | none => none | some (n, r') => if (Rm.back n).2 = 0 then some (⟨3, 0, (Rm.back n).1, ⟨#[]⟩⟩, r') else none)
  else if c = 5 then (match cut r with | none => none | some (t, r') => some (⟨4, 0, 0, bs t⟩, r'))
  else if c = 6 then (match cut r with | none => none | some (t, r') => some (⟨5, 0, 0, bs t⟩, r'))
  else none
def one (s : List UInt8) : Option (V × List UInt8) := match s with | [] => none | c :: r => oneOf (cutT []) c.toNat r
def rnext (s : List UInt8) : Option (V × List UInt8) := match s with | [] => none | c :: r => oneOf (cutR []) c.toNat r
def reads : Nat → List UInt8 → Option (List V)
  | 0, s => if s = [] then some [] else none
  | k + 1, s => if s = [] then some [] else match one s with | none => none | some (v, r) => if may v = true then (reads k r).map (v :: ·) else none
/-- The same, behind a value that was read. -/
def onP (k : Nat) (v : V) (r : List UInt8) : Option (List V) := match k with | 0 => none | k + 1 => if may v = true then (reads k r).map (v :: ·) else none
theorem reads_nil (k : Nat) : reads k [] = some [] := by cases k <;> simp [reads]
theorem reads_cons (k : Nat) {s : List UInt8} (h : s ≠ []) : reads k s = match one s with | none => none | some (v, r) => onP k v r := by
  cases k with
  | zero =>
    simp only [reads, if_neg h, onP]
    cases one s with
    | none => rfl
    | some p => rfl
  | succ k => simp only [reads, if_neg h, onP]
def kget (s : List UInt8) : Option (List V) := reads 8 s
def rreads : Nat → List UInt8 → Option (List V)
  | 0, s => if s = [] then some [] else none
  | k + 1, s => if s = [] then some [] else match rnext s with | none => none | some (v, r) => (rreads k r).map (v :: ·)
def rget (s : List UInt8) : Option (List V) := match rreads 8 s with | none => none | some l => if mayK l = true ∧ kputAll l = s then some l else none
theorem byte01 {n : Int} (h : n = 0 ∨ n = 1) : ((UInt8.ofNat n.toNat).toNat : Int) = n := by
  rcases h with rfl | rfl <;> decide
theorem oneOf_kput {cut : List UInt8 → Option (List UInt8 × List UInt8)} (hc : ∀ t x : List UInt8, t.length ≤ 100 → cut (esc t ++ 0 :: 1 :: x) = some (t, x)) {v : V} (h : Is v) (hk : v.ok) (x : List UInt8) :
    oneOf cut (UInt8.ofNat (v.k.toNat + 1)).toNat (kbody v ++ x) = some (v, x) := by
  cases h with
  | null => simp [oneOf, kbody, nv]
  | bool n h => rcases h with rfl | rfl <;> simp [oneOf, kbody]
  | int n =>
    have h1 := hk.n.1
    have h2 := hk.n.2
    dsimp only at h1 h2
    have e : cutN (hi (n + 9223372036854775808).toNat ++ x) = some ((n + 9223372036854775808).toNat, x) := cutN_hi (by omega) x
    simp only [oneOf, kbody]
    simp [e]
    omega
  | real r h =>
    have e : cutN (hi (Rm.key r) ++ x) = some (Rm.key r, x) := cutN_hi Rm.key_lt x
    have hb := Kr.back_key (x := r) hk.r
    simp only [oneOf, kbody]
    simp [e, hb, h]
  | bytes s h =>
    have e := hc s.data.toList x (by rw [Array.length_toList]; exact h)
    simp only [oneOf, kbody]
    simp [e, bs_of]
  | string s h hu =>
    have e := hc s.data.toList x (by rw [Array.length_toList]; exact h)
    simp only [oneOf, kbody]
    simp [e, bs_of]
theorem one_kput {v : V} (h : Is v) (hk : v.ok) (x : List UInt8) : one (kput v ++ x) = some (v, x) :=
  oneOf_kput (fun t x ht => by have := cutT_esc t [] x (by simpa using ht); simpa using this) h hk x
theorem rnext_kput {v : V} (h : Is v) (hk : v.ok) (x : List UInt8) : rnext (kput v ++ x) = some (v, x) :=
  oneOf_kput (fun t x _ => by have := cutR_esc t [] x; simpa using this) h hk x
theorem u8_of_nat {c : UInt8} {n : Nat} (h : c.toNat = n) : c = UInt8.ofNat n := by rw [← h]; simp
theorem one_sound {s r : List UInt8} {v : V} (h : one s = some (v, r)) (hm : may v = true) : s = kput v ++ r := by
  cases s with
  | nil => cases h
  | cons c t =>
    have h' : oneOf (cutT []) c.toNat t = some (v, r) := h
    unfold oneOf at h'
    split at h'
    · rename_i hc; cases h'; rw [u8_of_nat hc]; simp [kput, kbody, nv]
    split at h'
    · rename_i hc
      cases t with
      | nil => cases h'
      | cons b t =>
        cases h'
        have hb : (b.toNat : Int) = 0 ∨ (b.toNat : Int) = 1 := by
          have h2 := (may_is _).1 hm
          generalize (b.toNat : Int) = q at h2 ⊢
          cases h2 with
          | bool n h => exact h
        rw [u8_of_nat hc]
        simp [kput, kbody]
    split at h'
    · rename_i hc
      cases hq : cutN t with
      | none => rw [hq] at h'; cases h'
      | some p =>
        obtain ⟨N, r'⟩ := p
        rw [hq] at h'
        cases h'
        obtain ⟨e, _⟩ := cutN_sound hq
        rw [u8_of_nat hc, e]
        simp [kput, kbody]
    split at h'
    · rename_i hc
      cases hq : cutN t with
      | none => rw [hq] at h'; cases h'
      | some p =>
        obtain ⟨N, r'⟩ := p
        rw [hq] at h'
        simp only at h'
        split at h'
        · rename_i hb
          cases h'
          obtain ⟨e, hN⟩ := cutN_sound hq
          rcases Kr.key_back hN with ⟨_, k2, _, _⟩ | ⟨k1, _⟩
          · rw [u8_of_nat hc, e]
            simp [kput, kbody, k2]
          · rw [k1] at hb; cases hb
        · cases h'
    split at h'
    · rename_i hc
      cases hq : cutT [] t with
      | none => rw [hq] at h'; cases h'
      | some p =>
        obtain ⟨u, r'⟩ := p
        rw [hq] at h'
        cases h'
        obtain ⟨t', e1, e2⟩ := cutT_sound _ t [] u r (Nat.le_refl _) hq
        rw [List.nil_append] at e1
        subst e1
        rw [u8_of_nat hc, e2]
        simp [kput, kbody, bs]
    split at h'
    · rename_i hc
      cases hq : cutT [] t with
      | none => rw [hq] at h'; cases h'
      | some p =>
        obtain ⟨u, r'⟩ := p
        rw [hq] at h'
        cases h'
        obtain ⟨t', e1, e2⟩ := cutT_sound _ t [] u r (Nat.le_refl _) hq
        rw [List.nil_append] at e1
        subst e1
        rw [u8_of_nat hc, e2]
        simp [kput, kbody, bs]
    · cases h'
theorem ok_of {k n : Int} {r : Nat} {s : ByteArray} (h1 : 0 ≤ k) (h2 : k ≤ 255) (h3 : -9223372036854775808 ≤ n) (h4 : n ≤ 9223372036854775807) (h5 : r < 18446744073709551616) (h6 : s.size ≤ 140737488351232) : V.ok ⟨k, n, r, s⟩ := ⟨⟨h1, h2⟩, ⟨h3, h4⟩, h5, h6⟩
theorem size0 : (⟨#[]⟩ : ByteArray).size ≤ 140737488351232 := by decide
/-- What is read has fields of their types. -/
theorem oneOf_ok {cut : List UInt8 → Option (List UInt8 × List UInt8)} {c : Nat} {s r : List UInt8} {v : V} (hc : ∀ t x : List UInt8, cut s = some (t, x) → t.length ≤ 140737488351232) (h : oneOf cut c s = some (v, r)) : v.ok := by
  unfold oneOf at h
  split at h
  · cases h; exact ok_of (by omega) (by omega) (by omega) (by omega) (by omega) size0
  split at h
  · cases s with
    | nil => cases h
    | cons b t =>
      cases h
      have := b.toNat_lt
      exact ok_of (by omega) (by omega) (by omega) (by omega) (by omega) size0
  split at h
  · cases hq : cutN s with
    | none => rw [hq] at h; cases h
    | some p =>
      obtain ⟨N, r'⟩ := p
      rw [hq] at h
      cases h
      obtain ⟨_, hN⟩ := cutN_sound hq
      exact ok_of (by omega) (by omega) (by omega) (by omega) (by omega) size0
  split at h
  · cases hq : cutN s with
    | none => rw [hq] at h; cases h
    | some p =>
      obtain ⟨N, r'⟩ := p
      rw [hq] at h
      simp only at h
      split at h
      · rename_i hb
        cases h
        obtain ⟨_, hN⟩ := cutN_sound hq
        rcases Kr.key_back hN with ⟨_, _, _, k4⟩ | ⟨k1, _⟩
        · exact ok_of (by omega) (by omega) (by omega) (by omega) k4 size0
        · rw [k1] at hb; cases hb
      · cases h
  split at h
  · cases hq : cut s with
    | none => rw [hq] at h; cases h
    | some p =>
      obtain ⟨u, r'⟩ := p
      rw [hq] at h
      cases h
      exact ok_of (by omega) (by omega) (by omega) (by omega) (by omega) (by have := hc _ _ hq; rw [bs_size]; exact this)
  split at h
  · cases hq : cut s with
    | none => rw [hq] at h; cases h
    | some p =>
      obtain ⟨u, r'⟩ := p
      rw [hq] at h
      cases h
      exact ok_of (by omega) (by omega) (by omega) (by omega) (by omega) (by have := hc _ _ hq; rw [bs_size]; exact this)
  · cases h
theorem one_ok {s r : List UInt8} {v : V} (h : one s = some (v, r)) : v.ok := by
  cases s with
  | nil => cases h
  | cons c t => exact oneOf_ok (fun u x hu => by have := cutT_len _ t [] u x (Nat.le_refl _) hu; omega) h
theorem rnext_ok {s r : List UInt8} {v : V} (hs : s.length ≤ 140737488351232) (h : rnext s = some (v, r)) : v.ok := by
  cases s with
  | nil => cases h
  | cons c t => exact oneOf_ok (fun u x hu => by have := cutR_len _ t [] u x (Nat.le_refl _) hu; simp at this hs; omega) h
theorem oneOf_rest {cut : List UInt8 → Option (List UInt8 × List UInt8)} {c : Nat} {s r : List UInt8} {v : V} (hc : ∀ t x : List UInt8, cut s = some (t, x) → x.length ≤ s.length) (h : oneOf cut c s = some (v, r)) : r.length ≤ s.length := by
  unfold oneOf at h
  split at h
  · cases h; exact Nat.le_refl _
  split at h
  · cases s with
    | nil => cases h
    | cons b t => cases h; simp
  split at h
  · cases hq : cutN s with
    | none => rw [hq] at h; cases h
    | some p =>
      obtain ⟨N, r'⟩ := p
      rw [hq] at h
      cases h
      have := congrArg List.length (cutN_sound hq).1
      rw [List.length_append] at this; omega
  split at h
  · cases hq : cutN s with
    | none => rw [hq] at h; cases h
    | some p =>
      obtain ⟨N, r'⟩ := p
      rw [hq] at h
      simp only at h
      split at h
      · cases h
        have := congrArg List.length (cutN_sound hq).1
        rw [List.length_append] at this; omega
      · cases h
  split at h
  · cases hq : cut s with
    | none => rw [hq] at h; cases h
    | some p => obtain ⟨u, r'⟩ := p; rw [hq] at h; cases h; exact hc _ _ hq
  split at h
  · cases hq : cut s with
    | none => rw [hq] at h; cases h
    | some p => obtain ⟨u, r'⟩ := p; rw [hq] at h; cases h; exact hc _ _ hq
  · cases h
theorem one_rest {s r : List UInt8} {v : V} (h : one s = some (v, r)) : r.length < s.length := by
  cases s with
  | nil => cases h
  | cons c t =>
    have := oneOf_rest (fun u x hu => by
      obtain ⟨t', _, e⟩ := cutT_sound _ t [] u x (Nat.le_refl _) hu
      have := congrArg List.length e
      simp at this; omega) h
    simp only [List.length_cons]; omega
theorem rnext_rest {s r : List UInt8} {v : V} (h : rnext s = some (v, r)) : r.length < s.length := by
  cases s with
  | nil => cases h
  | cons c t =>
    have := oneOf_rest (fun u x hu => by have := cutR_len _ t [] u x (Nat.le_refl _) hu; simp at this; omega) h
    simp only [List.length_cons]; omega
/-- A row is read just if the bytes are its key. -/
theorem reads_sound : ∀ (k : Nat) (s : List UInt8) (l : List V), reads k s = some l → s = kputAll l ∧ l.length ≤ k ∧ ∀ v ∈ l, Is v ∧ v.ok
  | k, [], l, h => by
    rw [reads_nil] at h; cases h
    exact ⟨rfl, Nat.zero_le _, fun v hv => by cases hv⟩
  | 0, c :: t, l, h => by simp [reads] at h
  | k + 1, c :: t, l, h => by
    rw [reads_cons _ (by simp)] at h
    cases ho : one (c :: t) with
    | none => rw [ho] at h; cases h
    | some p =>
      obtain ⟨v, r⟩ := p
      rw [ho] at h
      simp only [onP] at h
      split at h
      · rename_i hm
        cases hr : reads k r with
        | none => rw [hr] at h; cases h
        | some m =>
          rw [hr] at h
          cases h
          obtain ⟨e1, e2, e3⟩ := reads_sound k r m hr
          refine ⟨?_, by simp; omega, fun u hu => ?_⟩
          · rw [one_sound ho hm, e1]; rfl
          · rcases List.mem_cons.1 hu with rfl | hu
            · exact ⟨(may_is _).1 hm, one_ok ho⟩
            · exact e3 u hu
      · cases h
theorem reads_put : ∀ (k : Nat) (l : List V), l.length ≤ k → (∀ v ∈ l, Is v ∧ v.ok) → reads k (kputAll l) = some l
  | k, [], _, _ => reads_nil k
  | 0, v :: l, h, _ => by simp at h
  | k + 1, v :: l, h, hv => by
    have hne : kputAll (v :: l) ≠ [] := by simp [kputAll, kput]
    rw [reads_cons _ hne]
    have e : one (kputAll (v :: l)) = some (v, kputAll l) := one_kput (hv v (.head _)).1 (hv v (.head _)).2 _
    rw [e]
    simp only [onP]
    rw [if_pos ((may_is _).2 (hv v (.head _)).1), reads_put k l (by simpa using h) (fun u hu => hv u (.tail _ hu))]
    rfl
theorem rreads_put : ∀ (k : Nat) (l : List V), l.length ≤ k → (∀ v ∈ l, Is v ∧ v.ok) → rreads k (kputAll l) = some l
  | 0, [], _, _ => by simp [rreads, kputAll]
  | k + 1, [], _, _ => by simp [rreads, kputAll]
  | 0, v :: l, h, _ => by simp at h
  | k + 1, v :: l, h, hv => by
    have hne : kputAll (v :: l) ≠ [] := by simp [kputAll, kput]
    have e : rnext (kputAll (v :: l)) = some (v, kputAll l) := rnext_kput (hv v (.head _)).1 (hv v (.head _)).2 _
    simp only [rreads, if_neg hne, e]
    rw [rreads_put k l (by simpa using h) (fun u hu => hv u (.tail _ hu))]
    rfl
theorem rreads_ok : ∀ (k : Nat) (s : List UInt8) (l : List V), s.length ≤ 140737488351232 → rreads k s = some l → l.length ≤ k ∧ ∀ v ∈ l, v.ok
  | 0, s, l, hs, h => by
    simp only [rreads] at h
    split at h
    · cases h; exact ⟨Nat.le_refl _, fun v hv => by cases hv⟩
    · cases h
  | k + 1, s, l, hs, h => by
    simp only [rreads] at h
    split at h
    · cases h; exact ⟨Nat.zero_le _, fun v hv => by cases hv⟩
    · cases ho : rnext s with
      | none => rw [ho] at h; cases h
      | some p =>
        obtain ⟨v, r⟩ := p
        rw [ho] at h
        simp only at h
        cases hr : rreads k r with
        | none => rw [hr] at h; cases h
        | some m =>
          rw [hr] at h
          cases h
          have hlt := rnext_rest ho
          obtain ⟨e1, e2⟩ := rreads_ok k r m (by omega) hr
          refine ⟨by simp; omega, fun u hu => ?_⟩
          rcases List.mem_cons.1 hu with rfl | hu
          · exact rnext_ok hs ho
          · exact e2 u hu
/-- The program's reading and the document's are one. -/
theorem rget_eq {s : List UInt8} (hs : s.length ≤ 140737488351232) : rget s = kget s := by
  unfold rget kget
  cases hr : rreads 8 s with
  | none =>
    cases hk : reads 8 s with
    | none => rfl
    | some l =>
      obtain ⟨e1, e2, e3⟩ := reads_sound 8 s l hk
      have := rreads_put 8 l e2 e3
      rw [← e1, hr] at this; cases this
  | some l =>
    simp only
    obtain ⟨e2, e3⟩ := rreads_ok 8 s l hs hr
    split
    · rename_i h
      have := reads_put 8 l e2 (fun v hv => ⟨(mayK_is h.1).2 v hv, e3 v hv⟩)
      rw [h.2] at this; exact this.symm
    · rename_i h
      cases hk : reads 8 s with
      | none => rfl
      | some m =>
        obtain ⟨f1, f2, f3⟩ := reads_sound 8 s m hk
        have := rreads_put 8 m f2 f3
        rw [← f1, hr] at this
        cases this
        exact absurd ⟨is_mayK f2 (fun v hv => (f3 v hv).1), f1.symm⟩ h
end Go.Proofs.YtbkaphcipbhmhaaDoor.Km6
