/- The document's own reading on plain lists, and that it is the program's. -/
import Derived.Test.YthoiolihkomgmaaDoorCb5
namespace Go.Proofs.YthoiolihkomgmaaDoor.Cg5
open Go Go.Lib Go.Proofs.YthoiolihkomgmaaDoor.Wm Go.Proofs.YthoiolihkomgmaaDoor.Vm Go.Proofs.YthoiolihkomgmaaDoor.Ve Go.Proofs.YthoiolihkomgmaaDoor.Vs Go.Proofs.YthoiolihkomgmaaDoor.Vc Go.Proofs.YthoiolihkomgmaaDoor.Cm Go.Proofs.YthoiolihkomgmaaDoor.Cp5 Go.Proofs.YthoiolihkomgmaaDoor.Cu5 Go.Proofs.YthoiolihkomgmaaDoor.Cb5
/-- Do some bytes begin a letter that has at most so many bytes? -/
def opz (l : List UInt8) (most : Nat) : Bool :=
  decide (firstT (b l 0) < 240) && (decide (firstT (b l 0) % 8 ≤ most) && (decide (l.length < firstT (b l 0) % 8) && (((decide (l.length ≤ 1)) || (decide (accLo (firstT (b l 0) / 16) ≤ b l 1) && decide (b l 1 ≤ accHi (firstT (b l 0) / 16)))) && ((decide (l.length ≤ 2)) || (decide (128 ≤ b l 2) && decide (b l 2 ≤ 191))))))
def tbGo : Nat → List UInt8 → Nat → Nat → Bool
  | 0, _, _, _ => false
  | f + 1, l, n, k => if k ≤ l.length then (if validD (l.take (l.length - k)) = true then (k == 0 || opz (l.drop (l.length - k)) (n - l.length + k)) else tbGo f l n (k + 1)) else false
def tb (l : List UInt8) (n : Nat) : Bool := tbGo 4 l n 0
theorem begins_fuel : ∀ (f g : Nat) (l : List UInt8) (n : Nat), l.length < f → l.length < g → beginsGo f l n = beginsGo g l n
  | 0, _, _, _, h, _ => by omega
  | _, 0, _, _, _, h => by omega
  | f + 1, g + 1, l, n, hf, hg => by
    by_cases h0 : l = []
    · subst h0; rfl
    have hp := List.length_pos_iff.2 h0
    show (if l = [] then true else _) = (if l = [] then true else _)
    rw [if_neg h0, if_neg h0]
    by_cases hfu : full l = true
    · rw [if_pos hfu, if_pos hfu]
      by_cases he : (decodeL l).1 = 65533 ∧ (decodeL l).2 = 1
      · rw [if_pos he, if_pos he]
      · rw [if_neg he, if_neg he]
        have hw := decodeL_width l
        exact begins_fuel f g _ _ (by rw [List.length_drop]; omega) (by rw [List.length_drop]; omega)
    · rw [if_neg hfu, if_neg hfu]
theorem tb_step {l : List UInt8} (h0 : l ≠ []) (ho : ok l) (n : Nat) (hn : l.length ≤ n) : ∀ (f k : Nat), k ≤ l.length - wid l → tbGo f l n k = tbGo f (l.drop (wid l)) (n - wid l) k
  | 0, _, _ => rfl
  | f + 1, k, hk => by
    obtain ⟨_, _, g3, g4⟩ := good h0 ho
    show (if k ≤ l.length then _ else _) = (if k ≤ (l.drop (wid l)).length then _ else _)
    have hd : (l.drop (wid l)).length = l.length - wid l := List.length_drop
    rw [hd, if_pos (by omega), if_pos hk]
    have hne : l.take (l.length - k) ≠ [] := fun e => by have := len_take l (l.length - k) (by omega); rw [e] at this; simp at this; omega
    obtain ⟨k1, k2⟩ := ok_take h0 ho (i := l.length - k) (by omega) (by omega)
    have hv : validD (l.take (l.length - k)) = validD ((l.drop (wid l)).take (l.length - wid l - k)) := by
      rw [ok_valid hne k1, k2, List.drop_take]
      congr 2
      omega
    rw [hv]
    by_cases hval : validD ((l.drop (wid l)).take (l.length - wid l - k)) = true
    · rw [if_pos hval, if_pos hval, List.drop_drop]
      have e1 : wid l + (l.length - wid l - k) = l.length - k := by omega
      have e2 : n - wid l - (l.length - wid l) + k = n - l.length + k := by omega
      rw [e1, e2]
    · rw [if_neg hval, if_neg hval]
      have : k ≠ l.length - wid l := fun e => hval (by rw [e, Nat.sub_self]; rfl)
      exact tb_step h0 ho n hn f (k + 1) (by omega)
theorem tb_none {l : List UInt8} (hp : 1 ≤ l.length) (n : Nat) (hn : l.length ≤ n) (hv : ∀ i, 0 < i → i ≤ l.length → validD (l.take i) = false) : ∀ (f k : Nat), k + f = 4 → k ≤ l.length → tbGo f l n k = if l.length ≤ 3 then opz l n else false
  | 0, k, h, hk => by rw [if_neg (by omega)]; rfl
  | f + 1, k, h, hk => by
    show (if k ≤ l.length then _ else _) = _
    rw [if_pos hk]
    by_cases he : k = l.length
    · have e0 : l.length - k = 0 := by omega
      rw [e0]
      show (if validD [] = true then _ else _) = _
      rw [if_pos (show validD [] = true from rfl), if_pos (by omega), List.drop_zero]
      have e1 : n - l.length + k = n := by omega
      have e2 : (k == 0) = false := by simp; omega
      rw [e1, e2, Bool.false_or]
    · rw [hv (l.length - k) (by omega) (by omega), if_neg (by simp)]
      exact tb_none hp n hn hv f (k + 1) (by omega) (by omega)
theorem full_eq (l : List UInt8) : full l = (decide (firstT (b l 0) % 8 ≤ l.length) || ((decide (1 < l.length) && (decide (b l 1 < accLo (firstT (b l 0) / 16)) || decide (accHi (firstT (b l 0) / 16) < b l 1))) || (decide (2 < l.length) && (decide (b l 2 < 128) || decide (191 < b l 2))))) := rfl
theorem opz_full {l : List UInt8} (n : Nat) (h : full l = true) : opz l n = false := by
  cases ho : opz l n
  · rfl
  exfalso
  unfold opz at ho
  simp only [Bool.and_eq_true, Bool.or_eq_true, decide_eq_true_eq] at ho
  obtain ⟨a1, a2, a3, a4, a5⟩ := ho
  rw [full_eq] at h
  simp only [Bool.or_eq_true, Bool.and_eq_true, decide_eq_true_eq] at h
  omega
theorem opz_short {l : List UInt8} (h0 : l ≠ []) (n : Nat) (h : full l = false) : l.length ≤ 3 ∧ opz l n = decide (lead (l.getD 0 0) ≤ n) := by
  have hp := List.length_pos_iff.2 h0
  have hc := cases_of (b l 0)
  rw [full_eq] at h
  simp only [Bool.or_eq_false_iff, Bool.and_eq_false_iff, decide_eq_false_iff_not] at h
  obtain ⟨a1, a2, a3⟩ := h
  have hlt : firstT (b l 0) < 240 := by omega
  refine ⟨by omega, ?_⟩
  have e : lead (l.getD 0 0) = firstT (b l 0) % 8 := lead_of _ hlt
  rw [e]
  unfold opz
  have q1 : decide (firstT (b l 0) < 240) = true := decide_eq_true hlt
  have q3 : decide (l.length < firstT (b l 0) % 8) = true := decide_eq_true (by omega)
  have q4 : ((decide (l.length ≤ 1)) || (decide (accLo (firstT (b l 0) / 16) ≤ b l 1) && decide (b l 1 ≤ accHi (firstT (b l 0) / 16)))) = true := by
    simp only [Bool.or_eq_true, Bool.and_eq_true, decide_eq_true_eq]; omega
  have q5 : ((decide (l.length ≤ 2)) || (decide (128 ≤ b l 2) && decide (b l 2 ≤ 191))) = true := by
    simp only [Bool.or_eq_true, Bool.and_eq_true, decide_eq_true_eq]; omega
  rw [q1, q3, q4, q5]
  simp
/-- The document's trial of cuts tells what the program's walk over letters does. -/
theorem tb_begins : ∀ (m : Nat) (l : List UInt8) (n : Nat), l.length ≤ m → l.length ≤ n → tb l n = begins l n
  | 0, l, n, h, _ => by
    have : l = [] := List.eq_nil_of_length_eq_zero (by omega)
    subst this; rfl
  | m + 1, l, n, h, hn => by
    by_cases h0 : l = []
    · subst h0; rfl
    have hp := List.length_pos_iff.2 h0
    by_cases ho : ok l
    · obtain ⟨_, _, g3, g4⟩ := good h0 ho
      unfold tb begins
      rw [tb_step h0 ho n hn 4 0 (by omega), begins_ok _ n h0 ho, begins_fuel l.length ((l.drop (wid l)).length + 1) _ _ (by rw [List.length_drop]; omega) (by omega)]
      exact tb_begins m (l.drop (wid l)) (n - wid l) (by rw [List.length_drop]; omega) (by rw [List.length_drop]; omega)
    · have hv : ∀ i, 0 < i → i ≤ l.length → validD (l.take i) = false := fun i hi hl => by
        cases hc : validD (l.take i)
        · rfl
        · have hne : l.take i ≠ [] := fun e => by have := len_take l i hl; rw [e] at this; simp at this; omega
          exact absurd (ok_back hi hl (valid_ok hne hc).1).1 ho
      unfold tb begins
      rw [tb_none hp n hn hv 4 0 (by omega) (by omega)]
      show _ = (if l = [] then true else _)
      rw [if_neg h0]
      cases hf : full l
      · obtain ⟨q1, q2⟩ := opz_short h0 n hf
        rw [if_pos q1, q2, if_neg (by simp)]
      · rw [if_pos rfl, if_pos (bad h0 ho), opz_full n hf]
        simp
/-- How many bytes the document says that a value has; below 0: they do not tell yet. -/
def sz (l : List UInt8) : Int :=
  match l with
  | [] => -1
  | k :: t => if k.toNat = 1 then 2 else if k.toNat = 2 ∨ k.toNat = 3 then 9 else if k.toNat = 4 ∨ k.toNat = 5 then (match t with | [] => -1 | c :: _ => 2 + (c.toNat : Int)) else 1
def whole (l : List UInt8) : V :=
  if b l 0 = 1 then ⟨1, (b l 1 : Int), 0, ⟨#[]⟩⟩ else if b l 0 = 2 then ⟨2, toI (getL (l.drop 1)), 0, ⟨#[]⟩⟩ else if b l 0 = 3 then ⟨3, 0, getL (l.drop 1), ⟨#[]⟩⟩
  else if b l 0 = 4 ∨ b l 0 = 5 then ⟨(b l 0 : Int), 0, 0, bs (l.drop 2)⟩ else ⟨(b l 0 : Int), 0, 0, ⟨#[]⟩⟩
def rb (l : List UInt8) : Bool :=
  match l with
  | [] => true
  | k :: t => if k.toNat = 1 ∨ k.toNat = 2 then true else if k.toNat = 3 then decide (t.length < 8)
    else if k.toNat = 4 then (match t with | [] => true | c :: _ => decide (c.toNat ≤ 100))
    else if k.toNat = 5 then (match t with | [] => true | c :: r => decide (c.toNat ≤ 100) && tb r c.toNat) else false
def refGet (l : List UInt8) : Got V :=
  if sz l < 0 ∨ (l.length : Int) < sz l then (if rb l = true then .bad 6 else .bad 7) else checked (whole (l.take (sz l).toNat)) (l.drop (sz l).toNat)
theorem is_text {k : Int} {S : ByteArray} (h : Is ⟨k, 0, 0, S⟩) (hk : k = 4 ∨ k = 5) : S.size ≤ 100 := by
  generalize hv : (⟨k, 0, 0, S⟩ : V) = u at h
  cases h with
  | null => injection hv with e _ _ _; omega
  | bool n hn => injection hv with e _ _ _; omega
  | int n => injection hv with e _ _ _; omega
  | real r hr => injection hv with e _ _ _; omega
  | bytes s hs => injection hv with _ _ _ e; rw [e]; exact hs
  | string s hs hu => injection hv with _ _ _ e; rw [e]; exact hs
theorem refGet_eq (l : List UInt8) : refGet l = Cm.value l := by
  cases l with
  | nil => rfl
  | cons k t =>
    have hk := k.toNat_lt
    show refGet (k :: t) = rest k.toNat t
    unfold refGet rest
    by_cases h1 : k.toNat = 1
    · have es : sz (k :: t) = 2 := by simp [sz, h1]
      rw [es, if_pos h1]
      cases t with
      | nil => simp [rb, h1, num]
      | cons c r =>
        rw [if_neg (by simp only [List.length_cons]; omega)]
        have : num 1 (c :: r) = .ok c.toNat r := by simp [num, getL]
        rw [this]
        simp [whole, b, h1]
    by_cases h2 : k.toNat = 2
    · have es : sz (k :: t) = 9 := by simp [sz, h2]
      rw [es, if_neg h1, if_pos h2]
      by_cases hl : t.length < 8
      · rw [if_pos (by simp only [List.length_cons]; omega), num_cut 8 t hl]
        simp [rb, h2]
      · rw [if_neg (by simp only [List.length_cons]; omega)]
        have : num 8 t = .ok (getL (t.take 8)) (t.drop 8) := by unfold num; rw [if_pos (by omega)]
        rw [this]
        simp [whole, b, h2]
    by_cases h3 : k.toNat = 3
    · have es : sz (k :: t) = 9 := by simp [sz, h3]
      rw [es, if_neg h1, if_neg h2, if_pos h3]
      by_cases hl : t.length < 8
      · rw [if_pos (by simp only [List.length_cons]; omega), num_cut 8 t hl]
        simp [rb, h3, hl]
      · rw [if_neg (by simp only [List.length_cons]; omega)]
        have : num 8 t = .ok (getL (t.take 8)) (t.drop 8) := by unfold num; rw [if_pos (by omega)]
        rw [this]
        simp [whole, b, h3]
    by_cases h4 : k.toNat = 4
    · rw [if_neg h1, if_neg h2, if_neg h3, if_pos h4]
      cases t with
      | nil => simp [rb, sz, h4, text]
      | cons c r =>
        have hc := c.toNat_lt
        have es : sz (k :: c :: r) = 2 + (c.toNat : Int) := by simp [sz, h4]
        have et : (2 + (c.toNat : Int)).toNat = c.toNat + 2 := by omega
        rw [es]
        unfold text
        simp only
        by_cases hl : r.length < c.toNat
        · rw [if_pos (by simp only [List.length_cons]; omega)]
          by_cases h100 : 100 < c.toNat
          · simp [rb, h4, h100]
          · simp [rb, h4, h100, hl]
        · rw [if_neg (by simp only [List.length_cons]; omega), et]
          by_cases h100 : 100 < c.toNat
          · rw [if_pos h100]
            have hm : may (whole ((k :: c :: r).take (c.toNat + 2))) ≠ true := fun hm => by
              have := (may_is _).1 hm
              have ew : whole ((k :: c :: r).take (c.toNat + 2)) = ⟨4, 0, 0, bs (r.take c.toNat)⟩ := by simp [whole, b, h4]
              rw [ew] at this
              have hsz := is_text this (by omega)
              rw [bs_size, List.length_take] at hsz
              omega
            unfold checked
            rw [if_neg hm]
          · rw [if_neg h100, if_neg hl]
            simp [whole, b, h4]
    by_cases h5 : k.toNat = 5
    · rw [if_neg h1, if_neg h2, if_neg h3, if_neg h4, if_pos h5]
      cases t with
      | nil => simp [rb, sz, h5, text]
      | cons c r =>
        have hc := c.toNat_lt
        have es : sz (k :: c :: r) = 2 + (c.toNat : Int) := by simp [sz, h5]
        have et : (2 + (c.toNat : Int)).toNat = c.toNat + 2 := by omega
        rw [es]
        unfold text
        simp only
        by_cases hl : r.length < c.toNat
        · rw [if_pos (by simp only [List.length_cons]; omega)]
          have htb := tb_begins r.length r c.toNat (Nat.le_refl _) (by omega)
          by_cases h100 : 100 < c.toNat
          · simp [rb, h5, h100]; intro h; omega
          · have h100' : c.toNat ≤ 100 := by omega
            simp [rb, h5, h100, h100', hl, htb]
            cases begins r c.toNat <;> rfl
        · rw [if_neg (by simp only [List.length_cons]; omega), et]
          by_cases h100 : 100 < c.toNat
          · rw [if_pos h100]
            have hm : may (whole ((k :: c :: r).take (c.toNat + 2))) ≠ true := fun hm => by
              have := (may_is _).1 hm
              have ew : whole ((k :: c :: r).take (c.toNat + 2)) = ⟨5, 0, 0, bs (r.take c.toNat)⟩ := by simp [whole, b, h5]
              rw [ew] at this
              have hsz := is_text this (by omega)
              rw [bs_size, List.length_take] at hsz
              omega
            unfold checked
            rw [if_neg hm]
          · rw [if_neg h100, if_neg hl]
            simp [whole, b, h5]
    · have es : sz (k :: t) = 1 := by simp [sz, h1, h2, h3, h4, h5]
      rw [es, if_neg h1, if_neg h2, if_neg h3, if_neg h4, if_neg h5, if_neg (by simp only [List.length_cons]; omega)]
      simp [whole, b, h1, h2, h3, h4, h5]
end Go.Proofs.YthoiolihkomgmaaDoor.Cg5
