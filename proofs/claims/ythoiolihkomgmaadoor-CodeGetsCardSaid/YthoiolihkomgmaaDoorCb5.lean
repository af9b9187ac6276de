/- All that is less is ErrEnd; of what is got the bytes are what it was got of: on plain lists. -/
import Derived.Test.YthoiolihkomgmaaDoorCu5
namespace Go.Proofs.YthoiolihkomgmaaDoor.Cb5
open Go Go.Proofs.YthoiolihkomgmaaDoor.Wm Go.Proofs.YthoiolihkomgmaaDoor.Vm Go.Proofs.YthoiolihkomgmaaDoor.Ve Go.Proofs.YthoiolihkomgmaaDoor.Vs Go.Proofs.YthoiolihkomgmaaDoor.Vc Go.Proofs.YthoiolihkomgmaaDoor.Cm Go.Proofs.YthoiolihkomgmaaDoor.Cp5 Go.Proofs.YthoiolihkomgmaaDoor.Cu5
theorem num_cut (m : Nat) (s : List UInt8) (h : s.length < m) : num m s = .bad 6 := by
  unfold num
  rw [if_neg (by omega)]
theorem text_cut (b : List UInt8 → Nat → Bool) (s : List UInt8) (h : s.length ≤ 100) (hb : ∀ i, i < s.length → b (s.take i) s.length = true) (j : Nat) (hj : j < (putN s.length 1 ++ s).length) : text b ((putN s.length 1 ++ s).take j) = .bad 6 := by
  rw [put1 _ (by omega)] at hj ⊢
  cases j with
  | zero => rfl
  | succ i =>
    have hi : i < s.length := by simp at hj; omega
    show (if 100 < (UInt8.ofNat s.length).toNat then _ else if (s.take i).length < (UInt8.ofNat s.length).toNat then (if b (s.take i) (UInt8.ofNat s.length).toNat = true then _ else _) else _) = _
    rw [byte _ (by omega), if_neg (by omega), if_pos (by rw [List.length_take]; omega), if_pos (hb i hi)]
/-- Less than a value's bytes is ErrEnd. -/
theorem value_cut {v : V} (h : Is v) (j : Nat) (hj : j < (put v).length) : Cm.value ((put v).take j) = .bad 6 := by
  cases j with
  | zero => rfl
  | succ i =>
    cases h with
    | null => simp [put, body, putN] at hj
    | bool n hn =>
      show (match num 1 ((putN (u64 n) 1).take i) with | .ok n r' => checked ⟨1, (n : Int), 0, ⟨#[]⟩⟩ r' | .bad c => .bad c) = _
      have : i < 1 := by simp [put, body, putN_length] at hj; omega
      rw [num_cut 1 _ (by rw [List.length_take]; omega)]
    | int n =>
      show (match num 8 ((putN (u64 n) 8).take i) with | .ok n r' => checked ⟨2, toI n, 0, ⟨#[]⟩⟩ r' | .bad c => .bad c) = _
      have : i < 8 := by simp [put, body, putN_length] at hj; omega
      rw [num_cut 8 _ (by rw [List.length_take]; omega)]
    | real r hr =>
      show (match num 8 ((putN r 8).take i) with | .ok n r' => checked ⟨3, 0, n, ⟨#[]⟩⟩ r' | .bad c => .bad c) = _
      have : i < 8 := by simp [put, body, putN_length] at hj; omega
      rw [num_cut 8 _ (by rw [List.length_take]; omega)]
    | bytes s hs =>
      show (match text (fun _ _ => true) ((putN s.size 1 ++ s.data.toList).take i) with | .ok t r' => checked ⟨4, 0, 0, bs t⟩ r' | .bad c => .bad c) = _
      have hi : i < (putN s.size 1 ++ s.data.toList).length := by simp [put, body, putN_length] at hj ⊢; omega
      rw [← size_of] at hi ⊢
      rw [text_cut _ _ (by rw [size_of]; exact hs) (fun _ _ => rfl) i hi]
    | string s hs hu =>
      show (match text begins ((putN s.size 1 ++ s.data.toList).take i) with | .ok t r' => checked ⟨5, 0, 0, bs t⟩ r' | .bad c => .bad c) = _
      have hi : i < (putN s.size 1 ++ s.data.toList).length := by simp [put, body, putN_length] at hj ⊢; omega
      rw [← size_of] at hi ⊢
      rw [text_cut begins _ (by rw [size_of]; exact hs) (fun k hk => by unfold begins; exact begins_take _ _ k _ (by rw [List.length_take]; omega) (by omega) (Nat.le_refl _) hu) i hi]
theorem many_cut : ∀ (l : List V) (j : Nat), (∀ v ∈ l, Is v) → (∀ v ∈ l, v.ok) → j < (putAll l).length → many l.length ((putAll l).take j) = .bad 6
  | [], j, _, _, h => by simp [putAll] at h
  | v :: l, j, h, hk, hj => by
    simp only [List.length_cons, many, putAll]
    simp only [putAll, List.length_append] at hj
    by_cases hv : j < (put v).length
    · rw [List.take_append_of_le_length (by omega), value_cut (h v (.head _)) j hv]
    · rw [List.take_append, List.take_of_length_le (by omega), value_put (h v (.head _)) (hk v (.head _))]
      simp only
      rw [many_cut l (j - (put v).length) (fun u hu => h u (.tail _ hu)) (fun u hu => hk u (.tail _ hu)) (by omega)]
theorem row_cut {l : List V} (h : mayRow l = true) (hk : ∀ v ∈ l, v.ok) (j : Nat) (hj : j < (putRow l).length) : Cm.row ((putRow l).take j) = .bad 6 := by
  obtain ⟨h1, h2, h3⟩ := row_is h
  unfold putRow at hj ⊢
  rw [put1 _ (by omega)] at hj ⊢
  cases j with
  | zero => rfl
  | succ i =>
    show (if 1 ≤ (UInt8.ofNat l.length).toNat ∧ (UInt8.ofNat l.length).toNat ≤ 8 then many (UInt8.ofNat l.length).toNat ((putAll l).take i) else .bad 7) = _
    rw [byte _ (by omega), if_pos ⟨h1, h2⟩]
    exact many_cut l i h3 hk (by simp at hj; omega)
/-- What is got has the bytes that it was got of. -/
def Back (v : V) (s r : List UInt8) : Prop := s = put v ++ r ∧ Is v ∧ v.ok
theorem byte_of (c : UInt8) : UInt8.ofNat c.toNat = c := by simp
theorem checked_inv {u v : V} {x r : List UInt8} (h : checked u x = .ok v r) : u = v ∧ x = r ∧ Is v := by
  unfold checked at h
  split at h
  · rename_i hm
    cases h
    exact ⟨rfl, rfl, (may_is _).1 hm⟩
  · cases h
theorem num_inv {m : Nat} {s r : List UInt8} {n : Nat} (h : num m s = .ok n r) : s = putN n m ++ r ∧ n < 256 ^ m := by
  unfold num at h
  split at h
  · rename_i hm
    cases h
    have hl : (s.take m).length = m := by rw [List.length_take]; omega
    have e := putN_getL (s.take m)
    rw [hl] at e
    have g := getL_lt (s.take m)
    rw [hl] at g
    exact ⟨by rw [e, List.take_append_drop], g⟩
  · cases h
theorem text_inv {b : List UInt8 → Nat → Bool} {s t r : List UInt8} (h : text b s = .ok t r) : s = putN t.length 1 ++ t ++ r ∧ t.length ≤ 100 := by
  cases s with
  | nil => cases h
  | cons c s =>
    unfold text at h
    simp only at h
    split at h
    · cases h
    split at h
    · split at h <;> cases h
    · cases h
      have hc := c.toNat_lt
      have hl : (s.take c.toNat).length = c.toNat := by rw [List.length_take]; omega
      rw [hl, put1 _ hc, byte_of]
      exact ⟨by simp, by omega⟩
theorem u8 (k : Nat) (c : UInt8) (h : c.toNat = k) : c = UInt8.ofNat k := by rw [← h]; simp
theorem okv {k n : Int} {r : Nat} {s : ByteArray} (hk : 0 ≤ k ∧ k ≤ 255) (hn : -9223372036854775808 ≤ n ∧ n ≤ 9223372036854775807) (hr : r < 18446744073709551616) (hs : s.size ≤ 140737488351232) : V.ok ⟨k, n, r, s⟩ := ⟨hk, hn, hr, hs⟩
theorem value_back {s r : List UInt8} {v : V} (h : Cm.value s = .ok v r) : Back v s r := by
  cases s with
  | nil => cases h
  | cons c s =>
    have hc := c.toNat_lt
    have h' : rest c.toNat s = .ok v r := h
    unfold rest at h'
    by_cases h1 : c.toNat = 1
    · rw [if_pos h1] at h'
      cases hq : num 1 s with
      | bad d => rw [hq] at h'; cases h'
      | ok n x =>
        rw [hq] at h'
        obtain ⟨rfl, rfl, hi⟩ := checked_inv h'
        obtain ⟨e, g⟩ := num_inv hq
        refine ⟨?_, hi, okv (by omega) (by omega) (by omega) (Nat.zero_le _)⟩
        rw [u8 1 c h1, e]
        show _ = putN 1 1 ++ putN (u64 (n : Int)) 1 ++ x
        rw [show u64 (n : Int) = n by unfold u64; omega]
        rfl
    rw [if_neg h1] at h'
    by_cases h2 : c.toNat = 2
    · rw [if_pos h2] at h'
      cases hq : num 8 s with
      | bad d => rw [hq] at h'; cases h'
      | ok n x =>
        rw [hq] at h'
        obtain ⟨rfl, rfl, hi⟩ := checked_inv h'
        obtain ⟨e, g⟩ := num_inv hq
        refine ⟨?_, hi, okv (by omega) (toI_range (by omega)) (by omega) (Nat.zero_le _)⟩
        rw [u8 2 c h2, e]
        show _ = putN 2 1 ++ putN (u64 (toI n)) 8 ++ x
        rw [u64_toI (by omega)]
        rfl
    rw [if_neg h2] at h'
    by_cases h3 : c.toNat = 3
    · rw [if_pos h3] at h'
      cases hq : num 8 s with
      | bad d => rw [hq] at h'; cases h'
      | ok n x =>
        rw [hq] at h'
        obtain ⟨rfl, rfl, hi⟩ := checked_inv h'
        obtain ⟨e, g⟩ := num_inv hq
        refine ⟨?_, hi, okv (by omega) (by omega) (by omega) (Nat.zero_le _)⟩
        rw [u8 3 c h3, e]
        rfl
    rw [if_neg h3] at h'
    by_cases h4 : c.toNat = 4
    · rw [if_pos h4] at h'
      cases hq : text (fun _ _ => true) s with
      | bad d => rw [hq] at h'; cases h'
      | ok t x =>
        rw [hq] at h'
        obtain ⟨rfl, rfl, hi⟩ := checked_inv h'
        obtain ⟨e, g⟩ := text_inv hq
        refine ⟨?_, hi, okv (by omega) (by omega) (by omega) (by rw [bs_size]; omega)⟩
        rw [u8 4 c h4, e]
        rfl
    rw [if_neg h4] at h'
    by_cases h5 : c.toNat = 5
    · rw [if_pos h5] at h'
      cases hq : text begins s with
      | bad d => rw [hq] at h'; cases h'
      | ok t x =>
        rw [hq] at h'
        obtain ⟨rfl, rfl, hi⟩ := checked_inv h'
        obtain ⟨e, g⟩ := text_inv hq
        refine ⟨?_, hi, okv (by omega) (by omega) (by omega) (by rw [bs_size]; omega)⟩
        rw [u8 5 c h5, e]
        rfl
    rw [if_neg h5] at h'
    obtain ⟨rfl, rfl, hi⟩ := checked_inv h'
    have h0 : c.toNat = 0 := by
      generalize hk : (⟨(c.toNat : Int), 0, 0, ⟨#[]⟩⟩ : V) = u at hi
      cases hi <;> (injection hk with hk _ _ _; omega)
    refine ⟨?_, hi, okv (by omega) (by omega) (by omega) (Nat.zero_le _)⟩
    rw [u8 0 c h0]
    rfl
theorem many_back : ∀ (n : Nat) (s r : List UInt8) (l : List V), many n s = .ok l r → s = putAll l ++ r ∧ l.length = n ∧ (∀ v ∈ l, Is v) ∧ (∀ v ∈ l, v.ok)
  | 0, s, r, l, h => by cases h; exact ⟨rfl, rfl, fun v hv => (by cases hv), fun v hv => (by cases hv)⟩
  | n + 1, s, r, l, h => by
    cases hv : Cm.value s with
    | bad c => simp only [many, hv] at h; cases h
    | ok v t =>
      simp only [many, hv] at h
      cases hm : many n t with
      | bad c => rw [hm] at h; cases h
      | ok m x =>
        rw [hm] at h
        cases h
        obtain ⟨e1, e2, e3⟩ := value_back hv
        obtain ⟨f1, f2, f3, f4⟩ := many_back n t _ m hm
        refine ⟨by rw [e1, f1, putAll, List.append_assoc], by rw [List.length_cons, f2], fun u hu => ?_, fun u hu => ?_⟩
        · rcases List.mem_cons.1 hu with rfl | hu
          · exact e2
          · exact f3 u hu
        · rcases List.mem_cons.1 hu with rfl | hu
          · exact e3
          · exact f4 u hu
theorem row_back {s r : List UInt8} {l : List V} (h : Cm.row s = .ok l r) : s = putRow l ++ r ∧ mayRow l = true ∧ ∀ v ∈ l, v.ok := by
  cases s with
  | nil => cases h
  | cons c t =>
    unfold Cm.row at h
    simp only at h
    split at h
    · rename_i hc
      obtain ⟨e1, e2, e3, e4⟩ := many_back _ _ _ _ h
      refine ⟨?_, is_row (by omega) (by omega) e3, e4⟩
      unfold putRow
      rw [e2, put1 _ c.toNat_lt, byte_of, e1]
      rfl
    · cases h
theorem row_bad {s : List UInt8} {c : Int} (h : Cm.row s = .bad c) : c = 6 ∨ c = 7 := by
  have hnum : ∀ m x d, num m x = .bad d → d = 6 ∨ d = 7 := fun m x d hd => by
    unfold num at hd
    split at hd <;> cases hd
    exact .inl rfl
  have htext : ∀ b x d, text b x = .bad d → d = 6 ∨ d = 7 := fun b x d hd => by
    cases x with
    | nil => cases hd; exact .inl rfl
    | cons k x =>
      unfold text at hd
      simp only at hd
      split at hd
      · cases hd; exact .inr rfl
      split at hd
      · split at hd <;> cases hd
        · exact .inl rfl
        · exact .inr rfl
      · cases hd
  have hch : ∀ u x d, checked u x = .bad d → d = 6 ∨ d = 7 := fun u x d hd => by
    unfold checked at hd
    split at hd <;> cases hd
    exact .inr rfl
  have hval : ∀ x d, Cm.value x = .bad d → d = 6 ∨ d = 7 := fun x d hd => by
    cases x with
    | nil => cases hd; exact .inl rfl
    | cons k x =>
      have h' : rest k.toNat x = .bad d := hd
      unfold rest at h'
      split at h'
      · cases hq : num 1 x with
        | bad e => rw [hq] at h'; cases h'; exact hnum _ _ _ hq
        | ok n y => rw [hq] at h'; exact hch _ _ _ h'
      split at h'
      · cases hq : num 8 x with
        | bad e => rw [hq] at h'; cases h'; exact hnum _ _ _ hq
        | ok n y => rw [hq] at h'; exact hch _ _ _ h'
      split at h'
      · cases hq : num 8 x with
        | bad e => rw [hq] at h'; cases h'; exact hnum _ _ _ hq
        | ok n y => rw [hq] at h'; exact hch _ _ _ h'
      split at h'
      · cases hq : text (fun _ _ => true) x with
        | bad e => rw [hq] at h'; cases h'; exact htext _ _ _ hq
        | ok n y => rw [hq] at h'; exact hch _ _ _ h'
      split at h'
      · cases hq : text begins x with
        | bad e => rw [hq] at h'; cases h'; exact htext _ _ _ hq
        | ok n y => rw [hq] at h'; exact hch _ _ _ h'
      exact hch _ _ _ h'
  have hmany : ∀ n x d, many n x = .bad d → d = 6 ∨ d = 7 := fun n => by
    induction n with
    | zero => intro x d hd; cases hd
    | succ n ih =>
      intro x d hd
      cases hv : Cm.value x with
      | bad e => simp only [many, hv] at hd; cases hd; exact hval _ _ hv
      | ok v y =>
        simp only [many, hv] at hd
        cases hm : many n y with
        | bad e => rw [hm] at hd; cases hd; exact ih _ _ hm
        | ok m z => rw [hm] at hd; cases hd
  cases s with
  | nil => cases h; exact .inl rfl
  | cons k s =>
    unfold Cm.row at h
    simp only at h
    split at h
    · exact hmany _ _ _ h
    · cases h; exact .inr rfl
end Go.Proofs.YthoiolihkomgmaaDoor.Cb5
