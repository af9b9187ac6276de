/- Values and rows as bytes, and what reads them, on plain lists: nothing of the program. -/
import Derived.Test.YtbkaphcipbhmhaaDoorVc
import Derived.Test.YtbkaphcipbhmhaaDoorCm0
import Derived.Lib.ValidLaws
import Derived.Lib.MapLaws
import Derived.Lib.BitFns
namespace Go.Proofs.YtbkaphcipbhmhaaDoor.Cm
open Go Go.Lib Go.Proofs.YtbkaphcipbhmhaaDoor.Wm Go.Proofs.YtbkaphcipbhmhaaDoor.Vm Go.Proofs.YtbkaphcipbhmhaaDoor.Ve Go.Proofs.YtbkaphcipbhmhaaDoor.Vs Go.Proofs.YtbkaphcipbhmhaaDoor.Vc
/-- The six kinds of values that may be. -/
inductive Is : V → Prop
  | null : Is ⟨0, 0, 0, ⟨#[]⟩⟩
  | bool (n : Int) (h : n = 0 ∨ n = 1) : Is ⟨1, n, 0, ⟨#[]⟩⟩
  | int (n : Int) : Is ⟨2, n, 0, ⟨#[]⟩⟩
  | real (r : Nat) (h : Rm.canon r = r) : Is ⟨3, 0, r, ⟨#[]⟩⟩
  | bytes (s : ByteArray) (h : s.size ≤ 100) : Is ⟨4, 0, 0, s⟩
  | string (s : ByteArray) (h : s.size ≤ 100) (hu : utf8 s = true) : Is ⟨5, 0, 0, s⟩
theorem eqI_of {k n R k' n' R' : Int} {s s' : ByteArray} : eqI k n R s k' n' R' s' = true ↔ k = k' ∧ n = n' ∧ R = R' ∧ s = s' := by
  unfold eqI
  simp only [Bool.and_eq_true, beq_iff_eq]
  exact ⟨fun ⟨a, b, c, d⟩ => ⟨a, b, c, bytes_ext d⟩, fun ⟨a, b, c, d⟩ => ⟨a, b, c, by rw [d]⟩⟩
theorem nat0 {r : Nat} (h : (r : Int) = 0) : r = 0 := by omega
theorem may_is (v : V) : may v = true ↔ Is v := by
  obtain ⟨k, n, r, s⟩ := v
  constructor
  · intro h
    unfold may at h
    simp only at h
    by_cases h0 : k = 0
    · rw [if_pos h0] at h
      obtain ⟨-, h1, h2, h3⟩ := eqI_of.1 h
      rw [h0, h1, nat0 h2, h3]; exact .null
    rw [if_neg h0] at h
    by_cases h1 : k = 1
    · rw [if_pos h1] at h
      by_cases hn : n = 0 ∨ n = 1
      · rw [if_pos hn] at h
        obtain ⟨-, -, h2, h3⟩ := eqI_of.1 h
        rw [h1, nat0 h2, h3]; exact .bool n hn
      · rw [if_neg hn] at h; cases h
    rw [if_neg h1] at h
    by_cases h2 : k = 2
    · rw [if_pos h2] at h
      obtain ⟨-, -, h3, h4⟩ := eqI_of.1 h
      rw [h2, nat0 h3, h4]; exact .int n
    rw [if_neg h2] at h
    by_cases h3 : k = 3
    · rw [if_pos h3] at h
      by_cases hr : Rm.canon r = r
      · rw [if_pos hr] at h
        obtain ⟨-, a, -, b⟩ := eqI_of.1 h
        rw [h3, a, b]; exact .real r hr
      · rw [if_neg hr] at h; cases h
    rw [if_neg h3] at h
    by_cases h4 : k = 4
    · rw [if_pos h4] at h
      by_cases hs : s.size ≤ 100
      · rw [if_pos hs] at h
        obtain ⟨-, a, b, -⟩ := eqI_of.1 h
        rw [h4, a, nat0 b]; exact .bytes s hs
      · rw [if_neg hs] at h; cases h
    rw [if_neg h4] at h
    by_cases h5 : k = 5
    · rw [if_pos h5] at h
      by_cases hu : utf8 s = true
      · rw [if_pos hu] at h
        by_cases hs : s.size ≤ 100
        · rw [if_pos hs] at h
          obtain ⟨-, a, b, -⟩ := eqI_of.1 h
          rw [h5, a, nat0 b]; exact .string s hs hu
        · rw [if_neg hs] at h; cases h
      · rw [if_neg hu] at h; cases h
    rw [if_neg h5] at h; cases h
  · intro h
    cases h with
    | null => simp [may, eqI]
    | bool n h => simp [may, h, eqI]
    | int n => simp [may, eqI]
    | real r h => simp [may, h, eqI]
    | bytes s h => simp [may, h, eqI]
    | string s h hu => simp [may, h, hu, eqI]
/-- The bytes of a value behind its kind's, of a value, of values, of a row. -/
def body (v : V) : List UInt8 :=
  if v.k = 1 then putN (u64 v.n) 1 else if v.k = 2 then putN (u64 v.n) 8 else if v.k = 3 then putN v.r 8
  else if v.k = 4 ∨ v.k = 5 then putN v.s.size 1 ++ v.s.data.toList else []
def put (v : V) : List UInt8 := putN (u64 v.k) 1 ++ body v
def putAll : List V → List UInt8
  | [] => []
  | v :: r => put v ++ putAll r
def putRow (l : List V) : List UInt8 := putN l.length 1 ++ putAll l
theorem putAll_append : ∀ l m : List V, putAll (l ++ m) = putAll l ++ putAll m
  | [], m => rfl
  | v :: r, m => by simp [putAll, putAll_append r m]
theorem body_len {v : V} (h : Is v) : (body v).length ≤ 101 := by
  cases h <;> simp [body, putN_length, putN]
  · assumption
  · assumption
theorem put_len {v : V} (h : Is v) : (put v).length ≤ 102 := by
  have := body_len h
  simp only [put, List.length_append, putN_length]
  omega
theorem putAll_len : ∀ {l : List V}, (∀ v ∈ l, Is v) → (putAll l).length ≤ l.length * 102
  | [], _ => by simp [putAll]
  | v :: r, h => by
    have h1 := put_len (h v (.head _))
    have h2 := putAll_len (l := r) (fun u hu => h u (.tail _ hu))
    simp only [putAll, List.length_append, List.length_cons]
    omega
theorem row_is {l : List V} (h : mayRow l = true) : 1 ≤ l.length ∧ l.length ≤ 8 ∧ ∀ v ∈ l, Is v := by
  unfold mayRow at h
  simp only [Bool.and_eq_true, decide_eq_true_eq, List.all_eq_true] at h
  exact ⟨h.1, h.2.1, fun v hv => (may_is v).1 (h.2.2 v hv)⟩
theorem is_row {l : List V} (h1 : 1 ≤ l.length) (h2 : l.length ≤ 8) (h : ∀ v ∈ l, Is v) : mayRow l = true := by
  unfold mayRow
  simp only [Bool.and_eq_true, decide_eq_true_eq, List.all_eq_true]
  exact ⟨h1, h2, fun v hv => (may_is v).2 (h v hv)⟩
theorem putRow_len {l : List V} (h : mayRow l = true) : (putRow l).length ≤ 817 := by
  obtain ⟨_, h2, h3⟩ := row_is h
  have := putAll_len h3
  simp only [putRow, List.length_append, putN_length]
  omega
def text (b : List UInt8 → Nat → Bool) (s : List UInt8) : Got (List UInt8) :=
  match s with
  | [] => .bad 6
  | c :: r => if 100 < c.toNat then .bad 7 else if r.length < c.toNat then (if b r c.toNat = true then .bad 6 else .bad 7) else .ok (r.take c.toNat) (r.drop c.toNat)
def checked (v : V) (r : List UInt8) : Got V := if may v = true then .ok v r else .bad 7
/-- Are bytes, fewer than a letter's, told to be a whole letter, or none? -/
def full (l : List UInt8) : Bool :=
  decide (firstT (l.getD 0 0).toNat % 8 ≤ l.length) || ((decide (1 < l.length) && (decide ((l.getD 1 0).toNat < accLo (firstT (l.getD 0 0).toNat / 16)) || decide (accHi (firstT (l.getD 0 0).toNat / 16) < (l.getD 1 0).toNat))) || (decide (2 < l.length) && (decide ((l.getD 2 0).toNat < 128) || decide (191 < (l.getD 2 0).toNat))))
def lead (c : UInt8) : Nat := 8 - Lib.bitLen (255 - c.toNat)
def beginsGo : Nat → List UInt8 → Nat → Bool
  | 0, _, _ => true
  | f + 1, l, n => if l = [] then true else if full l = true then (if (decodeL l).1 = 65533 ∧ (decodeL l).2 = 1 then false else beginsGo f (l.drop (decodeL l).2) (n - (decodeL l).2)) else decide (lead (l.getD 0 0) ≤ n)
def begins (l : List UInt8) (n : Nat) : Bool := beginsGo (l.length + 1) l n
def rest (k : Nat) (r : List UInt8) : Got V :=
  if k = 1 then (match num 1 r with | .ok n r' => checked ⟨1, (n : Int), 0, ⟨#[]⟩⟩ r' | .bad c => .bad c)
  else if k = 2 then (match num 8 r with | .ok n r' => checked ⟨2, toI n, 0, ⟨#[]⟩⟩ r' | .bad c => .bad c)
  else if k = 3 then (match num 8 r with | .ok n r' => checked ⟨3, 0, n, ⟨#[]⟩⟩ r' | .bad c => .bad c)
  else if k = 4 then (match text (fun _ _ => true) r with | .ok t r' => checked ⟨4, 0, 0, bs t⟩ r' | .bad c => .bad c)
  else if k = 5 then (match text begins r with | .ok t r' => checked ⟨5, 0, 0, bs t⟩ r' | .bad c => .bad c)
  else checked ⟨(k : Int), 0, 0, ⟨#[]⟩⟩ r
def value (s : List UInt8) : Got V := match s with | [] => .bad 6 | k :: r => rest k.toNat r
def many : Nat → List UInt8 → Got (List V)
  | 0, s => .ok [] s
  | n + 1, s => match value s with
    | .bad c => .bad c
    | .ok v r => match many n r with
      | .bad c => .bad c
      | .ok l r' => .ok (v :: l) r'
def row (s : List UInt8) : Got (List V) := match s with
  | [] => .bad 6
  | n :: r => if 1 ≤ n.toNat ∧ n.toNat ≤ 8 then many n.toNat r else .bad 7
end Go.Proofs.YtbkaphcipbhmhaaDoor.Cm
