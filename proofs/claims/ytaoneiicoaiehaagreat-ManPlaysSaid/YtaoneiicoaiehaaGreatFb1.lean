/- Plain arithmetic on numbers as bytes and as digits: nothing of the program. Plain arithmetic on the remainder of a text's bits: nothing of the program. Plain arithmetic on turned bits: nothing of the program. The contract of word.Put: what it answers, and that it leaves all old memory alone, for every number and every count. The contract of word.Get: what it answers, for every text; it leaves the world alone. The contracts of word.Sum and of what it calls: the CRC-32 of every text; all old memory is left alone. The contracts of the document's own room (package fascicleref01): it leaves the world alone. The contracts of the document's own Put and Get (package fascicleref01): they answer as word.Put and word.Get do. The contract of the document's own Sum (package fascicleref01): the CRC-32 of every text; the world is left alone. -/
import Derived.WalkKit
import Derived.Laws.Cover4
import Derived.Test.YtaoneiicoaiehaaGreatProg
import Derived.Lib.Hide
import Derived.Deep.OwnRows
import Derived.RegionTactic
import Derived.ChangeAlike
namespace Go.Proofs.YtaoneiicoaiehaaGreat.Wm
set_option maxRecDepth 100000
open Go
theorem ret_ii {k j : IntKind} {a b c d : Int} (h : a = b) (h' : c = d) : Ending.returned (.tuple #[.int k a, .int j c]) = Ending.returned (.tuple #[.int k b, .int j d]) := by rw [h, h']
theorem ret_si {j : IntKind} {a b : ByteArray} {c d : Int} (h : a = b) (h' : c = d) : Ending.returned (.tuple #[.string a, .int j c]) = Ending.returned (.tuple #[.string b, .int j d]) := by rw [h, h']
theorem ret_ib {k : IntKind} {a b : Int} {c d : Bool} (h : a = b) (h' : c = d) : Ending.returned (.tuple #[.int k a, .bool c]) = Ending.returned (.tuple #[.int k b, .bool d]) := by rw [h, h']
theorem ret_i {k : IntKind} {a b : Int} (h : a = b) : Ending.returned (.int k a) = .returned (.int k b) := by rw [h]
/-- The m bytes of v, the lowest one first. -/
def putN (v : Nat) : Nat → List UInt8
  | 0 => []
  | m + 1 => UInt8.ofNat (v % 256) :: putN (v / 256) m
theorem putN_length : ∀ (m v : Nat), (putN v m).length = m
  | 0, _ => rfl
  | m + 1, v => by simp [putN, putN_length m]
theorem putN_get : ∀ (m v j : Nat) (h : j < (putN v m).length), ((putN v m)[j]).toNat = v / 256 ^ j % 256
  | 0, _, _, h => by simp [putN] at h
  | m + 1, v, 0, h => by simp [putN]
  | m + 1, v, j + 1, h => by
    simp only [putN, List.getElem_cons_succ]
    rw [putN_get m (v / 256) j, Nat.div_div_eq_div_mul, Nat.pow_succ, Nat.mul_comm]
/-- The number whose bytes these are, the lowest one first. -/
def getL : List UInt8 → Nat
  | [] => 0
  | b :: r => b.toNat + 256 * getL r
theorem getL_lt : ∀ l : List UInt8, getL l < 256 ^ l.length
  | [] => by simp [getL]
  | b :: r => by
    have h := getL_lt r
    have hb := b.toNat_lt
    simp only [getL, List.length_cons, Nat.pow_succ]
    omega
theorem getL_snoc : ∀ (l : List UInt8) (b : UInt8), getL (l ++ [b]) = getL l + 256 ^ l.length * b.toNat
  | [], b => by simp [getL]
  | c :: r, b => by
    simp only [List.cons_append, getL, getL_snoc r b, List.length_cons, Nat.pow_succ, Nat.mul_add]
    rw [Nat.mul_comm (256 ^ r.length) 256, Nat.mul_assoc]; omega
theorem getL_putN : ∀ (m v : Nat), getL (putN v m) = v % 256 ^ m
  | 0, v => by simp [getL, putN, Nat.mod_one]
  | m + 1, v => by
    simp only [getL, putN, getL_putN m (v / 256)]
    rw [Nat.pow_succ, Nat.mul_comm (256 ^ m) 256, Nat.mod_mul]
    simp
theorem putN_getL : ∀ l : List UInt8, putN (getL l) l.length = l
  | [] => rfl
  | b :: r => by
    have hb := b.toNat_lt
    have h1 : (b.toNat + 256 * getL r) % 256 = b.toNat := by omega
    have h2 : (b.toNat + 256 * getL r) / 256 = getL r := by omega
    simp [getL, putN, h1, h2, putN_getL r]
theorem pow256 (k : Nat) : (256 : Nat) ^ k = 2 ^ (8 * k) := by rw [Nat.pow_mul]
theorem pow16 (k : Nat) : (16 : Nat) ^ k = 2 ^ (4 * k) := by rw [Nat.pow_mul]
theorem wrap_u64_small (n : Nat) (h : n < 18446744073709551616) : IntKind.u64.wrap (n : Int) = (n : Int) := by
  simp only [IntKind.wrap, IntKind.bits, IntKind.signed]
  simp
  omega
/-- One round of Get. -/
theorem get_step (l : List UInt8) (b : UInt8) (k : Nat) (hl : l.length = k) (hk : k < 8) :
    bits .or .u64 (getL l : Int) (IntKind.u64.wrap (IntKind.u64.wrap (b.toNat : Int) * 2 ^ (8 * k))) = (getL (l ++ [b]) : Int) := by
  subst hl
  have hb := b.toNat_lt
  have h1 : (2 : Nat) ^ (8 * l.length) ≤ 2 ^ 56 := Nat.pow_le_pow_right (by omega) (by omega)
  have h2 : b.toNat * 2 ^ (8 * l.length) ≤ 255 * 2 ^ 56 := Nat.mul_le_mul (by omega) h1
  have h3 := getL_lt l
  rw [pow256] at h3
  rw [wrap_u64_small _ (by omega)]
  have e : ((b.toNat : Int) * 2 ^ (8 * l.length)) = ((b.toNat * 2 ^ (8 * l.length) : Nat) : Int) := by
    rw [Int.natCast_mul, Int.natCast_pow]; rfl
  rw [e, wrap_u64_small _ (by omega), u64_or_nat _ _ (by omega) (by omega), getL_snoc, Nat.or_comm, Nat.mul_comm, ← Nat.two_pow_add_eq_or_of_lt h3, pow256, Nat.add_comm]
theorem cast_div (V a : Nat) : ((V : Int) / 2 ^ a) = ((V / 2 ^ a : Nat) : Int) := by
  rw [Int.natCast_ediv, Int.natCast_pow]; rfl
/-- Room, as the program asks for it. -/
theorem room_yes (V k a : Nat) (ha : a = 8 * k) (h : V < 256 ^ k) : ((V : Int) / 2 ^ a) = 0 := by
  subst ha
  rw [cast_div, ← pow256, Nat.div_eq_of_lt h]; rfl
theorem room_no (V k a : Nat) (ha : a = 8 * k) (h : ¬ V < 256 ^ k) : ((V : Int) / 2 ^ a) ≠ 0 := by
  subst ha
  rw [cast_div, ← pow256]
  have : 0 < V / 256 ^ k := Nat.div_pos (by omega) (Nat.pow_pos (by omega))
  omega
theorem room_yes4 (V k a : Nat) (ha : a = 4 * k) (h : V < 16 ^ k) : ((V : Int) / 2 ^ a) = 0 := by
  subst ha
  rw [cast_div, ← pow16, Nat.div_eq_of_lt h]; rfl
theorem room_no4 (V k a : Nat) (ha : a = 4 * k) (h : ¬ V < 16 ^ k) : ((V : Int) / 2 ^ a) ≠ 0 := by
  subst ha
  rw [cast_div, ← pow16]
  have : 0 < V / 16 ^ k := Nat.div_pos (by omega) (Nat.pow_pos (by omega))
  omega
theorem putN_byte (V m j : Nat) (h : j < (putN V m).length) : (V : Int) / 2 ^ (8 * j) % 256 = (((putN V m)[j]).toNat : Int) := by
  rw [putN_get, cast_div, pow256]; omega
/-- The digit of a number below 16. -/
def dig (d : Nat) : UInt8 := if d < 10 then UInt8.ofNat (48 + d) else UInt8.ofNat (87 + d)
/-- The n digits of v to the base 16, the highest one first. -/
def hexN (v : Nat) : Nat → List UInt8
  | 0 => []
  | n + 1 => hexN (v / 16) n ++ [dig (v % 16)]
theorem hexN_length : ∀ (n v : Nat), (hexN v n).length = n
  | 0, _ => rfl
  | n + 1, v => by simp [hexN, hexN_length n]
theorem hexN_get : ∀ (n v j : Nat), j < n → (hexN v n)[n - 1 - j]? = some (dig (v / 16 ^ j % 16))
  | 0, _, _, h => by omega
  | n + 1, v, 0, _ => by
    simp [hexN, hexN_length]
  | n + 1, v, j + 1, h => by
    have h1 : n + 1 - 1 - (j + 1) = n - 1 - j := by omega
    rw [h1, hexN, List.getElem?_append_left (by rw [hexN_length]; omega), hexN_get n (v / 16) j (by omega), Nat.div_div_eq_div_mul, Nat.pow_succ, Nat.mul_comm]
/-- The worth of a digit; none: it is none. -/
def worth (c : UInt8) : Option Nat :=
  if 48 ≤ c.toNat ∧ c.toNat ≤ 57 then some (c.toNat - 48) else if 97 ≤ c.toNat ∧ c.toNat ≤ 102 then some (c.toNat - 87) else none
/-- The number whose digits these are, with v ahead; none: one is no digit. -/
def unhexL : Nat → List UInt8 → Option Nat
  | v, [] => some v
  | v, c :: r => match worth c with
    | some d => unhexL (16 * v + d) r
    | none => none
theorem worth_dig (d : Nat) (h : d < 16) : worth (dig d) = some d := by
  unfold worth dig
  by_cases h1 : d < 10
  · have e : (UInt8.ofNat (48 + d)).toNat = 48 + d := by simp only [UInt8.toNat_ofNat']; omega
    rw [if_pos h1, e, if_pos (by omega)]; congr 1; omega
  · have e : (UInt8.ofNat (87 + d)).toNat = 87 + d := by simp only [UInt8.toNat_ofNat']; omega
    rw [if_neg h1, e, if_neg (by omega), if_pos (by omega)]; congr 1; omega
theorem dig_worth (c : UInt8) (d : Nat) (h : worth c = some d) : dig d = c ∧ d < 16 := by
  have hc := c.toNat_lt
  have key : ∀ n, n = c.toNat → UInt8.ofNat n = c := fun n hn => by subst hn; simp
  unfold worth at h
  split at h
  · injection h with h; subst h
    refine ⟨?_, by omega⟩
    unfold dig; rw [if_pos (by omega)]; exact key _ (by omega)
  · split at h
    · injection h with h; subst h
      refine ⟨?_, by omega⟩
      unfold dig; rw [if_neg (by omega)]; exact key _ (by omega)
    · cases h
theorem unhexL_append (l r : List UInt8) (v x : Nat) (h : unhexL v l = some x) : unhexL v (l ++ r) = unhexL x r := by
  induction l generalizing v with
  | nil => simp [unhexL] at h; subst h; rfl
  | cons c l ih =>
    simp only [List.cons_append, unhexL] at h ⊢
    cases hw : worth c with
    | none => rw [hw] at h; cases h
    | some d => rw [hw] at h; exact ih _ h
theorem unhexL_hexN : ∀ (n v : Nat), unhexL 0 (hexN v n) = some (v % 16 ^ n)
  | 0, v => by simp [hexN, unhexL, Nat.mod_one]
  | n + 1, v => by
    rw [hexN, unhexL_append _ _ _ _ (unhexL_hexN n (v / 16))]
    simp only [unhexL, worth_dig _ (Nat.mod_lt v (by omega : 0 < 16))]
    congr 1
    rw [Nat.pow_succ, Nat.mul_comm (16 ^ n) 16, Nat.mod_mul]; omega
theorem hexN_split : ∀ (m n v d : Nat), d < 16 ^ m → hexN (16 ^ m * v + d) (n + m) = hexN v n ++ hexN d m
  | 0, n, v, d, h => by
    have : d = 0 := by simpa using h
    subst this; simp [hexN]
  | m + 1, n, v, d, h => by
    have e1 : (16 ^ (m + 1) * v + d) / 16 = 16 ^ m * v + d / 16 := by
      rw [Nat.pow_succ, Nat.mul_assoc, Nat.mul_comm 16 v, ← Nat.mul_assoc]; omega
    have e2 : (16 ^ (m + 1) * v + d) % 16 = d % 16 := by
      rw [Nat.pow_succ, Nat.mul_assoc, Nat.mul_comm 16 v, ← Nat.mul_assoc]; omega
    rw [← Nat.add_assoc, hexN, e1, e2, hexN_split m n v (d / 16) (by rw [Nat.pow_succ] at h; omega), hexN, List.append_assoc]
/-- What was read is told again as it stood. -/
theorem hexN_unhexL : ∀ (l : List UInt8) (v n x : Nat), unhexL v l = some x → hexN x (n + l.length) = hexN v n ++ l
  | [], v, n, x, h => by simp [unhexL] at h; subst h; simp
  | c :: r, v, n, x, h => by
    simp only [unhexL] at h
    cases hw : worth c with
    | none => rw [hw] at h; cases h
    | some d =>
      rw [hw] at h
      obtain ⟨hd, hlt⟩ := dig_worth c d hw
      have := hexN_unhexL r (16 * v + d) (n + 1) x h
      have e : n + (c :: r).length = n + 1 + r.length := by simp [List.length_cons]; omega
      rw [e, this, hexN]
      have e1 : (16 * v + d) / 16 = v := by omega
      have e2 : (16 * v + d) % 16 = d := by omega
      rw [e1, e2, hd, List.append_assoc]; rfl
theorem unhexL_lt : ∀ (l : List UInt8) (v x n : Nat), unhexL v l = some x → v < 16 ^ n → x < 16 ^ (n + l.length)
  | [], v, x, n, h, hv => by simp [unhexL] at h; subst h; simpa using hv
  | c :: r, v, x, n, h, hv => by
    simp only [unhexL] at h
    cases hw : worth c with
    | none => rw [hw] at h; cases h
    | some d =>
      rw [hw] at h
      obtain ⟨_, hlt⟩ := dig_worth c d hw
      have := unhexL_lt r (16 * v + d) x (n + 1) h (by rw [Nat.pow_succ]; omega)
      have e : n + (c :: r).length = n + 1 + r.length := by simp [List.length_cons]; omega
      rw [e]; exact this
theorem unhexL_none_append (l r : List UInt8) (v : Nat) (h : unhexL v l = none) : unhexL v (l ++ r) = none := by
  induction l generalizing v with
  | nil => simp [unhexL] at h
  | cons c l ih =>
    simp only [List.cons_append, unhexL] at h ⊢
    cases hw : worth c with
    | none => rfl
    | some d => rw [hw] at h; exact ih _ h
/-- The rune of a digit. -/
def digI (d : Nat) : Int := if d < 10 then 48 + d else 87 + d
theorem dig_digI (d : Nat) (h : d < 16) : ((dig d).toNat : Int) = digI d := by
  unfold dig digI
  by_cases h1 : d < 10
  · rw [if_pos h1, if_pos h1]; simp only [UInt8.toNat_ofNat']; omega
  · rw [if_neg h1, if_neg h1]; simp only [UInt8.toNat_ofNat']; omega
theorem encode_ascii (b : UInt8) (h : b.toNat < 128) : Utf8.encode (b.toNat : Int) = ⟨#[b]⟩ := by
  have hv : Utf8.valid (b.toNat : Int) = true := by
    simp [Utf8.valid]
    omega
  unfold Utf8.encode
  simp [hv, h]
theorem runesBytes_ascii (l : List UInt8) (h : ∀ b ∈ l, b.toNat < 128) : runesBytes (l.map (fun b => (b.toNat : Int))) = ⟨l.toArray⟩ := by
  have key : ∀ (l : List UInt8) (s : ByteArray), (∀ b ∈ l, b.toNat < 128) → (l.map (fun b => (b.toNat : Int))).foldl (fun r n => r ++ Utf8.encode n) s = ⟨s.data ++ l.toArray⟩ := by
    intro l
    induction l with
    | nil => intro s _; simp
    | cons b l ih =>
      intro s hb
      simp only [List.map_cons, List.foldl_cons]
      rw [ih _ (fun c hc => hb c (List.mem_cons_of_mem _ hc)), encode_ascii b (hb b List.mem_cons_self)]
      simp [ByteArray.data_append]
  have := key l ByteArray.empty h
  simpa [runesBytes] using this
theorem dig_lt (d : Nat) (h : d < 16) : (dig d).toNat < 128 := by
  have := dig_digI d h
  unfold digI at this
  split at this <;> omega
theorem hexN_lt : ∀ (n v : Nat), ∀ b ∈ hexN v n, b.toNat < 128
  | 0, _, b, hb => by simp [hexN] at hb
  | n + 1, v, b, hb => by
    simp only [hexN, List.mem_append, List.mem_singleton] at hb
    rcases hb with hb | rfl
    · exact hexN_lt n _ b hb
    · exact dig_lt _ (Nat.mod_lt _ (by omega))
theorem unhex_step (V d : Nat) (hV : V < 1152921504606846976) (hd : d < 16) :
    bits .or .u64 ((V : Int) * 16) (d : Int) = ((16 * V + d : Nat) : Int) := by
  have e : (V : Int) * 16 = ((V * 16 : Nat) : Int) := by omega
  have h := Nat.two_pow_add_eq_or_of_lt (i := 4) (b := d) (by omega) V
  rw [e, u64_or_nat _ _ (by omega) (by omega)]
  have e2 : V * 16 = 2 ^ 4 * V := by omega
  rw [e2, ← h]
theorem nibble (V k : Nat) (hV : V < 18446744073709551616) : bits .and .u64 ((V : Int) / 2 ^ (4 * k)) 15 = ((V / 16 ^ k % 16 : Nat) : Int) := by
  have h1 : V / 2 ^ (4 * k) ≤ V := Nat.div_le_self _ _
  have h2 := u64_and_nat (V / 2 ^ (4 * k)) 15 (by omega) (by omega)
  rw [cast_div]
  refine h2.trans ?_
  rw [nat_mask4, pow16]
theorem pow16_64 (m : Nat) (h : m ≤ 16) : 16 ^ m ≤ 18446744073709551616 := by
  have := Nat.pow_le_pow_right (n := 16) (by omega) h
  simpa using this
theorem pow256_64 (m : Nat) (h : m ≤ 8) : 256 ^ m ≤ 18446744073709551616 := by
  have := Nat.pow_le_pow_right (n := 256) (by omega) h
  simpa using this
theorem putN_snoc : ∀ (m v : Nat), putN v (m + 1) = putN v m ++ [UInt8.ofNat (v / 256 ^ m % 256)]
  | 0, v => by simp [putN]
  | m + 1, v => by
    have h := putN_snoc m (v / 256)
    rw [putN, h, putN, List.cons_append, Nat.div_div_eq_div_mul, Nat.pow_succ, Nat.mul_comm 256]
theorem hexN_cons : ∀ (n v : Nat), hexN v (n + 1) = dig (v / 16 ^ n % 16) :: hexN v n
  | 0, v => by simp [hexN]
  | n + 1, v => by
    have h := hexN_cons n (v / 16)
    rw [hexN, h, hexN, List.cons_append, Nat.div_div_eq_div_mul, Nat.pow_succ, Nat.mul_comm 16]
end Go.Proofs.YtaoneiicoaiehaaGreat.Wm
namespace Go.Proofs.YtaoneiicoaiehaaGreat.Wc
set_option maxRecDepth 100000
open Go Go.Proofs.YtaoneiicoaiehaaGreat.Wm
def poly : Nat := 3988292384
/-- One bit's division, over numbers of any length. -/
def step (c : Nat) : Nat := if c % 2 = 1 then c / 2 ^^^ poly else c / 2
def steps : Nat → Nat → Nat
  | 0, c => c
  | k + 1, c => steps k (step c)
theorem step_xor (a b : Nat) : step (a ^^^ b) = step a ^^^ step b := by
  have h1 : (a ^^^ b) / 2 = a / 2 ^^^ b / 2 := Nat.xor_div_two
  have h2 : (a ^^^ b) % 2 = (a + b) % 2 := by
    have h := Nat.xor_mod_two_pow (a := a) (b := b) (n := 1)
    rw [Nat.pow_one] at h
    rw [h]
    have ha : a % 2 = 0 ∨ a % 2 = 1 := by omega
    have hb : b % 2 = 0 ∨ b % 2 = 1 := by omega
    rcases ha with ha | ha <;> rcases hb with hb | hb <;> rw [ha, hb] <;> simp <;> omega
  have hp : ∀ x y p : Nat, x ^^^ p ^^^ (y ^^^ p) = x ^^^ y := by
    intro x y p
    rw [Nat.xor_assoc, Nat.xor_comm y p, ← Nat.xor_assoc p p y, Nat.xor_self, Nat.zero_xor]
  unfold step
  rw [h1, h2]
  by_cases ha : a % 2 = 1 <;> by_cases hb : b % 2 = 1
  · rw [if_pos ha, if_pos hb, if_neg (by omega), hp]
  · rw [if_pos ha, if_neg hb, if_pos (by omega), Nat.xor_assoc, Nat.xor_assoc, Nat.xor_comm poly]
  · rw [if_neg ha, if_pos hb, if_pos (by omega), Nat.xor_assoc]
  · rw [if_neg ha, if_neg hb, if_neg (by omega)]
theorem steps_xor : ∀ (k a b : Nat), steps k (a ^^^ b) = steps k a ^^^ steps k b
  | 0, _, _ => rfl
  | k + 1, a, b => by simp only [steps, step_xor, steps_xor k]
theorem steps_add : ∀ (j k c : Nat), steps (j + k) c = steps k (steps j c)
  | 0, k, c => by simp [steps]
  | j + 1, k, c => by
    have e : j + 1 + k = (j + k) + 1 := by omega
    rw [e]; simp only [steps, steps_add j k]
theorem step_even (q : Nat) : step (2 * q) = q := by
  unfold step; rw [if_neg (by omega)]; omega
theorem steps_shift : ∀ (k q : Nat), steps k (2 ^ k * q) = q
  | 0, q => by simp [steps]
  | k + 1, q => by
    have e : 2 ^ (k + 1) * q = 2 * (2 ^ k * q) := by rw [Nat.pow_succ, Nat.mul_comm (2 ^ k) 2, Nat.mul_assoc]
    rw [e, steps, step_even, steps_shift k]
theorem steps_zero : ∀ k : Nat, steps k 0 = 0
  | 0 => rfl
  | k + 1 => by simp only [steps]; exact steps_zero k
theorem step_lt (c : Nat) (h : c < 4294967296) : step c < 4294967296 := by
  unfold step
  split
  · exact Nat.xor_lt_two_pow (n := 32) (by omega) (by decide)
  · omega
theorem steps_lt : ∀ (k c : Nat), c < 4294967296 → steps k c < 4294967296
  | 0, _, h => h
  | k + 1, c, h => steps_lt k _ (step_lt c h)
theorem step_ne (c : Nat) (h : c < 4294967296) (h0 : c ≠ 0) : step c ≠ 0 := by
  unfold step
  split
  · intro e
    have : c / 2 = poly := by
      have e2 : c / 2 ^^^ poly ^^^ poly = 0 ^^^ poly := by rw [e]
      rw [Nat.xor_assoc, Nat.xor_self, Nat.xor_zero, Nat.zero_xor] at e2
      exact e2
    unfold poly at this
    omega
  · omega
theorem steps_ne : ∀ (k c : Nat), c < 4294967296 → c ≠ 0 → steps k c ≠ 0
  | 0, _, _, h => h
  | k + 1, c, hc, h => steps_ne k _ (step_lt c hc) (step_ne c hc h)
/-- What half a byte leaves behind. -/
def tabN (r : Nat) : Nat := steps 4 r
theorem split16 (c : Nat) : c = 2 ^ 4 * (c / 16) ^^^ c % 16 := by
  have h := Nat.two_pow_add_eq_or_of_lt (i := 4) (b := c % 16) (by omega) (c / 16)
  have hx : 2 ^ 4 * (c / 16) ||| c % 16 = 2 ^ 4 * (c / 16) ^^^ c % 16 := by
    apply Nat.eq_of_testBit_eq
    intro i
    rw [Nat.testBit_or, Nat.testBit_xor]
    by_cases hi : i < 4
    · have : (2 ^ 4 * (c / 16)).testBit i = false := by
        rw [Nat.mul_comm, Nat.testBit_mul_two_pow]; simp; omega
      rw [this]; simp
    · have : (c % 16).testBit i = false := Nat.testBit_lt_two_pow (Nat.lt_of_lt_of_le (Nat.mod_lt _ (by omega)) (Nat.pow_le_pow_right (n := 2) (by omega) (by omega : 4 ≤ i)))
      rw [this]; simp
  omega
/-- Half a byte's round, by the table. -/
theorem half_step (c : Nat) : tabN (c % 16) ^^^ c / 16 = steps 4 c := by
  conv => rhs; rw [split16 c, steps_xor, steps_shift]
  rw [Nat.xor_comm]; rfl
/-- One byte's round. -/
def bstep (c : Nat) (b : UInt8) : Nat := steps 8 (c ^^^ b.toNat)
/-- The remainder behind these bytes. -/
def remd (c : Nat) (l : List UInt8) : Nat := l.foldl bstep c
theorem remd_nil (c : Nat) : remd c [] = c := by unfold remd; exact List.foldl_nil
theorem remd_cons (c : Nat) (b : UInt8) (l : List UInt8) : remd c (b :: l) = remd (bstep c b) l := by unfold remd; exact List.foldl_cons ..
theorem remd_snoc (l : List UInt8) (c : Nat) (b : UInt8) : remd c (l ++ [b]) = bstep (remd c l) b := by unfold remd; rw [List.foldl_append, List.foldl_cons, List.foldl_nil]
theorem bstep_lt (c : Nat) (b : UInt8) (h : c < 4294967296) : bstep c b < 4294967296 := by
  have hb := b.toNat_lt
  unfold bstep
  exact steps_lt 8 _ (Nat.xor_lt_two_pow (n := 32) h (by omega))
theorem remd_lt (l : List UInt8) : ∀ (c : Nat), c < 4294967296 → remd c l < 4294967296 := by
  induction l with
  | nil => intro c h; rw [remd_nil]; exact h
  | cons b l ih => intro c h; rw [remd_cons]; exact ih _ (bstep_lt c b h)
def crc (l : List UInt8) : Nat := 4294967295 ^^^ remd 4294967295 l
theorem cons_xor (b : UInt8) (q : Nat) : b.toNat + 256 * q = b.toNat ^^^ 2 ^ 8 * q := by
  have hb := b.toNat_lt
  have h := Nat.two_pow_add_eq_or_of_lt (i := 8) (b := b.toNat) (by omega) q
  have hx : 2 ^ 8 * q ||| b.toNat = b.toNat ^^^ 2 ^ 8 * q := by
    apply Nat.eq_of_testBit_eq
    intro i
    rw [Nat.testBit_or, Nat.testBit_xor]
    by_cases hi : i < 8
    · have : (2 ^ 8 * q).testBit i = false := by
        rw [Nat.mul_comm, Nat.testBit_mul_two_pow]; simp; omega
      rw [this]; simp
    · have : b.toNat.testBit i = false := Nat.testBit_lt_two_pow (Nat.lt_of_lt_of_le hb (Nat.pow_le_pow_right (n := 2) (by omega) (by omega : 8 ≤ i)))
      rw [this]; simp
  omega
/-- The remainder of a text is that of one great number. -/
theorem remd_eq (l : List UInt8) : ∀ (c : Nat), remd c l = steps (8 * l.length) (c ^^^ getL l) := by
  induction l with
  | nil => intro c; rw [remd_nil]; simp [getL, steps]
  | cons b l ih =>
    intro c
    have e : 8 * (b :: l).length = 8 + 8 * l.length := by rw [List.length_cons]; omega
    have e2 : getL (b :: l) = b.toNat ^^^ 2 ^ 8 * getL l := by rw [getL]; exact cons_xor b (getL l)
    rw [e, steps_add, e2, ← Nat.xor_assoc, steps_xor 8, steps_shift, remd_cons, ih]
    unfold bstep
    rfl
/-- Two texts of one length that part by bits within 32 in a row have unlike remainders. -/
theorem remd_burst (l m : List UInt8) (c t i : Nat) (hlen : l.length = m.length) (ht : t < 4294967296) (h0 : t ≠ 0) (hi : i ≤ 8 * l.length) (hx : getL m = getL l ^^^ 2 ^ i * t) :
    remd c m ≠ remd c l := by
  rw [remd_eq, remd_eq, ← hlen, hx, ← Nat.xor_assoc, steps_xor]
  intro e
  have e2 : steps (8 * l.length) (2 ^ i * t) = 0 := by
    have h := congrArg (fun x => steps (8 * l.length) (c ^^^ getL l) ^^^ x) e
    simp only [← Nat.xor_assoc, Nat.xor_self, Nat.zero_xor] at h
    exact h
  have e3 : 8 * l.length = i + (8 * l.length - i) := by omega
  rw [e3, steps_add, steps_shift] at e2
  exact steps_ne _ _ ht h0 e2
theorem crc_burst (l m : List UInt8) (t i : Nat) (hlen : l.length = m.length) (ht : t < 4294967296) (h0 : t ≠ 0) (hi : i ≤ 8 * l.length) (hx : getL m = getL l ^^^ 2 ^ i * t) :
    crc m ≠ crc l := by
  have h := remd_burst l m 4294967295 t i hlen ht h0 hi hx
  unfold crc
  intro e
  have e2 := congrArg (fun x => 4294967295 ^^^ x) e
  simp only [← Nat.xor_assoc, Nat.xor_self, Nat.zero_xor] at e2
  exact h e2
theorem crc_lt (l : List UInt8) : crc l < 4294967296 := by
  unfold crc
  exact Nat.xor_lt_two_pow (n := 32) (by omega) (remd_lt l _ (by omega))
end Go.Proofs.YtaoneiicoaiehaaGreat.Wc
namespace Go.Proofs.YtaoneiicoaiehaaGreat.Wb
set_option maxRecDepth 100000
open Go Go.Proofs.YtaoneiicoaiehaaGreat.Wm Go.Proofs.YtaoneiicoaiehaaGreat.Wc
theorem mul_xor (k x y : Nat) : 2 ^ k * (x ^^^ y) = 2 ^ k * x ^^^ 2 ^ k * y := by
  apply Nat.eq_of_testBit_eq
  intro i
  rw [Nat.testBit_xor, Nat.testBit_two_pow_mul, Nat.testBit_two_pow_mul, Nat.testBit_two_pow_mul, Nat.testBit_xor]
  by_cases h : k ≤ i <;> simp [h]
theorem getL_cons (b : UInt8) (l : List UInt8) : getL (b :: l) = b.toNat ^^^ 2 ^ 8 * getL l := by rw [getL]; exact cons_xor b (getL l)
/-- One bit of one byte is turned. -/
theorem getL_set : ∀ (l : List UInt8) (q r : Nat) (c : UInt8) (h : q < l.length), c.toNat = (l[q]).toNat ^^^ 2 ^ r → getL (l.set q c) = getL l ^^^ 2 ^ (8 * q + r)
  | [], _, _, _, h, _ => by simp at h
  | a :: l, 0, r, c, _, hc => by
    simp only [List.getElem_cons_zero] at hc
    rw [List.set_cons_zero, getL_cons, getL_cons, hc, Nat.mul_zero, Nat.zero_add, Nat.xor_assoc, Nat.xor_assoc, Nat.xor_comm (2 ^ r)]
  | a :: l, q + 1, r, c, h, hc => by
    simp only [List.getElem_cons_succ] at hc
    have h' : q < l.length := by simpa using h
    have ih := getL_set l q r c h' hc
    have e : 2 ^ (8 * (q + 1) + r) = 2 ^ 8 * 2 ^ (8 * q + r) := by
      rw [← Nat.pow_add]; congr 1; omega
    rw [List.set_cons_succ, getL_cons, getL_cons, ih, mul_xor, e, Nat.xor_assoc]
theorem low_xor (t j : Nat) (h : t / 2 ^ j % 2 = 1) : t % 2 ^ (j + 1) = t % 2 ^ j ^^^ 2 ^ j := by
  have e : t % 2 ^ (j + 1) = t % 2 ^ j + 2 ^ j := by
    rw [Nat.pow_succ, Nat.mod_mul, h]; omega
  have h2 := Nat.two_pow_add_eq_or_of_lt (i := j) (b := t % 2 ^ j) (Nat.mod_lt _ (Nat.pow_pos (by omega))) 1
  have hx : 2 ^ j * 1 ||| t % 2 ^ j = t % 2 ^ j ^^^ 2 ^ j := by
    apply Nat.eq_of_testBit_eq
    intro i
    rw [Nat.testBit_or, Nat.testBit_xor, Nat.mul_one, Nat.testBit_two_pow, Nat.testBit_mod_two_pow]
    by_cases hi : i < j
    · have : j ≠ i := by omega
      simp [hi, this]
    · by_cases he : j = i
      · simp [he]
      · simp [hi, he]
  rw [Nat.mul_one] at h2 hx
  rw [e, ← hx, ← h2, Nat.add_comm]
theorem low_same (t j : Nat) (h : t / 2 ^ j % 2 ≠ 1) : t % 2 ^ (j + 1) = t % 2 ^ j := by
  have h0 : t / 2 ^ j % 2 = 0 := by omega
  rw [Nat.pow_succ, Nat.mod_mul, h0]; omega
/-- A round that turns. -/
theorem turn_step (l m : List UInt8) (i j t : Nat) (c : UInt8) (h : (i + j) / 8 < m.length) (hm : getL m = getL l ^^^ 2 ^ i * (t % 2 ^ j)) (ho : t / 2 ^ j % 2 = 1)
    (hc : c.toNat = (m[(i + j) / 8]).toNat ^^^ 2 ^ ((i + j) % 8)) : getL (m.set ((i + j) / 8) c) = getL l ^^^ 2 ^ i * (t % 2 ^ (j + 1)) := by
  have e : 8 * ((i + j) / 8) + (i + j) % 8 = i + j := Nat.div_add_mod _ _
  rw [getL_set m _ _ c h hc, e, hm, low_xor t j ho, mul_xor, Nat.xor_assoc, ← Nat.pow_add]
end Go.Proofs.YtaoneiicoaiehaaGreat.Wb
namespace Go.Proofs.YtaoneiicoaiehaaGreat.WPut
set_option maxRecDepth 100000
open Go Go.RowKit Go.Proofs.YtaoneiicoaiehaaGreat.Wm
theorem undL : Tryz.prog.underlying 97 = some (.slice 5) := by kernel_rfl
theorem undE : Tryz.prog.underlying 5 = some (.int .u8) := by kernel_rfl
theorem undS : Tryz.prog.underlying 9 = some .string := by kernel_rfl
theorem infoE : (Tryz.prog.info? 5).map (fun i => (i.zero, i.size, i.bytes)) = some (some (.int .u8 0), 1, 1) := by kernel_rfl
def byteAt (v : Int) (j : Nat) : Int := v / 2 ^ (8 * j) % 256
theorem addr_add (b j : Nat) : Addr.add ⟨b, 0, none⟩ j = ⟨b, j, none⟩ := by cases j <;> simp [Addr.add]
/-- 'string(b)' of a whole own row of bytes. -/
theorem run_string_row {P : Program} (w : World) (src dst e : TypeId) (b n cap : Nat) (t : TypeId) (l : List UInt8) (f : Nat → Value)
    (hs : P.underlying src = some (.slice e)) (he : P.underlying e = some (.int .u8)) (hd : P.underlying dst = some .string)
    (hn : l.length = n) (h : w.rowIs b t n f) (hf : ∀ j (hj : j < l.length), f j = .int .u8 (l[j].toNat : Int)) :
    (convert src dst (.slice (some ⟨b, 0, none⟩) n cap)).run P w = .ok (.string ⟨l.toArray⟩) w := by
  subst hn
  refine run_convert_bytes_back w src dst e ⟨b, 0, none⟩ cap l hs he hd (fun j hj => ?_)
  have := h.cell hj
  rw [hf j hj] at this
  rw [addr_add]; exact this
theorem bad (v n : Int) (w : World) (h : n < 1 ∨ 8 < n) :
    Calls Tryz.prog 84 #[.int .u64 v, .int .i64 n] w fun e w' => e = .returned (.tuple #[.string ⟨#[]⟩, .int .i64 2]) ∧ w = w' := by
  by_cases h1 : n < 1
  · go_enter Tryz.func84, Tryz.ntmps84
    go_wp2
    go_ret2
    exact ⟨rfl, rfl⟩
  · have h2 : 8 < n := by omega
    go_enter Tryz.func84, Tryz.ntmps84
    go_wp2
    go_ret2
    exact ⟨rfl, rfl⟩
theorem long (v n : Int) (w : World) (h : 1 ≤ n) (h' : n ≤ 8) (hv : 0 ≤ v) (hl : ¬ v.toNat < 256 ^ n.toNat) :
    Calls Tryz.prog 84 #[.int .u64 v, .int .i64 n] w fun e w' => e = .returned (.tuple #[.string ⟨#[]⟩, .int .i64 5]) ∧ w = w' := by
  have h0 : ¬ n < 1 := by omega
  have h2 : ¬ 8 < n := by omega
  have hr := room_no v.toNat n.toNat (8 * n).toNat (by omega) hl
  rw [Int.toNat_of_nonneg hv] at hr
  clear hl
  go_enter Tryz.func84, Tryz.ntmps84
  go_wp2
  go_ret2
  exact ⟨rfl, rfl⟩
theorem ok_var (v : Int) (V m : Nat) (w : World) (h : 1 ≤ m) (h' : m ≤ 8) (hl : V < 256 ^ m) (hV : Hid (v = (V : Int))) :
    Calls Tryz.prog 84 #[.int .u64 v, .int .i64 (m : Int)] w fun e w' => e = .returned (.tuple #[.string ⟨(putN V m).toArray⟩, .int .i64 0]) ∧ Below w.heap.size w w' := by
  have hmk := fun W => run_make_row' (P := Tryz.prog) 97 5 (.int .u8 0) 1 undL infoE rfl .i64 .i64 m (by omega) (by omega) W
  have hl2 : (v / 2 ^ (8 * m) != 0) = false := by
    rw [hV.out, room_yes V m _ rfl hl]; rfl
  clear hl
  go_enter Tryz.func84, Tryz.ntmps84
  go_wp2
  clear hmk hl2
  go_loopw [7, 23] (fun _ j wr => ∃ k : Nat, k ≤ m ∧ j = .int .i64 k ∧ wr.rowIs w.heap.size 5 m (fun j => if j < k then .int .u8 (byteAt v j) else .int .u8 0) ∧ Below w.heap.size w wr) (fun _ j _ => m - (intOf j).toNat)
  case atStart => exact ⟨0, by omega, rfl, by simpa using World.rowIs_made w (.int .u8 0) m 5, (Below.refl _ _).alloc (Nat.le_refl _) _⟩
  case round =>
    obtain ⟨k, hk, rfl, hrow, hb⟩ := hrel
    by_cases hlt : k < m
    · have hc := hrow.cell hlt
      have hf := hrow.frozen k
      go_wp2
      go_roundw
      case rel =>
        refine ⟨k + 1, by omega, by go_num, (hrow.set k _).congr (fun i hi => ?_), hb.setCell (Nat.le_refl _) _⟩
        by_cases hik : i = k
        · subst hik
          rw [if_pos rfl, if_pos (by omega)]; rfl
        · rw [if_neg hik]
          by_cases hik : i < k
          · rw [if_pos hik, if_pos (by omega)]
          · rw [if_neg hik, if_neg (by omega)]
      case measure => simp [intOf]; omega
    · have hcv := run_string_row (P := Tryz.prog) wr 97 9 5 w.heap.size m m 5 (putN V m) _ undL undE undS (putN_length m V) hrow (fun j hj => by
        rw [if_pos (by rw [putN_length] at hj; omega), byteAt, hV.out, putN_byte V m j hj])
      go_wp2
      go_ret2
      exact ⟨rfl, hb⟩
theorem ok (v n : Int) (w : World) (h : 1 ≤ n) (h' : n ≤ 8) (hv : 0 ≤ v) (hl : v.toNat < 256 ^ n.toNat) :
    Calls Tryz.prog 84 #[.int .u64 v, .int .i64 n] w fun e w' => e = .returned (.tuple #[.string ⟨(putN v.toNat n.toNat).toArray⟩, .int .i64 0]) ∧ Below w.heap.size w w' := by
  obtain ⟨V, rfl⟩ := Int.eq_ofNat_of_zero_le hv
  obtain ⟨m, rfl⟩ := Int.eq_ofNat_of_zero_le (show 0 ≤ n by omega)
  exact ok_var _ V m w (by omega) (by omega) hl rfl
/-- What Put answers: the text and the error. -/
def putS (v n : Int) : List UInt8 × Int := if n < 1 ∨ 8 < n then ([], 2) else if v.toNat < 256 ^ n.toNat then (putN v.toNat n.toNat, 0) else ([], 5)
theorem any (v n : Int) (w : World) (hv : 0 ≤ v) :
    Calls Tryz.prog 84 #[.int .u64 v, .int .i64 n] w fun e w' => e = .returned (.tuple #[.string ⟨(putS v n).1.toArray⟩, .int .i64 (putS v n).2]) ∧ Below w.heap.size w w' := by
  unfold putS
  by_cases h : n < 1 ∨ 8 < n
  · rw [if_pos h]
    exact (bad v n w h).mono fun _ _ hh => ⟨hh.1, hh.2 ▸ Below.refl _ _⟩
  · rw [if_neg h]
    by_cases hl : v.toNat < 256 ^ n.toNat
    · rw [if_pos hl]
      exact ok v n w (by omega) (by omega) hv hl
    · rw [if_neg hl]
      exact (long v n w (by omega) (by omega) hv hl).mono fun _ _ hh => ⟨hh.1, hh.2 ▸ Below.refl _ _⟩
end Go.Proofs.YtaoneiicoaiehaaGreat.WPut
namespace Go.Proofs.YtaoneiicoaiehaaGreat.WGet
set_option maxRecDepth 100000
open Go Go.RowKit Go.Proofs.YtaoneiicoaiehaaGreat.Wm
theorem bad (s : ByteArray) (w : World) (h : s.size < 1 ∨ 8 < s.size) (hs : s.size ≤ maxLen) :
    Calls Tryz.prog 118 #[.string s] w fun e w' => e = .returned (.tuple #[.int .u64 0, .int .i64 2]) ∧ w = w' := by
  unfold maxLen at hs
  by_cases h1 : s.size < 1
  · go_enter Tryz.func118, Tryz.ntmps118
    go_wp2
    go_ret2
    exact ⟨rfl, rfl⟩
  · have h2 : 8 < s.size := by omega
    go_enter Tryz.func118, Tryz.ntmps118
    go_wp2
    go_ret2
    exact ⟨rfl, rfl⟩
theorem ok (s : ByteArray) (w : World) (h : 1 ≤ s.size) (h' : s.size ≤ 8) :
    Calls Tryz.prog 118 #[.string s] w fun e w' => e = .returned (.tuple #[.int .u64 (getL s.data.toList), .int .i64 0]) ∧ w = w' := by
  have h1 : ¬ s.size < 1 := by omega
  have h2 : ¬ 8 < s.size := by omega
  go_enter Tryz.func118, Tryz.ntmps118
  go_wp2
  go_loop [4, 5, 16] (fun v _ j => ∃ k : Nat, k ≤ s.size ∧ j = .int .i64 k ∧ v = .int .u64 (getL (s.data.toList.take k))) (fun _ _ j => s.size - (intOf j).toNat)
  case atStart => exact ⟨0, by omega, rfl, rfl⟩
  case round =>
    obtain ⟨k, hk, rfl, rfl⟩ := hrel
    by_cases hlt : k < s.size
    · go_wp2
      go_round
      case rel =>
        refine ⟨k + 1, by omega, by go_num, ?_⟩
        rw [get_step _ _ k (by simp; omega) (by omega), List.take_succ_eq_append_getElem (by simpa using hlt)]; rfl
      case measure => simp [intOf]; omega
    · go_wp2
      go_ret2
      have hk' : k = s.size := by omega
      subst hk'
      exact ⟨ret_ii (by rw [List.take_of_length_le (by simp)]) rfl, rfl⟩
/-- What Get answers: the number and the error. -/
def getS (l : List UInt8) : Int × Int := if l.length < 1 ∨ 8 < l.length then (0, 2) else (getL l, 0)
theorem any (s : ByteArray) (w : World) (hs : s.size ≤ maxLen) :
    Calls Tryz.prog 118 #[.string s] w fun e w' => e = .returned (.tuple #[.int .u64 (getS s.data.toList).1, .int .i64 (getS s.data.toList).2]) ∧ w = w' := by
  have hsz : s.data.toList.length = s.size := by simp
  unfold getS
  rw [hsz]
  by_cases h : s.size < 1 ∨ 8 < s.size
  · rw [if_pos h]
    exact bad s w h hs
  · rw [if_neg h]
    exact ok s w (by omega) (by omega)
end Go.Proofs.YtaoneiicoaiehaaGreat.WGet
namespace Go.Proofs.YtaoneiicoaiehaaGreat.WSum
set_option maxRecDepth 100000
open Go Go.RowKit Go.Proofs.YtaoneiicoaiehaaGreat.Wm Go.Proofs.YtaoneiicoaiehaaGreat.Wc
/-- The closure's round: cell 'half' of the table is made of two others. -/
theorem fill (b : Nat) (half lo xo : Nat) (x y z : Int) (w : World) (hh : half < 16) (hlo : lo < 16) (hxo : xo < 16)
    (hand : bits .and .i64 (half : Int) (-(half : Int)) = (lo : Int)) (hxor : bits .xor .i64 (half : Int) (lo : Int) = (xo : Int))
    (hx : w.cell? ⟨b, lo, none⟩ = some (.int .u32 x)) (hy : w.cell? ⟨b, xo, none⟩ = some (.int .u32 y)) (hz : w.cell? ⟨b, half, none⟩ = some (.int .u32 z))
    (hf : w.frozen? ⟨b, half, none⟩ = false) :
    Calls Tryz.prog 145 #[.int .i64 (half : Int), .pointer (some ⟨b, 0, none⟩)] w fun e w' => e = .returned (.tuple #[]) ∧ w' = (w.setCell ⟨b, half, none⟩ (.int .u32 (bits .xor .u32 x y))).drew := by
  go_enter Tryz.func145, Tryz.ntmps145
  go_wp2
  go_region
  all_goals (go_end0; exact ⟨rfl, rfl⟩)
/-- The lowest bit of half, and the rest of it. -/
def loN (k : Nat) : Nat := [0, 1, 2, 1, 4, 1, 2, 1, 8, 1, 2, 1, 4, 1, 2, 1].getD k 0
def xoN (k : Nat) : Nat := [0, 0, 0, 2, 0, 4, 4, 6, 0, 8, 8, 10, 8, 12, 12, 14].getD k 0
theorem and_neg : ∀ k : Nat, k < 16 → bits .and .i64 (k : Int) (-(k : Int)) = (loN k : Int) := by
  have h : ∀ k : Fin 16, bits .and .i64 ((k.val : Nat) : Int) (-((k.val : Nat) : Int)) = (loN k.val : Int) := by decide
  intro k hk; exact h ⟨k, hk⟩
theorem xor_lo : ∀ k : Nat, k < 16 → bits .xor .i64 (k : Int) (loN k : Int) = (xoN k : Int) := by
  have h : ∀ k : Fin 16, bits .xor .i64 ((k.val : Nat) : Int) (loN k.val : Int) = (xoN k.val : Int) := by decide
  intro k hk; exact h ⟨k, hk⟩
theorem lo_lt : ∀ k : Nat, k < 16 → loN k < 16 := by
  have h : ∀ k : Fin 16, loN k.val < 16 := by decide
  intro k hk; exact h ⟨k, hk⟩
theorem xo_lt : ∀ k : Nat, k < 16 → xoN k < 16 := by
  have h : ∀ k : Fin 16, xoN k.val < 16 := by decide
  intro k hk; exact h ⟨k, hk⟩
/-- Cell j of the table behind k rounds. -/
def tab (k j : Nat) : Nat := if j < k ∨ j = 1 ∨ j = 2 ∨ j = 4 ∨ j = 8 then tabN j else 0
/-- The table behind k rounds. -/
def row (k : Nat) : Array Value := #[.int .u32 (tab k 0), .int .u32 (tab k 1), .int .u32 (tab k 2), .int .u32 (tab k 3), .int .u32 (tab k 4), .int .u32 (tab k 5), .int .u32 (tab k 6), .int .u32 (tab k 7),
  .int .u32 (tab k 8), .int .u32 (tab k 9), .int .u32 (tab k 10), .int .u32 (tab k 11), .int .u32 (tab k 12), .int .u32 (tab k 13), .int .u32 (tab k 14), .int .u32 (tab k 15)]
theorem row_get (k : Nat) : ∀ j : Nat, j < 16 → (row k)[j]? = some (.int .u32 (tab k j)) := by
  intro j hj
  have h : j = 0 ∨ j = 1 ∨ j = 2 ∨ j = 3 ∨ j = 4 ∨ j = 5 ∨ j = 6 ∨ j = 7 ∨ j = 8 ∨ j = 9 ∨ j = 10 ∨ j = 11 ∨ j = 12 ∨ j = 13 ∨ j = 14 ∨ j = 15 := by omega
  rcases h with rfl | rfl | rfl | rfl | rfl | rfl | rfl | rfl | rfl | rfl | rfl | rfl | rfl | rfl | rfl | rfl <;> rfl
theorem row_size (k : Nat) : (row k).size = 16 := rfl
/-- What a round makes is what the next table has. -/
theorem tab_xor : ∀ k : Nat, k < 16 → tab k (loN k) ^^^ tab k (xoN k) = tab (k + 1) k := by
  have h : ∀ k : Fin 16, tab k.val (loN k.val) ^^^ tab k.val (xoN k.val) = tab (k.val + 1) k.val := by decide
  intro k hk; exact h ⟨k, hk⟩
theorem tab_other (k j : Nat) (h : j ≠ k) : tab (k + 1) j = tab k j := by
  unfold tab
  by_cases h1 : j < k ∨ j = 1 ∨ j = 2 ∨ j = 4 ∨ j = 8
  · rw [if_pos h1, if_pos (by omega)]
  · rw [if_neg h1, if_neg (by omega)]
theorem row_set (k : Nat) (hk : k < 16) : (row k).setIfInBounds k (.int .u32 (tab (k + 1) k)) = row (k + 1) := by
  apply Array.ext_getElem?
  intro j
  by_cases hj : j < 16
  · rw [Array.getElem?_setIfInBounds, row_get _ _ hj]
    by_cases e : k = j
    · subst e; rw [if_pos rfl, if_pos (by rw [row_size]; exact hk), row_get _ _ hk]
    · rw [if_neg e, row_get _ _ hj, tab_other k j (fun x => e x.symm)]
  · rw [Array.getElem?_eq_none (by rw [Array.size_setIfInBounds, row_size]; omega), Array.getElem?_eq_none (by rw [row_size]; omega)]
theorem tab_lt (k j : Nat) (hj : j < 16) : tab k j < 4294967296 := by
  unfold tab
  split
  · exact steps_lt 4 j (by omega)
  · omega
theorem infoT : (Tryz.prog.info? 181).map (·.size) = some 16 := by kernel_rfl
theorem undT : Tryz.prog.underlying 181 = some (.array 16 149) := by kernel_rfl
theorem infoR : (Tryz.prog.info? 181).map (·.size) = some (row 16).size := infoT
def zeros : Array Value := #[.int .u32 0, .int .u32 0, .int .u32 0, .int .u32 0, .int .u32 0, .int .u32 0, .int .u32 0, .int .u32 0, .int .u32 0, .int .u32 0, .int .u32 0, .int .u32 0, .int .u32 0, .int .u32 0, .int .u32 0, .int .u32 0]
theorem below_setRow {B : Nat} {a w : World} (h : Below B a w) {g : Nat} (hg : B ≤ g) (cs : Array Value) : Below B a (w.setRow g cs) :=
  h.trans ⟨rfl, rfl, rfl, by simp, fun k hk => setRow_other w g k cs (by omega)⟩
theorem rowOne : (row 16).all (·.oneCell') = true := by
  unfold row
  simp [Value.oneCell']
theorem zerosSize : zeros.size = (row 16).size := rfl
/-- What a round of the loop keeps. -/
structure Rel (w : World) (k : Nat) (wr : World) : Prop where
  le : k ≤ 16
  res : wr.heap[w.heap.size]? = some (.cells zeros 181 (0, 0))
  tbl : wr.heap[w.heap.size + 1]? = some (.cells (row k) 181 (0, 0))
  below : Below w.heap.size w wr
theorem Rel.start (w : World) : Rel w 0 ((w.alloc (.cells zeros 181)).alloc (.cells (row 0) 181)) :=
  ⟨by omega, heap_alloc2_old _ _ _, heap_alloc2_new _ _ _, ((Below.refl _ _).alloc (Nat.le_refl _) _).alloc (by simp) _⟩
theorem Rel.next {w wr : World} {k : Nat} (h : Rel w k wr) (hk : k < 16) : Rel w (k + 1) (wr.setCell ⟨w.heap.size + 1, k, none⟩ (.int .u32 (tab (k + 1) k))).drew :=
  ⟨by omega, by rw [heap_drew, heap_setCell_other _ _ _ _ (by simp)]; exact h.res,
   by rw [heap_drew, heap_setCell_same _ _ _ _ _ _ h.tbl, row_set k hk], (h.below.setCell (Nat.le_add_right _ _) _).drew⟩
theorem Rel.round {w wr : World} {k : Nat} (h : Rel w k wr) (hk : k < 16) :
    Calls Tryz.prog 145 #[.int .i64 (k : Int), .pointer (some ⟨w.heap.size + 1, 0, none⟩)] wr fun e w' => e = .returned (.tuple #[]) ∧ Rel w (k + 1) w' := by
  have hc := fun j hj => (cell_of_row wr (w.heap.size + 1) j _ _ _ h.tbl).trans (row_get k j hj)
  refine (fill (w.heap.size + 1) k (loN k) (xoN k) _ _ _ wr hk (lo_lt k hk) (xo_lt k hk) (and_neg k hk) (xor_lo k hk) (hc _ (lo_lt k hk)) (hc _ (xo_lt k hk)) (hc _ hk) (frozen_of_row _ _ _ _ _ h.tbl)).mono ?_
  rintro e w' ⟨rfl, rfl⟩
  refine ⟨rfl, ?_⟩
  rw [u32_xor_nat _ _ (tab_lt _ _ (lo_lt k hk)) (tab_lt _ _ (xo_lt k hk)), tab_xor k hk]
  exact h.next hk
set_option maxHeartbeats 1000000 in
theorem halves (w : World) :
    Calls Tryz.prog 143 #[] w fun e w' => e = .returned (.agg (row 16)) ∧ Below w.heap.size w w' := by
  go_enter Tryz.func143, Tryz.ntmps143
  go_wp2
  go_loopw [3, 6] (fun _ j wr => ∃ k : Nat, j = .int .i64 k ∧ Rel w k wr) (fun _ j _ => 16 - (intOf j).toNat)
  case atStart => exact ⟨0, rfl, Rel.start w⟩
  case round =>
    obtain ⟨k, rfl, hr⟩ := hrel
    have hle := hr.le
    by_cases hk : k < 16
    · go_wp2_with fail
      refine (hr.round hk).mono ?_
      rintro e w1 ⟨rfl, hr1⟩
      go_wp2
      go_roundw
      case rel => exact ⟨k + 1, by go_num, hr1⟩
      case measure => simp [intOf]; omega
    · obtain rfl : k = 16 := by omega
      clear hk hle
      have hTbl := hr.tbl
      have hRes := hr.res
      have hB := hr.below
      clear hr
      go_wp2_with (first
        | ((with_reducible refine wpList_load_row (o := ⟨some 13, _, _, _, _, _⟩) ?a1 181 (.tmp 1) ?a2 (w.heap.size + 1) ?a3 181 (row 16) (0, 0) _ hTbl undT ?a4 infoR ?a5); (case a1 => rfl); (case a2 => rfl); (case a3 => rfl); (case a4 => rfl))
        | ((with_reducible refine wpList_store_row (o := ⟨none, _, _, _, _, _⟩) ?b1 181 (.tmp 0) (.tmp 13) ?b2 w.heap.size (row 16) ?b3 ?b4 181 zeros hRes infoR ?b5 ?b6 ?b7); (case b1 => rfl); (case b2 => rfl); (case b3 => rfl); (case b4 => rfl); (case b5 => exact zerosSize); (case b6 => exact rowOne)))
      refine bodyPost_ret (v := .agg (row 16)) ?_ rfl ⟨rfl, below_setRow hB (Nat.le_refl _) _⟩
      exact results_cell_row rfl _ _ w.heap.size 181 (row 16) (0, 0) _ rfl (setRow_heap wr _ _ _ _ _ hRes) undT rfl infoR
theorem and15 (D i : Nat) (hD : D < 4294967296) (h : D % 16 = i) : bits .and .u32 (D : Int) 15 = (i : Int) := by
  have h2 := u32_and_nat D 15 hD (by omega)
  refine h2.trans ?_
  rw [nat_mask4, h]
theorem half_xor (D : Nat) (hD : D < 4294967296) : bits .xor .u32 (tabN (D % 16) : Int) ((D : Int) / 16) = (steps 4 D : Int) := by
  have h1 : tabN (D % 16) < 4294967296 := steps_lt 4 _ (by omega)
  have e : (D : Int) / 16 = ((D / 16 : Nat) : Int) := by omega
  rw [e, u32_xor_nat _ _ h1 (by omega), half_step]
theorem tab16 : ∀ c : Nat, c < 16 → tab 16 c = tabN c := by
  intro c hc; unfold tab; rw [if_pos (.inl hc)]
set_option maxHeartbeats 1000000 in
theorem sum_any (s : ByteArray) (w : World) (hs : s.size ≤ maxLen) :
    Calls Tryz.prog 135 #[.string s] w fun e w' => e = .returned (.int .u32 (crc s.data.toList)) ∧ Below w.heap.size w w' := by
  unfold maxLen at hs
  go_enter Tryz.func135, Tryz.ntmps135
  go_wp2_with fail
  refine (halves w).mono ?_
  unfold row
  rintro e w1 ⟨rfl, hb⟩
  go_wp2
  have hcell : ∀ c : Nat, c < 16 → (w1.alloc (.cells (row 16) 181)).cell? ⟨w1.heap.size, c, none⟩ = some (.int .u32 (tabN c : Int)) := fun c hc => by
    rw [cell_of_row _ _ _ _ _ _ (heap_alloc_new w1 _), row_get 16 c hc, tab16 c hc]
  have hbel : Below w.heap.size w (w1.alloc (.cells (row 16) 181)) := hb.alloc hb.size _
  change Code.wp _ _ _ _ (w1.alloc (.cells (row 16) 181))
  generalize w1.alloc (.cells (row 16) 181) = W at *
  have HC := Lib.hid hcell
  clear hcell
  go_loop [4, 5, 9] (fun v _ j => ∃ k C : Nat, k ≤ s.size ∧ j = .int .i64 k ∧ v = .int .u32 (C : Int) ∧ C < 4294967296 ∧ Hid (C = remd 4294967295 (s.data.toList.take k))) (fun _ _ j => s.size - (intOf j).toNat)
  case atStart => exact ⟨0, 4294967295, by omega, rfl, rfl, by omega, by rw [List.take_zero, remd_nil]; exact rfl⟩
  case round =>
    obtain ⟨k, C, hk, rfl, rfl, hC, HR⟩ := hrel
    by_cases hlt : k < s.size
    · have hb8 := (s[k]).toNat_lt
      obtain ⟨D, hD⟩ : ∃ D, D = C ^^^ (s[k]).toNat := ⟨_, rfl⟩
      have hDlt : D < 4294967296 := by rw [hD]; exact Nat.xor_lt_two_pow (n := 32) hC (by omega)
      have hx1 : bits .xor .u32 (C : Int) ((s[k]).toNat : Int) = (D : Int) := by rw [hD]; exact u32_xor_nat _ _ hC (by omega)
      have HD := Lib.hid hD
      clear hD
      obtain ⟨i1, hi1, hand1⟩ : ∃ i1 : Nat, i1 < 16 ∧ (D % 16 = i1) := ⟨_, Nat.mod_lt _ (by omega), rfl⟩
      have ha1 : bits .and .u32 (D : Int) 15 = (i1 : Int) := and15 D i1 hDlt hand1
      obtain ⟨t1, ht1⟩ : ∃ t1, t1 = tabN i1 := ⟨_, rfl⟩
      have hc1 := HC.out i1 hi1
      rw [← ht1] at hc1
      obtain ⟨E, hE⟩ : ∃ E, E = steps 4 D := ⟨_, rfl⟩
      have hElt : E < 4294967296 := by rw [hE]; exact steps_lt 4 D hDlt
      have hx2 : bits .xor .u32 (t1 : Int) ((D : Int) / 16) = (E : Int) := by rw [ht1, hE, ← hand1]; exact half_xor D hDlt
      obtain ⟨i2, hi2, hand2⟩ : ∃ i2 : Nat, i2 < 16 ∧ (E % 16 = i2) := ⟨_, Nat.mod_lt _ (by omega), rfl⟩
      have ha2 : bits .and .u32 (E : Int) 15 = (i2 : Int) := and15 E i2 hElt hand2
      obtain ⟨t2, ht2⟩ : ∃ t2, t2 = tabN i2 := ⟨_, rfl⟩
      have hc2 := HC.out i2 hi2
      rw [← ht2] at hc2
      obtain ⟨F, hF⟩ : ∃ F, F = steps 4 E := ⟨_, rfl⟩
      have hFlt : F < 4294967296 := by rw [hF]; exact steps_lt 4 E hElt
      have hx3 : bits .xor .u32 (t2 : Int) ((E : Int) / 16) = (F : Int) := by rw [ht2, hF, ← hand2]; exact half_xor E hElt
      have hfin : F = remd 4294967295 (s.data.toList.take (k + 1)) := by
        have hts : s.data.toList.take (k + 1) = s.data.toList.take k ++ [s[k]] := by
          rw [List.take_succ_eq_append_getElem (by simpa using hlt)]; rfl
        rw [hts, remd_snoc, ← HR.out, hF, hE, ← steps_add]
        unfold bstep
        rw [← HD.out]
      have HF := Lib.hid hfin
      clear hfin hF hE hand1 hand2 ht1 ht2
      go_wp2
      go_round
      case rel => exact ⟨k + 1, F, by omega, by go_num, rfl, hFlt, HF⟩
      case measure => simp [intOf]; omega
    · have hfin : C = remd 4294967295 s.data.toList := by
        have h := HR.out
        rw [List.take_of_length_le (by simp; omega)] at h
        exact h
      have HF := Lib.hid hfin
      clear hfin
      go_wp2
      go_ret
      refine ⟨ret_i ?_, hbel⟩
      rw [HF.out]
      have e : IntKind.u32.max = ((4294967295 : Nat) : Int) := by decide
      rw [e, u32_xor_nat _ _ (by omega) (remd_lt _ _ (by omega))]
      rfl
end Go.Proofs.YtaoneiicoaiehaaGreat.WSum
namespace Go.Proofs.YtaoneiicoaiehaaGreat.WRefRoom
set_option maxRecDepth 100000
open Go Go.RowKit Go.Proofs.YtaoneiicoaiehaaGreat.Wm
theorem room_top (v n b : Int) (w : World) (h0 : 0 ≤ n) (h1 : n ≤ 16) (h : 64 ≤ n * b) (h' : n * b ≤ 128) :
    Calls Tryz.prog 104 #[.int .u64 v, .int .i64 n, .int .u64 b] w fun e w' => e = .returned (.bool true) ∧ w = w' := by
  have h4 : 0 ≤ n * b := by omega
  go_enter Tryz.func104, Tryz.ntmps104
  go_wp2
  go_ret
  exact ⟨rfl, rfl⟩
theorem room_low (v n b p : Int) (r : Bool) (w : World) (h0 : 0 ≤ n) (h1 : n ≤ 16) (h : ¬ 64 ≤ n * b) (h5 : 0 ≤ n * b) (hp : IntKind.u64.wrap (2 ^ (n * b).toNat) = p) (hr : decide (v < p) = r) :
    Calls Tryz.prog 104 #[.int .u64 v, .int .i64 n, .int .u64 b] w fun e w' => e = .returned (.bool r) ∧ w = w' := by
  go_enter Tryz.func104, Tryz.ntmps104
  go_wp2
  go_ret
  exact ⟨rfl, rfl⟩
/-- Room in m bytes. -/
theorem room8 (v : Int) (V m : Nat) (w : World) (hm : m ≤ 8) (hV : V < 18446744073709551616) (hv : v = (V : Int)) (r : Bool) (hr : decide (V < 256 ^ m) = r) :
    Calls Tryz.prog 104 #[.int .u64 v, .int .i64 (m : Int), .int .u64 8] w fun e w' => e = .returned (.bool r) ∧ w = w' := by
  by_cases h : m = 8
  · have e : (256 : Nat) ^ 8 = 18446744073709551616 := by decide
    have hr' : r = true := by rw [← hr, h, e]; exact decide_eq_true hV
    rw [hr']
    exact room_top v m 8 w (by omega) (by omega) (by omega) (by omega)
  · have h1 : (2 : Nat) ^ (8 * m) ≤ 2 ^ 56 := Nat.pow_le_pow_right (by omega) (by omega)
    have e : ((m : Int) * 8).toNat = 8 * m := by omega
    have e2 : (2 : Int) ^ (8 * m) = ((2 ^ (8 * m) : Nat) : Int) := by rw [Int.natCast_pow]; rfl
    refine room_low v m 8 ((256 ^ m : Nat) : Int) r w (by omega) (by omega) (by omega) (by omega) ?_ ?_
    · rw [e, e2, wrap_u64_small _ (by omega), pow256]
    · rw [← hr, hv]
      exact decide_eq_decide.2 (by omega)
end Go.Proofs.YtaoneiicoaiehaaGreat.WRefRoom
namespace Go.Proofs.YtaoneiicoaiehaaGreat.WRefPut
set_option maxRecDepth 100000
open Go Go.RowKit Go.Proofs.YtaoneiicoaiehaaGreat.Wm
theorem put_bad (v n : Int) (w : World) (h : n < 1 ∨ 8 < n) :
    Calls Tryz.prog 70 #[.int .u64 v, .int .i64 n] w fun e w' => e = .returned (.tuple #[.string ⟨#[]⟩, .int .i64 2]) ∧ w = w' := by
  by_cases h1 : n < 1
  · go_enter Tryz.func70, Tryz.ntmps70
    go_wp2
    go_ret2
    exact ⟨rfl, rfl⟩
  · have h2 : 8 < n := by omega
    go_enter Tryz.func70, Tryz.ntmps70
    go_wp2
    go_ret2
    exact ⟨rfl, rfl⟩
theorem put_long (v : Int) (V m : Nat) (w : World) (h1 : 1 ≤ m) (h2 : m ≤ 8) (hV : V < 18446744073709551616) (hv : v = (V : Int)) (hl : ¬ V < 256 ^ m) :
    Calls Tryz.prog 70 #[.int .u64 v, .int .i64 (m : Int)] w fun e w' => e = .returned (.tuple #[.string ⟨#[]⟩, .int .i64 5]) ∧ w = w' := by
  have HV := Lib.hid hV
  have Hv := Lib.hid hv
  have HL := Lib.hid hl
  clear hV hv hl
  go_enter Tryz.func70, Tryz.ntmps70
  go_wp2_with fail
  refine (WRefRoom.room8 v V m w h2 HV.out Hv.out false (by simpa using HL.out)).mono ?_
  rintro e w1 ⟨rfl, rfl⟩
  go_wp2
  go_ret2
  exact ⟨rfl, rfl⟩
def cells (l : List UInt8) : List Value := l.map fun b => Value.int .u8 (b.toNat : Int)
theorem byte_of (V : Nat) : IntKind.u8.wrap (V : Int) = ((UInt8.ofNat (V % 256)).toNat : Int) := by
  rw [IntKind.wrap_u8]
  simp only [UInt8.toNat_ofNat']
  omega
theorem byte_mod (V : Nat) : (V : Int) % 256 = ((UInt8.ofNat (V % 256)).toNat : Int) := by
  simp only [UInt8.toNat_ofNat']
  omega
theorem put_ok (v : Int) (V m : Nat) (w : World) (h1 : 1 ≤ m) (h2 : m ≤ 8) (hV : V < 18446744073709551616) (hv : v = (V : Int)) (hl : V < 256 ^ m) :
    Calls Tryz.prog 70 #[.int .u64 v, .int .i64 (m : Int)] w fun e w' => e = .returned (.tuple #[.string ⟨(putN V m).toArray⟩, .int .i64 0]) ∧ Below w.heap.size w w' := by
  obtain ⟨i0, hi, hz0, hz1, hz2⟩ := info_parts WPut.infoE
  have HV := Lib.hid hV
  have Hv := Lib.hid hv
  have HL := Lib.hid hl
  clear hV hv hl
  go_enter Tryz.func70, Tryz.ntmps70
  go_wp2_with fail
  refine (WRefRoom.room8 v V m w h2 HV.out Hv.out true (by simpa using HL.out)).mono ?_
  rintro e w1 ⟨rfl, rfl⟩
  go_wp2
  go_loopw [0, 6, 7] (fun x b j wr => ∃ k : Nat, k ≤ m ∧ j = .int .i64 k ∧ x = .int .u64 ((V / 256 ^ k : Nat) : Int) ∧ wr.ownsRow w.heap.size 5 1 b k (cells (putN V k)) ∧ Below w.heap.size w wr) (fun _ _ j _ => m - (intOf j).toNat)
  case atStart => exact ⟨0, by omega, rfl, by rw [Hv.out]; simp, World.ownsRow_nil _ _ _ _, Below.refl _ _⟩
  case round =>
    obtain ⟨k, hk, rfl, rfl, hown, hb⟩ := hrel
    have hq : V / 256 ^ k < 18446744073709551616 := Nat.lt_of_le_of_lt (Nat.div_le_self _ _) HV.out
    by_cases hlt : k < m
    · obtain ⟨q, hqe⟩ : ∃ q, q = V / 256 ^ k := ⟨_, rfl⟩
      rw [← hqe] at hq ⊢
      have HQ := Lib.hid hqe
      clear hqe
      have hsz := hb.size
      go_wp2_with (at_builtin; refine wpList_append_own _ rfl _ _ 97 rfl w.heap.size 5 i0 (.int .u8 0) 1 1 WPut.undL hi hz0 hz1 hz2 rfl (by decide) _ k _ rfl (hown.alloc _) ⟨wr.heap.size, 0, none⟩ 1 1 [.int .u8 ((UInt8.ofNat (q % 256)).toNat : Int)] rfl rfl ?c1 ?c2 ?c3 ?c4 ?c5 ?_)
      case c1 =>
        intro j u hj
        cases j with
        | zero =>
          simp only [List.getElem?_cons_zero, Option.some.injEq] at hj
          rw [← hj, ← byte_mod, WPut.addr_add, cell_of_row _ _ _ _ _ _ (heap_alloc_new wr _)]
          rfl
        | succ j => simp at hj
      case c2 => intro u hu; simp only [List.mem_singleton] at hu; subst hu; rfl
      case c3 => unfold maxLen; omega
      case c4 => omega
      case c5 => simp; omega
      intro v' w1 hown1 hgrow _
      have hB1 : Below w.heap.size w w1 := (hb.alloc hsz _).grown hgrow (by simp; omega) (fun b hbk => (hown.lt b hbk).1)
      have hown2 : w1.ownsRow w.heap.size 5 1 v' (k + 1) (cells (putN V (k + 1))) := by
        rw [putN_snoc, cells, List.map_append, ← HQ.out]; rw [byte_mod] at hown1; exact hown1
      clear hown hown1 hgrow hb
      go_wp2
      go_roundw
      case rel => exact ⟨k + 1, by omega, by go_num, congrArg (Value.int .u64) (by rw [HQ.out, Nat.pow_succ, ← Nat.div_div_eq_div_mul]; omega), hown2, hB1⟩
      case measure => simp [intOf]; omega
    · obtain rfl : k = m := by omega
      obtain ⟨hlen, hrow | ⟨g, cap, cur, rfl, hg, hcur, hcap, hmax, hcs, htake⟩⟩ := hown
      · omega
      · have hcv := run_convert_bytes_back (P := Tryz.prog) wr 97 9 5 ⟨g, 0, none⟩ cap (putN V k) WPut.undL WPut.undE WPut.undS (fun j hj => by
          rw [WPut.addr_add, cell_of_row _ _ _ _ _ _ hcur]
          have e : (cells (putN V k))[j]? = some (.int .u8 (((putN V k)[j]).toNat : Int)) := by
            rw [cells, List.getElem?_map, List.getElem?_eq_getElem hj]; rfl
          rw [← htake, List.getElem?_take] at e
          split at e
          · simpa using e
          · cases e)
        rw [putN_length] at hcv
        clear hcur htake hcs hlen
        go_wp2
        go_ret2
        exact ⟨rfl, hb⟩
/-- As word.Put. -/
theorem put_any (v n : Int) (w : World) (hv : 0 ≤ v) (hv' : v < 18446744073709551616) :
    Calls Tryz.prog 70 #[.int .u64 v, .int .i64 n] w fun e w' => e = .returned (.tuple #[.string ⟨(WPut.putS v n).1.toArray⟩, .int .i64 (WPut.putS v n).2]) ∧ Below w.heap.size w w' := by
  unfold WPut.putS
  by_cases h : n < 1 ∨ 8 < n
  · rw [if_pos h]
    exact (put_bad v n w h).mono fun _ _ hh => ⟨hh.1, hh.2 ▸ Below.refl _ _⟩
  · rw [if_neg h]
    obtain ⟨m, rfl⟩ := Int.eq_ofNat_of_zero_le (show 0 ≤ n by omega)
    by_cases hl : v.toNat < 256 ^ (m : Int).toNat
    · rw [if_pos hl]
      exact put_ok v v.toNat m w (by omega) (by omega) (by omega) (by omega) hl
    · rw [if_neg hl]
      exact (put_long v v.toNat m w (by omega) (by omega) (by omega) (by omega) hl).mono fun _ _ hh => ⟨hh.1, hh.2 ▸ Below.refl _ _⟩
theorem get_bad (s : ByteArray) (w : World) (h : s.size < 1 ∨ 8 < s.size) (hs : s.size ≤ maxLen) :
    Calls Tryz.prog 76 #[.string s] w fun e w' => e = .returned (.tuple #[.int .u64 0, .int .i64 2]) ∧ w = w' := by
  unfold maxLen at hs
  by_cases h1 : s.size < 1
  · go_enter Tryz.func76, Tryz.ntmps76
    go_wp2
    go_ret2
    exact ⟨rfl, rfl⟩
  · have h2 : 8 < s.size := by omega
    go_enter Tryz.func76, Tryz.ntmps76
    go_wp2
    go_ret2
    exact ⟨rfl, rfl⟩
theorem pow256_le (k : Nat) (h : k ≤ 7) : 256 ^ k ≤ 72057594037927936 := by
  have := Nat.pow_le_pow_right (n := 256) (by omega) h
  simpa using this
theorem get_ok (s : ByteArray) (w : World) (h : 1 ≤ s.size) (h' : s.size ≤ 8) :
    Calls Tryz.prog 76 #[.string s] w fun e w' => e = .returned (.tuple #[.int .u64 (getL s.data.toList), .int .i64 0]) ∧ w = w' := by
  have h1 : ¬ s.size < 1 := by omega
  have h2 : ¬ 8 < s.size := by omega
  go_enter Tryz.func76, Tryz.ntmps76
  go_wp2
  go_loop [4, 5] (fun v j => ∃ (k : Nat) (i : Int), Hid (i = (k : Int) - 1) ∧ k ≤ s.size ∧ j = .int .i64 i ∧ v = .int .u64 (getL (s.data.toList.drop k))) (fun _ j => (intOf j + 1).toNat)
  case atStart => exact ⟨s.size, _, rfl, by omega, rfl, by rw [List.drop_of_length_le (by simp)]; rfl⟩
  case round =>
    obtain ⟨k, i, HI, hk, rfl, rfl⟩ := hrel
    cases k with
    | zero =>
      have hi : i = -1 := by have := HI.out; omega
      subst hi
      go_wp2
      go_ret2
      exact ⟨rfl, rfl⟩
    | succ k =>
      have hi : i = (k : Int) := by have := HI.out; omega
      subst hi
      have hlt : k < s.size := by omega
      have hV : getL (s.data.toList.drop (k + 1)) < 72057594037927936 := by
        have h1 := getL_lt (s.data.toList.drop (k + 1))
        exact Nat.lt_of_lt_of_le h1 (pow256_le _ (by simp; omega))
      obtain ⟨V, hVe⟩ : ∃ V, V = getL (s.data.toList.drop (k + 1)) := ⟨_, rfl⟩
      have hst : getL (s.data.toList.drop k) = 256 * V + (s[k]).toNat := by
        have e : s.data.toList.drop k = s[k] :: s.data.toList.drop (k + 1) := by
          rw [List.drop_eq_getElem_cons (by simpa using hlt)]; rfl
        rw [e, getL, hVe, Nat.add_comm]
      rw [← hVe] at hV ⊢
      have hb8 := (s[k]).toNat_lt
      have HS := Lib.hid hst
      clear hst hVe HI
      go_wp2
      go_round
      case rel => exact ⟨k, (k : Int) - 1, rfl, by omega, rfl, congrArg (Value.int .u64) (by rw [HS.out]; omega)⟩
      case measure => simp [intOf]
/-- As word.Get. -/
theorem get_any (s : ByteArray) (w : World) (hs : s.size ≤ maxLen) :
    Calls Tryz.prog 76 #[.string s] w fun e w' => e = .returned (.tuple #[.int .u64 (WGet.getS s.data.toList).1, .int .i64 (WGet.getS s.data.toList).2]) ∧ w = w' := by
  have hsz : s.data.toList.length = s.size := by simp
  unfold WGet.getS
  rw [hsz]
  by_cases h : s.size < 1 ∨ 8 < s.size
  · rw [if_pos h]
    exact get_bad s w h hs
  · rw [if_neg h]
    exact get_ok s w (by omega) (by omega)
end Go.Proofs.YtaoneiicoaiehaaGreat.WRefPut
namespace Go.Proofs.YtaoneiicoaiehaaGreat.WRefSum
set_option maxRecDepth 100000
open Go Go.RowKit Go.Proofs.YtaoneiicoaiehaaGreat.Wm Go.Proofs.YtaoneiicoaiehaaGreat.Wc
theorem sum_any (s : ByteArray) (w : World) (hs : s.size ≤ maxLen) :
    Calls Tryz.prog 106 #[.string s] w fun e w' => e = .returned (.int .u32 (crc s.data.toList)) ∧ w = w' := by
  unfold maxLen at hs
  go_enter Tryz.func106, Tryz.ntmps106
  go_wp2
  go_loop [3, 4, 5, 6] (fun v j _ _ => ∃ k C : Nat, k ≤ s.size ∧ j = .int .i64 k ∧ v = .int .u32 (C : Int) ∧ C < 4294967296 ∧ Hid (C = remd 4294967295 (s.data.toList.take k))) (fun _ j _ _ => s.size - (intOf j).toNat)
  case atStart => exact ⟨0, 4294967295, by omega, rfl, rfl, by omega, by rw [List.take_zero, remd_nil]; exact rfl⟩
  case round =>
    obtain ⟨k, C, hk, rfl, rfl, hC, HR⟩ := hrel
    by_cases hlt : k < s.size
    · have hb8 := (s[k]).toNat_lt
      obtain ⟨D, hD⟩ : ∃ D, D = C ^^^ (s[k]).toNat := ⟨_, rfl⟩
      have hDlt : D < 4294967296 := by rw [hD]; exact Nat.xor_lt_two_pow (n := 32) hC (by omega)
      have hx1 : bits .xor .u32 (C : Int) ((s[k]).toNat : Int) = (D : Int) := by rw [hD]; exact u32_xor_nat _ _ hC (by omega)
      have HD := Lib.hid hD
      clear hD
      go_wp2
      go_loop [3, 5, 6] (fun v j _ => ∃ i E : Nat, i ≤ 8 ∧ j = .int .i64 i ∧ v = .int .u32 (E : Int) ∧ E < 4294967296 ∧ Hid (steps (8 - i) E = steps 8 D)) (fun _ j _ => 8 - (intOf j).toNat)
      case atStart => exact ⟨0, D, by omega, rfl, rfl, hDlt, rfl⟩
      case round =>
        obtain ⟨i, E, hi, rfl, rfl, hE, HE⟩ := hrel
        by_cases hi8 : i < 8
        · have hst := HE.out
          have e1 : 8 - i = (8 - (i + 1)) + 1 := by omega
          rw [e1, Wc.steps] at hst
          have HS := Lib.hid hst
          clear hst e1 HE
          by_cases hodd : E % 2 = 1
          · have hx2 : bits .xor .u32 ((E : Int) / 2) 3988292384 = (Wc.step E : Int) := by
              have e : (E : Int) / 2 = ((E / 2 : Nat) : Int) := by omega
              unfold Wc.step
              rw [if_pos hodd, e]
              exact u32_xor_nat (E / 2) poly (by omega) (by decide)
            have hb2 : (((E : Int) % 2) == 1) = true := by rw [beq_iff_eq]; omega
            have hSlt := step_lt E hE
            clear hodd
            go_wp2
            go_round
            case rel => exact ⟨i + 1, Wc.step E, by omega, by go_num, rfl, hSlt, HS⟩
            case measure => simp [intOf]; omega
          · have hb2 : (((E : Int) % 2) == 1) = false := by rw [beq_eq_false_iff_ne]; omega
            have hst2 : Wc.step E = E / 2 := by unfold Wc.step; rw [if_neg hodd]
            have hS2 := HS.out
            rw [hst2] at hS2
            have HS2 := Lib.hid hS2
            clear hodd hst2 hS2 HS
            go_wp2
            go_round
            case rel => exact ⟨i + 1, E / 2, by omega, by go_num, congrArg (Value.int .u32) (by omega), by omega, HS2⟩
            case measure => simp [intOf]; omega
        · have hi' : i = 8 := by omega
          have hst := HE.out
          rw [hi'] at hst
          have hfin : E = remd 4294967295 (s.data.toList.take (k + 1)) := by
            have hts : s.data.toList.take (k + 1) = s.data.toList.take k ++ [s[k]] := by
              rw [List.take_succ_eq_append_getElem (by simpa using hlt)]; rfl
            rw [hts, remd_snoc, ← HR.out]
            unfold bstep
            rw [← HD.out]
            exact hst
          have HF := Lib.hid hfin
          clear hfin hst hi'
          go_wp2
          go_round
          case rel => exact ⟨k + 1, E, by omega, by go_num, rfl, hE, HF⟩
          case measure => simp [intOf]; omega
    · have hfin : C = remd 4294967295 s.data.toList := by
        have h := HR.out
        rw [List.take_of_length_le (by simp; omega)] at h
        exact h
      have HF := Lib.hid hfin
      clear hfin
      go_wp2
      go_ret
      refine ⟨ret_i ?_, rfl⟩
      rw [HF.out]
      have e : IntKind.u32.max = ((4294967295 : Nat) : Int) := by decide
      rw [e, u32_xor_nat _ _ (by omega) (remd_lt _ _ (by omega))]
      rfl
end Go.Proofs.YtaoneiicoaiehaaGreat.WRefSum
