/- Plain arithmetic on numbers as bytes and as digits: nothing of the program. -/
import Derived.WalkKit
import Derived.Laws.Cover4
namespace Go.Proofs.Ytbjemekkpmbhhaa.Wm
open Go
theorem ret_ii {k j : IntKind} {a b c d : Int} (h : a = b) (h' : c = d) : Ending.returned (.tuple #[.int k a, .int j c]) = Ending.returned (.tuple #[.int k b, .int j d]) := by rw [h, h']
theorem ret_si {j : IntKind} {a b : ByteArray} {c d : Int} (h : a = b) (h' : c = d) : Ending.returned (.tuple #[.string a, .int j c]) = Ending.returned (.tuple #[.string b, .int j d]) := by rw [h, h']
theorem ret_ib {k : IntKind} {a b : Int} {c d : Bool} (h : a = b) (h' : c = d) : Ending.returned (.tuple #[.int k a, .bool c]) = Ending.returned (.tuple #[.int k b, .bool d]) := by rw [h, h']
theorem ret_i {k : IntKind} {a b : Int} (h : a = b) : Ending.returned (.int k a) = .returned (.int k b) := by rw [h]
/-- The m bytes of v, the lowest one first. -/
def putN (v : Nat) : Nat → List UInt8
  | 0 => []
  | m + 1 => UInt8.ofNat (v % 256) :: putN (v / 256) m
theorem putN_length : ∀ (m v : Nat), (putN v m).length = m
  | 0, _ => rfl
  | m + 1, v => by simp [putN, putN_length m]
theorem putN_get : ∀ (m v j : Nat) (h : j < (putN v m).length), ((putN v m)[j]).toNat = v / 256 ^ j % 256
  | 0, _, _, h => by simp [putN] at h
  | m + 1, v, 0, h => by simp [putN]
  | m + 1, v, j + 1, h => by
    simp only [putN, List.getElem_cons_succ]
    rw [putN_get m (v / 256) j, Nat.div_div_eq_div_mul, Nat.pow_succ, Nat.mul_comm]
/-- The number whose bytes these are, the lowest one first. -/
def getL : List UInt8 → Nat
  | [] => 0
  | b :: r => b.toNat + 256 * getL r
theorem getL_lt : ∀ l : List UInt8, getL l < 256 ^ l.length
  | [] => by simp [getL]
  | b :: r => by
    have h := getL_lt r
    have hb := b.toNat_lt
    simp only [getL, List.length_cons, Nat.pow_succ]
    omega
theorem getL_snoc : ∀ (l : List UInt8) (b : UInt8), getL (l ++ [b]) = getL l + 256 ^ l.length * b.toNat
  | [], b => by simp [getL]
  | c :: r, b => by
    simp only [List.cons_append, getL, getL_snoc r b, List.length_cons, Nat.pow_succ, Nat.mul_add]
    rw [Nat.mul_comm (256 ^ r.length) 256, Nat.mul_assoc]; omega
theorem getL_putN : ∀ (m v : Nat), getL (putN v m) = v % 256 ^ m
  | 0, v => by simp [getL, putN, Nat.mod_one]
  | m + 1, v => by
    simp only [getL, putN, getL_putN m (v / 256)]
    rw [Nat.pow_succ, Nat.mul_comm (256 ^ m) 256, Nat.mod_mul]
    simp
theorem putN_getL : ∀ l : List UInt8, putN (getL l) l.length = l
  | [] => rfl
  | b :: r => by
    have hb := b.toNat_lt
    have h1 : (b.toNat + 256 * getL r) % 256 = b.toNat := by omega
    have h2 : (b.toNat + 256 * getL r) / 256 = getL r := by omega
    simp [getL, putN, h1, h2, putN_getL r]
theorem pow256 (k : Nat) : (256 : Nat) ^ k = 2 ^ (8 * k) := by rw [Nat.pow_mul]
theorem pow16 (k : Nat) : (16 : Nat) ^ k = 2 ^ (4 * k) := by rw [Nat.pow_mul]
theorem wrap_u64_small (n : Nat) (h : n < 18446744073709551616) : IntKind.u64.wrap (n : Int) = (n : Int) := by
  simp only [IntKind.wrap, IntKind.bits, IntKind.signed]
  simp
  omega
/-- One round of Get. -/
theorem get_step (l : List UInt8) (b : UInt8) (k : Nat) (hl : l.length = k) (hk : k < 8) :
    bits .or .u64 (getL l : Int) (IntKind.u64.wrap (IntKind.u64.wrap (b.toNat : Int) * 2 ^ (8 * k))) = (getL (l ++ [b]) : Int) := by
  subst hl
  have hb := b.toNat_lt
  have h1 : (2 : Nat) ^ (8 * l.length) ≤ 2 ^ 56 := Nat.pow_le_pow_right (by omega) (by omega)
  have h2 : b.toNat * 2 ^ (8 * l.length) ≤ 255 * 2 ^ 56 := Nat.mul_le_mul (by omega) h1
  have h3 := getL_lt l
  rw [pow256] at h3
  rw [wrap_u64_small _ (by omega)]
  have e : ((b.toNat : Int) * 2 ^ (8 * l.length)) = ((b.toNat * 2 ^ (8 * l.length) : Nat) : Int) := by
    rw [Int.natCast_mul, Int.natCast_pow]; rfl
  rw [e, wrap_u64_small _ (by omega), u64_or_nat _ _ (by omega) (by omega), getL_snoc, Nat.or_comm, Nat.mul_comm, ← Nat.two_pow_add_eq_or_of_lt h3, pow256, Nat.add_comm]
theorem cast_div (V a : Nat) : ((V : Int) / 2 ^ a) = ((V / 2 ^ a : Nat) : Int) := by
  rw [Int.natCast_ediv, Int.natCast_pow]; rfl
/-- Room, as the program asks for it. -/
theorem room_yes (V k a : Nat) (ha : a = 8 * k) (h : V < 256 ^ k) : ((V : Int) / 2 ^ a) = 0 := by
  subst ha
  rw [cast_div, ← pow256, Nat.div_eq_of_lt h]; rfl
theorem room_no (V k a : Nat) (ha : a = 8 * k) (h : ¬ V < 256 ^ k) : ((V : Int) / 2 ^ a) ≠ 0 := by
  subst ha
  rw [cast_div, ← pow256]
  have : 0 < V / 256 ^ k := Nat.div_pos (by omega) (Nat.pow_pos (by omega))
  omega
theorem room_yes4 (V k a : Nat) (ha : a = 4 * k) (h : V < 16 ^ k) : ((V : Int) / 2 ^ a) = 0 := by
  subst ha
  rw [cast_div, ← pow16, Nat.div_eq_of_lt h]; rfl
theorem room_no4 (V k a : Nat) (ha : a = 4 * k) (h : ¬ V < 16 ^ k) : ((V : Int) / 2 ^ a) ≠ 0 := by
  subst ha
  rw [cast_div, ← pow16]
  have : 0 < V / 16 ^ k := Nat.div_pos (by omega) (Nat.pow_pos (by omega))
  omega
theorem putN_byte (V m j : Nat) (h : j < (putN V m).length) : (V : Int) / 2 ^ (8 * j) % 256 = (((putN V m)[j]).toNat : Int) := by
  rw [putN_get, cast_div, pow256]; omega
/-- The digit of a number below 16. -/
def dig (d : Nat) : UInt8 := if d < 10 then UInt8.ofNat (48 + d) else UInt8.ofNat (87 + d)
/-- The n digits of v to the base 16, the highest one first. -/
def hexN (v : Nat) : Nat → List UInt8
  | 0 => []
  | n + 1 => hexN (v / 16) n ++ [dig (v % 16)]
theorem hexN_length : ∀ (n v : Nat), (hexN v n).length = n
  | 0, _ => rfl
  | n + 1, v => by simp [hexN, hexN_length n]
theorem hexN_get : ∀ (n v j : Nat), j < n → (hexN v n)[n - 1 - j]? = some (dig (v / 16 ^ j % 16))
  | 0, _, _, h => by omega
  | n + 1, v, 0, _ => by
    simp [hexN, hexN_length]
  | n + 1, v, j + 1, h => by
    have h1 : n + 1 - 1 - (j + 1) = n - 1 - j := by omega
    rw [h1, hexN, List.getElem?_append_left (by rw [hexN_length]; omega), hexN_get n (v / 16) j (by omega), Nat.div_div_eq_div_mul, Nat.pow_succ, Nat.mul_comm]
/-- The worth of a digit; none: it is none. -/
def worth (c : UInt8) : Option Nat :=
  if 48 ≤ c.toNat ∧ c.toNat ≤ 57 then some (c.toNat - 48) else if 97 ≤ c.toNat ∧ c.toNat ≤ 102 then some (c.toNat - 87) else none
/-- The number whose digits these are, with v ahead; none: one is no digit. -/
def unhexL : Nat → List UInt8 → Option Nat
  | v, [] => some v
  | v, c :: r => match worth c with
    | some d => unhexL (16 * v + d) r
    | none => none
theorem worth_dig (d : Nat) (h : d < 16) : worth (dig d) = some d := by
  unfold worth dig
  by_cases h1 : d < 10
  · have e : (UInt8.ofNat (48 + d)).toNat = 48 + d := by simp only [UInt8.toNat_ofNat']; omega
    rw [if_pos h1, e, if_pos (by omega)]; congr 1; omega
  · have e : (UInt8.ofNat (87 + d)).toNat = 87 + d := by simp only [UInt8.toNat_ofNat']; omega
    rw [if_neg h1, e, if_neg (by omega), if_pos (by omega)]; congr 1; omega
theorem dig_worth (c : UInt8) (d : Nat) (h : worth c = some d) : dig d = c ∧ d < 16 := by
  have hc := c.toNat_lt
  have key : ∀ n, n = c.toNat → UInt8.ofNat n = c := fun n hn => by subst hn; simp
  unfold worth at h
  split at h
  · injection h with h; subst h
    refine ⟨?_, by omega⟩
    unfold dig; rw [if_pos (by omega)]; exact key _ (by omega)
  · split at h
    · injection h with h; subst h
      refine ⟨?_, by omega⟩
      unfold dig; rw [if_neg (by omega)]; exact key _ (by omega)
    · cases h
theorem unhexL_append (l r : List UInt8) (v x : Nat) (h : unhexL v l = some x) : unhexL v (l ++ r) = unhexL x r := by
  induction l generalizing v with
  | nil => simp [unhexL] at h; subst h; rfl
  | cons c l ih =>
    simp only [List.cons_append, unhexL] at h ⊢
    cases hw : worth c with
    | none => rw [hw] at h; cases h
    | some d => rw [hw] at h; exact ih _ h
theorem unhexL_hexN : ∀ (n v : Nat), unhexL 0 (hexN v n) = some (v % 16 ^ n)
  | 0, v => by simp [hexN, unhexL, Nat.mod_one]
  | n + 1, v => by
    rw [hexN, unhexL_append _ _ _ _ (unhexL_hexN n (v / 16))]
    simp only [unhexL, worth_dig _ (Nat.mod_lt v (by omega : 0 < 16))]
    congr 1
    rw [Nat.pow_succ, Nat.mul_comm (16 ^ n) 16, Nat.mod_mul]; omega
theorem hexN_split : ∀ (m n v d : Nat), d < 16 ^ m → hexN (16 ^ m * v + d) (n + m) = hexN v n ++ hexN d m
  | 0, n, v, d, h => by
    have : d = 0 := by simpa using h
    subst this; simp [hexN]
  | m + 1, n, v, d, h => by
    have e1 : (16 ^ (m + 1) * v + d) / 16 = 16 ^ m * v + d / 16 := by
      rw [Nat.pow_succ, Nat.mul_assoc, Nat.mul_comm 16 v, ← Nat.mul_assoc]; omega
    have e2 : (16 ^ (m + 1) * v + d) % 16 = d % 16 := by
      rw [Nat.pow_succ, Nat.mul_assoc, Nat.mul_comm 16 v, ← Nat.mul_assoc]; omega
    rw [← Nat.add_assoc, hexN, e1, e2, hexN_split m n v (d / 16) (by rw [Nat.pow_succ] at h; omega), hexN, List.append_assoc]
/-- What was read is told again as it stood. -/
theorem hexN_unhexL : ∀ (l : List UInt8) (v n x : Nat), unhexL v l = some x → hexN x (n + l.length) = hexN v n ++ l
  | [], v, n, x, h => by simp [unhexL] at h; subst h; simp
  | c :: r, v, n, x, h => by
    simp only [unhexL] at h
    cases hw : worth c with
    | none => rw [hw] at h; cases h
    | some d =>
      rw [hw] at h
      obtain ⟨hd, hlt⟩ := dig_worth c d hw
      have := hexN_unhexL r (16 * v + d) (n + 1) x h
      have e : n + (c :: r).length = n + 1 + r.length := by simp [List.length_cons]; omega
      rw [e, this, hexN]
      have e1 : (16 * v + d) / 16 = v := by omega
      have e2 : (16 * v + d) % 16 = d := by omega
      rw [e1, e2, hd, List.append_assoc]; rfl
theorem unhexL_lt : ∀ (l : List UInt8) (v x n : Nat), unhexL v l = some x → v < 16 ^ n → x < 16 ^ (n + l.length)
  | [], v, x, n, h, hv => by simp [unhexL] at h; subst h; simpa using hv
  | c :: r, v, x, n, h, hv => by
    simp only [unhexL] at h
    cases hw : worth c with
    | none => rw [hw] at h; cases h
    | some d =>
      rw [hw] at h
      obtain ⟨_, hlt⟩ := dig_worth c d hw
      have := unhexL_lt r (16 * v + d) x (n + 1) h (by rw [Nat.pow_succ]; omega)
      have e : n + (c :: r).length = n + 1 + r.length := by simp [List.length_cons]; omega
      rw [e]; exact this
theorem unhexL_none_append (l r : List UInt8) (v : Nat) (h : unhexL v l = none) : unhexL v (l ++ r) = none := by
  induction l generalizing v with
  | nil => simp [unhexL] at h
  | cons c l ih =>
    simp only [List.cons_append, unhexL] at h ⊢
    cases hw : worth c with
    | none => rfl
    | some d => rw [hw] at h; exact ih _ h
/-- The rune of a digit. -/
def digI (d : Nat) : Int := if d < 10 then 48 + d else 87 + d
theorem dig_digI (d : Nat) (h : d < 16) : ((dig d).toNat : Int) = digI d := by
  unfold dig digI
  by_cases h1 : d < 10
  · rw [if_pos h1, if_pos h1]; simp only [UInt8.toNat_ofNat']; omega
  · rw [if_neg h1, if_neg h1]; simp only [UInt8.toNat_ofNat']; omega
theorem encode_ascii (b : UInt8) (h : b.toNat < 128) : Utf8.encode (b.toNat : Int) = ⟨#[b]⟩ := by
  have hv : Utf8.valid (b.toNat : Int) = true := by
    simp [Utf8.valid]
    omega
  unfold Utf8.encode
  simp [hv, h]
theorem runesBytes_ascii (l : List UInt8) (h : ∀ b ∈ l, b.toNat < 128) : runesBytes (l.map (fun b => (b.toNat : Int))) = ⟨l.toArray⟩ := by
  have key : ∀ (l : List UInt8) (s : ByteArray), (∀ b ∈ l, b.toNat < 128) → (l.map (fun b => (b.toNat : Int))).foldl (fun r n => r ++ Utf8.encode n) s = ⟨s.data ++ l.toArray⟩ := by
    intro l
    induction l with
    | nil => intro s _; simp
    | cons b l ih =>
      intro s hb
      simp only [List.map_cons, List.foldl_cons]
      rw [ih _ (fun c hc => hb c (List.mem_cons_of_mem _ hc)), encode_ascii b (hb b List.mem_cons_self)]
      simp [ByteArray.data_append]
  have := key l ByteArray.empty h
  simpa [runesBytes] using this
theorem dig_lt (d : Nat) (h : d < 16) : (dig d).toNat < 128 := by
  have := dig_digI d h
  unfold digI at this
  split at this <;> omega
theorem hexN_lt : ∀ (n v : Nat), ∀ b ∈ hexN v n, b.toNat < 128
  | 0, _, b, hb => by simp [hexN] at hb
  | n + 1, v, b, hb => by
    simp only [hexN, List.mem_append, List.mem_singleton] at hb
    rcases hb with hb | rfl
    · exact hexN_lt n _ b hb
    · exact dig_lt _ (Nat.mod_lt _ (by omega))
theorem unhex_step (V d : Nat) (hV : V < 1152921504606846976) (hd : d < 16) :
    bits .or .u64 ((V : Int) * 16) (d : Int) = ((16 * V + d : Nat) : Int) := by
  have e : (V : Int) * 16 = ((V * 16 : Nat) : Int) := by omega
  have h := Nat.two_pow_add_eq_or_of_lt (i := 4) (b := d) (by omega) V
  rw [e, u64_or_nat _ _ (by omega) (by omega)]
  have e2 : V * 16 = 2 ^ 4 * V := by omega
  rw [e2, ← h]
theorem nibble (V k : Nat) (hV : V < 18446744073709551616) : bits .and .u64 ((V : Int) / 2 ^ (4 * k)) 15 = ((V / 16 ^ k % 16 : Nat) : Int) := by
  have h1 : V / 2 ^ (4 * k) ≤ V := Nat.div_le_self _ _
  have h2 := u64_and_nat (V / 2 ^ (4 * k)) 15 (by omega) (by omega)
  rw [cast_div]
  refine h2.trans ?_
  rw [nat_mask4, pow16]
theorem pow16_64 (m : Nat) (h : m ≤ 16) : 16 ^ m ≤ 18446744073709551616 := by
  have := Nat.pow_le_pow_right (n := 16) (by omega) h
  simpa using this
theorem pow256_64 (m : Nat) (h : m ≤ 8) : 256 ^ m ≤ 18446744073709551616 := by
  have := Nat.pow_le_pow_right (n := 256) (by omega) h
  simpa using this
theorem putN_snoc : ∀ (m v : Nat), putN v (m + 1) = putN v m ++ [UInt8.ofNat (v / 256 ^ m % 256)]
  | 0, v => by simp [putN]
  | m + 1, v => by
    have h := putN_snoc m (v / 256)
    rw [putN, h, putN, List.cons_append, Nat.div_div_eq_div_mul, Nat.pow_succ, Nat.mul_comm 256]
theorem hexN_cons : ∀ (n v : Nat), hexN v (n + 1) = dig (v / 16 ^ n % 16) :: hexN v n
  | 0, v => by simp [hexN]
  | n + 1, v => by
    have h := hexN_cons n (v / 16)
    rw [hexN, h, hexN, List.cons_append, Nat.div_div_eq_div_mul, Nat.pow_succ, Nat.mul_comm 16]
end Go.Proofs.Ytbjemekkpmbhhaa.Wm
