/- The document's reading of a man, the plain side: it is the program's. -/
import Derived.Test.YtaoneiicoaiehaaGreatPg11
namespace Go.Proofs.YtaoneiicoaiehaaGreat.Rx11
open Go Go.RowKit Go.Lib Go.Proofs.YtaoneiicoaiehaaGreat Go.Proofs.YtaoneiicoaiehaaGreat.Wm Go.Proofs.YtaoneiicoaiehaaGreat.Fl7 Go.Proofs.YtaoneiicoaiehaaGreat.Nu11 Go.Proofs.YtaoneiicoaiehaaGreat.Ma11 Go.Proofs.YtaoneiicoaiehaaGreat.Tx11 Go.Proofs.YtaoneiicoaiehaaGreat.Mn11 Go.Proofs.YtaoneiicoaiehaaGreat.Pg11
theorem rest_drop (t : List UInt8) : ∀ j, 8 * j ≤ t.length → rest t j = t.drop (8 * j)
  | 0, _ => rfl
  | j + 1, h => by
    rw [rest, rest_drop t j (by omega), ro, if_neg (by rw [List.length_drop]; omega), List.drop_drop]
    congr 1
theorem rv_drop (t : List UInt8) (j : Nat) (h : 8 * j + 8 ≤ t.length) : rv (rest t j) = getL ((t.take (8 * j + 8)).drop (8 * j)) := by
  rw [rest_drop t j (by omega), rv, if_neg (by rw [List.length_drop]; omega), List.drop_take]
  congr 2
  omega
theorem rest_three (t : List UInt8) : ∀ j, rest t (3 + j) = rest (ro (ro (ro t))) j
  | 0 => rfl
  | j + 1 => by
    show ro (rest t (3 + j)) = ro (rest (ro (ro (ro t))) j)
    rw [rest_three t j]
theorem rs_three (t : List UInt8) : ∀ j, rs t (3 + j) = [rv t, rv (ro t), rv (ro (ro t))] ++ rs (ro (ro (ro t))) j
  | 0 => rfl
  | j + 1 => by
    show rs t (3 + j) ++ [rv (rest t (3 + j))] = _ ++ (rs (ro (ro (ro t))) j ++ [rv (rest (ro (ro (ro t))) j)])
    rw [rs_three t j, rest_three, List.append_assoc]
theorem put_rv (t : List UInt8) (h : 8 ≤ t.length) : putN (rv t) 8 ++ ro t = t := by
  rw [rv, if_neg (by omega), ro, if_neg (by omega)]
  have h8 : (t.take 8).length = 8 := by rw [List.length_take]; omega
  have e := putN_getL (t.take 8)
  rw [h8] at e
  rw [e, List.take_append_drop]
theorem ns_rs (t : List UInt8) : ∀ j, 8 * j ≤ t.length → ns (rs t j) ++ rest t j = t
  | 0, _ => rfl
  | j + 1, h => by
    have ih := ns_rs t j (by omega)
    rw [rs, ns_append, rest]
    show (ns (rs t j) ++ (putN (rv (rest t j)) 8 ++ [])) ++ ro (rest t j) = t
    rw [List.append_nil, List.append_assoc, put_rv _ (by rw [rest_drop t j (by omega), List.length_drop]; omega)]
    exact ih
/-- The man of q numbers. -/
def mq (t : List UInt8) (q : Nat) : Man := ⟨rv t, rs (ro (ro (ro t))) (q - 3), rv (ro t)⟩
theorem full_iff (t : List UInt8) (q : Nat) (hq : t.length = 8 * q) (h3 : 3 ≤ q) : (full t ∧ tx (mo t) = t) ↔ rv (ro (ro t)) = q - 3 := by
  obtain ⟨p, rfl⟩ : ∃ p, q = 3 + p := ⟨q - 3, by omega⟩
  have h2 : rest t 2 = ro (ro t) := rfl
  have h3' : rest t 3 = ro (ro (ro t)) := rfl
  constructor
  · rintro ⟨_, h⟩
    have h1 : (tx (mo t)).length = t.length := by rw [h]
    rw [tx_len, hq] at h1
    have h4 : (mo t).runs.length = rv (ro (ro t)) := rs_len _ _
    omega
  · intro h
    have hp : 3 + p - 3 = p := by omega
    rw [hp] at h
    refine ⟨⟨?_, fun j hj => ?_⟩, ?_⟩
    · rw [← h2, rest_drop t 2 (by omega)]
      exact decide_eq_true (by rw [List.length_drop]; omega)
    · rw [← rest_three, rest_drop t (3 + j) (by omega)]
      exact decide_eq_true (by rw [List.length_drop]; omega)
    · have e := ns_rs t (3 + p) (by omega)
      rw [rest_drop t (3 + p) (by omega), List.drop_of_length_le (by omega), List.append_nil, rs_three] at e
      have hm : row (mo t) = [rv t, rv (ro t), rv (ro (ro t))] ++ rs (ro (ro (ro t))) p := by
        unfold row mo
        dsimp only
        rw [rs_len, h]; rfl
      unfold tx
      rw [hm]; exact e
theorem mq_mo (t : List UInt8) (q : Nat) (h : rv (ro (ro t)) = q - 3) : mo t = mq t q := by
  unfold mo mq; rw [h]
theorem got_none (s : List UInt8) (h : (scan s).2.2 ≠ 0) : got s = (none, (scan s).2.2) := by unfold got; rw [if_pos h]
theorem got_many (s : List UInt8) (h : (scan s).2.2 = 0) (hl : (scan s).1.length ≠ 1) : got s = (none, 7) := by
  unfold got
  rw [if_neg (by omega)]
  generalize (scan s).1 = L at hl
  match L with
  | [] => rfl
  | [t] => simp at hl
  | _ :: _ :: _ => rfl
theorem got_short (s t : List UInt8) (h : (scan s).2.2 = 0) (hl : (scan s).1 = [t]) (hs : t.length < 24 ∨ t.length % 8 ≠ 0) : got s = (none, 7) := by
  unfold got
  rw [if_neg (by omega), hl]
  show (if _ then _ else _) = _
  rw [if_neg]
  rintro ⟨⟨_, h1⟩, _⟩
  have h2 : (tx (mo t)).length = t.length := by rw [h1]
  rw [tx_len] at h2
  omega
theorem got_other (s t : List UInt8) (q : Nat) (h : (scan s).2.2 = 0) (hl : (scan s).1 = [t]) (hq : t.length = 8 * q) (h3 : 3 ≤ q) (hn : rv (ro (ro t)) ≠ q - 3) : got s = (none, 7) := by
  unfold got
  rw [if_neg (by omega), hl]
  show (if _ then _ else _) = _
  rw [if_neg]
  rintro ⟨h1, _⟩
  exact hn ((full_iff t q hq h3).1 h1)
theorem got_man (s t : List UInt8) (q : Nat) (h : (scan s).2.2 = 0) (hl : (scan s).1 = [t]) (hq : t.length = 8 * q) (h3 : 3 ≤ q) (hn : rv (ro (ro t)) = q - 3) : got s = if may (mq t q) then (some (mq t q), 0) else (none, 7) := by
  unfold got
  rw [if_neg (by omega), hl]
  show (if _ then _ else _) = _
  rw [mq_mo t q hn]
  have hf := (full_iff t q hq h3).2 hn
  rw [mq_mo t q hn] at hf
  cases hm : may (mq t q) with
  | true => rw [if_pos ⟨hf, rfl⟩]; rfl
  | false => rw [if_neg (fun x => absurd x.2 (by simp))]; rfl
theorem mq_fits (t : List UInt8) (q : Nat) : (mq t q).wal < 18446744073709551616 ∧ (mq t q).next < 18446744073709551616 ∧ ∀ n ∈ (mq t q).runs, n < 18446744073709551616 := ⟨rv_lt _, rv_lt _, rs_fits _ _⟩
/-- The numbers, one by one. -/
theorem nums_at (t : List UInt8) (q : Nat) (h3 : 3 ≤ q) (N : List Nat) (hN : N = rs t q) : ∃ (hl : N.length = q), N[0]'(by omega) = rv t ∧ N[1]'(by omega) = rv (ro t) ∧ N[2]'(by omega) = rv (ro (ro t)) ∧ N.drop 3 = (mq t q).runs := by
  obtain ⟨p, rfl⟩ : ∃ p, q = 3 + p := ⟨q - 3, by omega⟩
  have e := rs_three t p
  rw [← hN] at e
  have hp : 3 + p - 3 = p := by omega
  subst e
  refine ⟨by rw [List.length_append, rs_len]; rfl, rfl, rfl, rfl, ?_⟩
  show rs (ro (ro (ro t))) p = rs (ro (ro (ro t))) (3 + p - 3)
  rw [hp]
end Go.Proofs.YtaoneiicoaiehaaGreat.Rx11
