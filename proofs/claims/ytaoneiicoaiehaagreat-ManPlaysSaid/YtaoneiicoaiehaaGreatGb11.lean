/- What was put is got: the plain side. -/
import Derived.Test.YtaoneiicoaiehaaGreatPg11
namespace Go.Proofs.YtaoneiicoaiehaaGreat.Gb11
open Go Go.RowKit Go.Lib Go.Proofs.YtaoneiicoaiehaaGreat.Wm Go.Proofs.YtaoneiicoaiehaaGreat.Fl7 Go.Proofs.YtaoneiicoaiehaaGreat.Ma11 Go.Proofs.YtaoneiicoaiehaaGreat.Tx11 Go.Proofs.YtaoneiicoaiehaaGreat.Mn11 Go.Proofs.YtaoneiicoaiehaaGreat.Pg11
/-- A man whose numbers fit. -/
structure Fits (m : Man) : Prop where
  wal : m.wal < 18446744073709551616
  next : m.next < 18446744073709551616
  runs : ∀ n ∈ m.runs, n < 18446744073709551616
theorem rk_put (n : Nat) (t : List UInt8) : rk (putN n 8 ++ t) = true := by
  unfold rk
  exact decide_eq_true (by rw [List.length_append, putN_length]; omega)
theorem rv_put (n : Nat) (t : List UInt8) (h : n < 18446744073709551616) : rv (putN n 8 ++ t) = n := by
  have hl : ¬ (putN n 8 ++ t).length < 8 := by rw [List.length_append, putN_length]; omega
  unfold rv
  rw [if_neg hl, List.take_append_of_le_length (by rw [putN_length]; exact Nat.le_refl _), List.take_of_length_le (by rw [putN_length]; exact Nat.le_refl _), getL_putN]
  exact Nat.mod_eq_of_lt h
theorem ro_put (n : Nat) (t : List UInt8) : ro (putN n 8 ++ t) = t := by
  have hl : ¬ (putN n 8 ++ t).length < 8 := by rw [List.length_append, putN_length]; omega
  unfold ro
  rw [if_neg hl]
  have e : (putN n 8).length = 8 := putN_length _ _
  rw [List.drop_append_of_le_length (by rw [e]; exact Nat.le_refl _), List.drop_of_length_le (by rw [e]; exact Nat.le_refl _)]
  rfl
theorem rest_ns (l : List Nat) : ∀ j, j ≤ l.length → rest (ns l) j = ns (l.drop j)
  | 0, _ => rfl
  | j + 1, h => by
    rw [rest, rest_ns l j (by omega), List.drop_eq_getElem_cons (by omega), ns, ro_put]
theorem rs_ns (l : List Nat) (hf : ∀ n ∈ l, n < 18446744073709551616) : ∀ j, j ≤ l.length → rs (ns l) j = l.take j
  | 0, _ => rfl
  | j + 1, h => by
    have hj : j < l.length := by omega
    rw [rs, rs_ns l hf j (by omega), rest_ns l j (by omega), List.drop_eq_getElem_cons hj, ns, rv_put _ _ (hf _ (List.getElem_mem hj)), List.take_succ_eq_append_getElem hj]
theorem mo_tx {m : Man} (h : Fits m) (hl : m.runs.length < 18446744073709551616) : full (tx m) ∧ mo (tx m) = m := by
  have e1 : tx m = putN m.wal 8 ++ (putN m.next 8 ++ (putN m.runs.length 8 ++ ns m.runs)) := rfl
  have r1 : ro (tx m) = putN m.next 8 ++ (putN m.runs.length 8 ++ ns m.runs) := by rw [e1, ro_put]
  have r2 : ro (ro (tx m)) = putN m.runs.length 8 ++ ns m.runs := by rw [r1, ro_put]
  have r3 : ro (ro (ro (tx m))) = ns m.runs := by rw [r2, ro_put]
  have v1 : rv (tx m) = m.wal := by rw [e1, rv_put _ _ h.wal]
  have v2 : rv (ro (tx m)) = m.next := by rw [r1, rv_put _ _ h.next]
  have v3 : rv (ro (ro (tx m))) = m.runs.length := by rw [r2, rv_put _ _ hl]
  refine ⟨⟨by rw [r2]; exact rk_put _ _, fun j hj => ?_⟩, ?_⟩
  · rw [v3] at hj
    rw [r3, rest_ns _ _ (by omega), List.drop_eq_getElem_cons hj, ns]
    exact rk_put _ _
  · unfold mo
    rw [v1, v2, r3, v3, rs_ns _ h.runs _ (Nat.le_refl _), List.take_length]
/-- What was put is got. -/
theorem got_by {m : Man} (h : Fits m) (hm : may m = true) : got (by_ m) = (some m, 0) := by
  have hl := (may_iff.1 hm).1
  have hs : scan (by_ m) = ([tx m], size [tx m], 0) := by
    have e : by_ m = frs [tx m] := (Fp7.frs_one _).symm
    rw [e]
    exact scan_all [tx m] (fun s hs => by
      rw [List.mem_singleton] at hs
      rw [hs, tx_len]; omega)
  obtain ⟨h1, h2⟩ := mo_tx h (by omega)
  unfold got
  rw [hs]
  simp only [ne_eq, not_true_eq_false, if_false]
  rw [h2, if_pos ⟨⟨h1, rfl⟩, hm⟩]
theorem by_inj {a b : Man} (ha : Fits a) (hb : Fits b) (hma : may a = true) (hmb : may b = true) (h : by_ a = by_ b) : a = b := by
  have h1 := got_by ha hma
  rw [h, got_by hb hmb] at h1
  injection h1 with h1 _
  injection h1 with h1
  exact h1.symm
end Go.Proofs.YtaoneiicoaiehaaGreat.Gb11
