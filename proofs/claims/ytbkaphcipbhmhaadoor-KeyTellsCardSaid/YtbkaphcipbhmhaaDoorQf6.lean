/- The contracts of the document's own high, text, one, May, Put (fascicleref06). -/
import Derived.Test.YtbkaphcipbhmhaaDoorKp6
import Derived.Test.YtbkaphcipbhmhaaDoorKa6
import Derived.Test.YtbkaphcipbhmhaaDoorVf
import Derived.Laws.Concat
import Derived.Deep.OwnRows
namespace Go.Proofs.YtbkaphcipbhmhaaDoor.Qf6
open Go Go.RowKit Go.Proofs.YtbkaphcipbhmhaaDoor.Wm Go.Proofs.YtbkaphcipbhmhaaDoor.Cm Go.Proofs.YtbkaphcipbhmhaaDoor.Vm Go.Proofs.YtbkaphcipbhmhaaDoor.Vr Go.Proofs.YtbkaphcipbhmhaaDoor.Vs Go.Proofs.YtbkaphcipbhmhaaDoor.Vc Go.Proofs.YtbkaphcipbhmhaaDoor.Vf Go.Proofs.YtbkaphcipbhmhaaDoor.Kl6 Go.Proofs.YtbkaphcipbhmhaaDoor.Km6 Go.Proofs.YtbkaphcipbhmhaaDoor.Bu6 Go.Proofs.YtbkaphcipbhmhaaDoor.Kn6 Go.Proofs.YtbkaphcipbhmhaaDoor.Kv6 Go.Proofs.YtbkaphcipbhmhaaDoor.Kp6
/-- 'string(b)' of a whole own row of bytes. -/
theorem run_string_row {P : Program} (w : World) (src dst e : TypeId) (b n cap : Nat) (t : TypeId) (l : List UInt8) (f : Nat → Value)
    (hs : P.underlying src = some (.slice e)) (he : P.underlying e = some (.int .u8)) (hd : P.underlying dst = some .string)
    (hn : l.length = n) (h : w.rowIs b t n f) (hf : ∀ j (hj : j < l.length), f j = .int .u8 (l[j].toNat : Int)) :
    (convert src dst (.slice (some ⟨b, 0, none⟩) n cap)).run P w = .ok (.string ⟨l.toArray⟩) w := by
  subst hn
  refine run_convert_bytes_back w src dst e ⟨b, 0, none⟩ cap l hs he hd (fun j hj => ?_)
  have := h.cell hj
  rw [hf j hj] at this
  rw [addr_add]; exact this
theorem high_byte (V k : Nat) (hk : k < 8) : ((V / 256 ^ k : Nat) : Int) % 256 = (((hi V)[7 - k]'(by rw [hi_length]; omega)).toNat : Int) := by
  rw [hi_byte V (7 - k) (by omega)]
  have : 7 - (7 - k) = k := by omega
  rw [this]; omega
def hf (V k j : Nat) : Value := if 7 < j + k then .int .u8 ((V / 256 ^ (7 - j) % 256 : Nat) : Int) else .int .u8 0
theorem wrap_q (q : Nat) (h : q < 18446744073709551616) : IntKind.u64.wrap ((q : Int) / 256) = ((q / 256 : Nat) : Int) := by
  have e : (q : Int) / 256 = ((q / 256 : Nat) : Int) := by omega
  rw [e]; exact wrap_u64_small _ (by omega)
set_option maxRecDepth 20000 in
theorem high_any (V : Nat) (w : World) (hV : V < 18446744073709551616) :
    Calls Tryd.prog 34 #[.int .u64 (V : Int)] w fun e w' => e = .returned (.string (bs (hi V))) ∧ Below w.heap.size w w' := by
  have hmk : ∀ W : World, (Instr.makeSlice 40 (.int .i64 8) (.int .i64 8)).run Tryd.prog W = .ok (.slice (some ⟨W.heap.size, 0, none⟩) 8 8) (W.alloc (.cells (madeCells #[.int .u8 0] 8) 5)) := fun W => run_make_row' (P := Tryd.prog) 40 5 (.int .u8 0) 1 undL infoE rfl .i64 .i64 8 (by omega) (by omega) W
  have HV := Lib.hid hV
  clear hV
  obtain ⟨R, hR⟩ : ∃ R, R = bs (hi V) := ⟨_, rfl⟩
  rw [← hR]
  have HR := Lib.hid hR
  clear hR
  go_enter Tryd.func34, Tryd.ntmps34
  go_wp2
  clear hmk
  go_loopw [0, 4] (fun v i wr => ∃ k q : Nat, k ≤ 8 ∧ i = .int .i64 (7 - (k : Int)) ∧ v = .int .u64 (q : Int) ∧ Hid (q = V / 256 ^ k) ∧ wr.rowIs w.heap.size 5 8 (hf V k) ∧ Below w.heap.size w wr) (fun _ i _ => (intOf i + 1).toNat)
  case atStart => exact ⟨0, V, by omega, rfl, rfl, Lib.hid (by simp), (World.rowIs_made w (.int .u8 0) 8 5).congr (fun i hi => by unfold hf; rw [if_neg (by omega)]), (Below.refl _ _).alloc (Nat.le_refl _) _⟩
  case round =>
    obtain ⟨k, q, hk, rfl, rfl, hq, hrow, hb⟩ := hrel
    by_cases hlt : k < 8
    · have hc := hrow.cell (show 7 - k < 8 by omega)
      have hfz := hrow.frozen (7 - k)
      go_wp2
      refine ⟨⟨k + 1, q / 256, by omega, congrArg (Value.int .i64) (by omega), congrArg (Value.int .u64) (wrap_q q (by rw [hq.out]; exact Nat.lt_of_le_of_lt (Nat.div_le_self _ _) HV.out)), Lib.hid (by rw [hq.out, Nat.div_div_eq_div_mul, Nat.pow_succ]), (hrow.set (7 - k) _).congr (fun i hi => ?_), hb.setCell (Nat.le_refl _) _⟩, by simp [intOf]; omega⟩
      unfold hf
      by_cases hik : i = 7 - k
      · subst hik
        rw [if_pos rfl, if_pos (by omega), hq.out, show 7 - (7 - k) = k by omega]
        congr 1
      · rw [if_neg hik]
        by_cases hj : 7 < i + k
        · rw [if_pos hj, if_pos (by omega)]
        · rw [if_neg hj, if_neg (by omega)]
    · have hk8 : k = 8 := by omega
      subst hk8
      have hcv := run_string_row (P := Tryd.prog) wr 40 9 5 w.heap.size 8 8 5 (hi V) _ undL undE undS (hi_length V) hrow (fun j hj => by
        rw [hi_length] at hj
        unfold hf
        rw [if_pos (by omega), hi_byte V j hj])
      rw [show (⟨(hi V).toArray⟩ : ByteArray) = R from HR.out.symm] at hcv
      go_wp2
      go_ret
      exact ⟨rfl, hb⟩
set_option maxRecDepth 20000 in
theorem text_any (S : ByteArray) (w : World) (hs : S.size ≤ 5000) :
    Calls Tryd.prog 36 #[.string S] w fun e w' => e = .returned (.string (bs (esc S.data.toList ++ [0, 1]))) ∧ Below w.heap.size w w' := by
  have hlen : S.data.toList.length = S.size := Array.length_toList
  have HL := Lib.hid (fun k => esc_short [] S.data.toList k (by simp) (by rw [hlen]; exact hs))
  have HN := Lib.hid hlen
  obtain ⟨R, hR⟩ : ∃ R, R = bs (esc S.data.toList ++ [0, 1]) := ⟨_, rfl⟩
  rw [← hR]
  have HR := Lib.hid hR
  clear hlen hR
  go_enter Tryd.func36, Tryd.ntmps36
  go_wp2
  go_loopw [3, 4] (fun row i wr => ∃ k : Nat, k ≤ S.size ∧ i = .int .i64 (k : Int) ∧ Hid (Mid w w.heap.size (.slice none 0 0) row (esc (S.data.toList.take k)) wr)) (fun _ i _ => S.size - (intOf i).toNat)
  case atStart => exact ⟨0, by omega, rfl, Lib.hid (by simpa [esc] using Mid.refl (Buf.nil w))⟩
  case round =>
    obtain ⟨k, hk, rfl, hm⟩ := hrel
    by_cases hlt : k < S.size
    · have hkl : k < S.data.toList.length := by rw [HN.out]; exact hlt
      have he := Kn6.elem S k hlt
      by_cases h0 : ((S[k]'hlt).toNat : Int) = 0
      · have HS := Lib.hid (esc_zero (s := S.data.toList) hkl (by rw [he]; exact h0))
        have HX : Hid (∀ c : UInt8, c = S.data.toList[k] → (c.toNat : Int) = 0) := Lib.hid (fun c hc => by rw [hc, he]; exact h0)
        obtain ⟨c, hc⟩ : ∃ c, c = S.data.toList[k] := ⟨_, rfl⟩
        rw [← hc] at HS
        have HC := Lib.hid (HX.out c hc)
        clear hc he HX hkl
        go_wp2_with (first
          | (at_builtin; refine append_new rfl _ _ rfl _ [255] rfl rfl (by simp) rfl rfl HM.out.1 (by have := HL.out k; simp only [List.length_append, List.length_singleton, List.length_nil] at this ⊢; omega) ?_; intro v2 w2 hm2; have HM2 := Lib.hid (HM.out.trans hm2); clear hm2)
          | (at_builtin; refine append_new rfl _ _ rfl _ [c] rfl rfl (by simp) rfl (by rw [← HC.out]; rfl) hm.out.1 (by have := HL.out k; simp only [List.length_append, List.length_singleton, List.length_nil] at this ⊢; omega) ?_; intro v1 w1 hm1; have HM := Lib.hid (hm.out.trans hm1); clear hm1))
        go_round
        case rel => exact ⟨k + 1, by omega, by go_num, Lib.hid (by rw [HS.out]; exact HM2.out)⟩
        case measure => simp [intOf]; omega
      · have HS := Lib.hid (esc_other (s := S.data.toList) hkl (by rw [he]; exact h0))
        obtain ⟨q, hq⟩ : ∃ q : Int, ((S[k]'hlt).toNat : Int) = q := ⟨_, rfl⟩
        have h1 : ¬ q = 0 := by rw [← hq]; exact h0
        have HX : Hid (∀ c : UInt8, c = S.data.toList[k] → (c.toNat : Int) = q) := Lib.hid (fun c hc => by rw [hc, he]; exact hq)
        obtain ⟨c, hc⟩ : ∃ c, c = S.data.toList[k] := ⟨_, rfl⟩
        rw [← hc] at HS
        have HC := Lib.hid (HX.out c hc)
        clear hc he HX hkl h0
        go_wp2_with (at_builtin; refine append_new rfl _ _ rfl _ [c] rfl rfl (by simp) rfl (by rw [← HC.out]; rfl) hm.out.1 (by have := HL.out k; simp only [List.length_append, List.length_singleton, List.length_nil] at this ⊢; omega) ?_; intro v1 w1 hm1; have HM := Lib.hid (hm.out.trans hm1); clear hm1)
        go_round
        case rel => exact ⟨k + 1, by omega, by go_num, Lib.hid (by rw [HS.out]; exact HM.out)⟩
        case measure => simp [intOf]; omega
    · have hk8 : k = S.size := by omega
      have hm2 := hm.out
      have hz := HL.out k
      rw [hk8, List.take_of_length_le (by rw [HN.out]; exact Nat.le_refl _)] at hm2 hz
      have HM0 := Lib.hid hm2
      have HZ := Lib.hid hz
      clear hm2 hz
      go_wp2_with (at_builtin; refine append_new rfl _ _ rfl _ [0, 1] rfl rfl (by simp) rfl rfl HM0.out.1 (by have := HZ.out; simp only [List.length_append, List.length_cons, List.length_nil] at this ⊢; omega) ?_; intro v1 w1 hm1; have HM := Lib.hid (HM0.out.trans hm1); have hx := (HM0.out.trans hm1).1.str; rw [← HR.out] at hx; clear hm1)
      go_ret
      exact ⟨rfl, HM.out.below rfl⟩
/-- 'string([]byte{c})', the slice just made, in block b. -/
theorem conv_at (w : World) (b : Nat) (c : UInt8) (X : Int) (h : (c.toNat : Int) = X) (hb : b = w.heap.size) :
    (convert 40 9 (.slice (some ⟨b, 0, none⟩) 1 1)).run Tryd.prog (w.alloc (.cells #[.int .u8 X] 5)) = .ok (.string (bs [c])) (w.alloc (.cells #[.int .u8 X] 5)) := by
  subst h; subst hb
  refine run_convert_bytes_back _ _ _ _ ⟨w.heap.size, 0, none⟩ 1 [c] undL undE undS (fun j hj => ?_)
  have : j = 0 := by simp at hj; exact hj
  subst this
  rw [addr_add]
  unfold World.cell?
  rw [heap_alloc_new]; rfl
theorem add_bs (x y : List UInt8) (R : ByteArray) (hR : R = bs (x ++ y)) (hx : x.length ≤ 100000) (hy : y.length ≤ 100000) : ∀ W : World, (Op.stringOp .add (bs x) (bs y)).run Tryd.prog W = .ok (.string R) W := fun W => by
  rw [hR, ← Ka6.bs_app]
  exact run_string_add_sum W _ _ (by rw [bs_size, bs_size]; omega)
set_option maxRecDepth 20000 in
theorem o_null  (w : World) (R K : ByteArray) (hK : K = bs [1]) (hR : R = bs (kput ⟨0, 0, 0, ⟨#[]⟩⟩)) :
    Calls Tryd.prog 23 #[.agg #[.int .u8 0, .int .i64 0, .int .u64 0, .string ⟨#[]⟩]] w fun e w' => e = .returned (.string R) ∧ Below w.heap.size w w' := by
  have hal : Below w.heap.size w (w.alloc (.cells #[.int .u8 0, .int .i64 0, .int .u64 0, .string ⟨#[]⟩] 38)) := (Below.refl _ _).alloc (Nat.le_refl _) _
  have hcv := conv_at (w.alloc (.cells #[.int .u8 0, .int .i64 0, .int .u64 0, .string ⟨#[]⟩] 38)) (w.heap.size + 1) 1 1 rfl (by simp)
  have HA := Lib.hid (hal.alloc (show w.heap.size ≤ (w.alloc (.cells #[.int .u8 0, .int .i64 0, .int .u64 0, .string ⟨#[]⟩] 38)).heap.size by simp) (.cells #[.int .u8 1] 5))
  rw [← hK] at hcv
  rw [put0, ← hK] at hR
  subst hR
  clear hK
  clear hal
  go_enter Tryd.func23, Tryd.ntmps23
  go_wp2
  go_ret
  exact ⟨rfl, HA.out⟩
set_option maxRecDepth 20000 in
theorem o_int (n : Int) (V : Nat) (w : World) (R K : ByteArray) (hK : K = bs [3]) (hR : R = bs (kput ⟨2, n, 0, ⟨#[]⟩⟩)) (hV : IntKind.u64.wrap (IntKind.u64.wrap n + 9223372036854775808) = (V : Int)) (hV2 : V = (n + 9223372036854775808).toNat) (hVl : V < 18446744073709551616) :
    Calls Tryd.prog 23 #[.agg #[.int .u8 2, .int .i64 n, .int .u64 0, .string ⟨#[]⟩]] w fun e w' => e = .returned (.string R) ∧ Below w.heap.size w w' := by
  have hal : Below w.heap.size w (w.alloc (.cells #[.int .u8 2, .int .i64 n, .int .u64 0, .string ⟨#[]⟩] 38)) := (Below.refl _ _).alloc (Nat.le_refl _) _
  have hcv := conv_at (w.alloc (.cells #[.int .u8 2, .int .i64 n, .int .u64 0, .string ⟨#[]⟩] 38)) (w.heap.size + 1) 3 3 rfl (by simp)
  have HA := Lib.hid (hal.alloc (show w.heap.size ≤ (w.alloc (.cells #[.int .u8 2, .int .i64 n, .int .u64 0, .string ⟨#[]⟩] 38)).heap.size by simp) (.cells #[.int .u8 3] 5))
  rw [← hK] at hcv
  rw [put2, ← hV2] at hR
  obtain ⟨U, hU⟩ : ∃ U, U = bs (hi V) := ⟨_, rfl⟩
  have hadd := add_bs [3] (hi V) R hR (by simp) (by rw [hi_length]; omega)
  rw [← hK, ← hU] at hadd
  have HH : Hid (∀ W, Calls Tryd.prog 34 #[.int .u64 (V : Int)] W fun e w' => e = .returned (.string U) ∧ Below W.heap.size W w') := Lib.hid fun W => by rw [hU]; exact high_any V W hVl
  clear hU hR hK hV2 hVl
  clear hal
  go_enter Tryd.func23, Tryd.ntmps23
  go_wp2_with fail
  with_reducible refine (HH.out _).mono ?_
  rintro e w2 ⟨rfl, hb⟩
  have HB := Lib.hid (HA.out.trans (hb.mono HA.out.size))
  clear hb
  go_wp2
  go_ret
  exact ⟨rfl, HB.out⟩
set_option maxRecDepth 20000 in
theorem o_real (r V : Nat) (w : World) (R K : ByteArray) (hK : K = bs [4]) (hR : R = bs (kput ⟨3, 0, r, ⟨#[]⟩⟩)) (hV : V = Rm.key r) (hr : r < 18446744073709551616) :
    Calls Tryd.prog 23 #[.agg #[.int .u8 3, .int .i64 0, .int .u64 (r : Int), .string ⟨#[]⟩]] w fun e w' => e = .returned (.string R) ∧ Below w.heap.size w w' := by
  have hal : Below w.heap.size w (w.alloc (.cells #[.int .u8 3, .int .i64 0, .int .u64 (r : Int), .string ⟨#[]⟩] 38)) := (Below.refl _ _).alloc (Nat.le_refl _) _
  have hcv := conv_at (w.alloc (.cells #[.int .u8 3, .int .i64 0, .int .u64 (r : Int), .string ⟨#[]⟩] 38)) (w.heap.size + 1) 4 4 rfl (by simp)
  have HA := Lib.hid (hal.alloc (show w.heap.size ≤ (w.alloc (.cells #[.int .u8 3, .int .i64 0, .int .u64 (r : Int), .string ⟨#[]⟩] 38)).heap.size by simp) (.cells #[.int .u8 4] 5))
  rw [← hK] at hcv
  rw [put3, ← hV] at hR
  obtain ⟨U, hU⟩ : ∃ U, U = bs (hi V) := ⟨_, rfl⟩
  have hadd := add_bs [4] (hi V) R hR (by simp) (by rw [hi_length]; omega)
  rw [← hK, ← hU] at hadd
  have HH : Hid (∀ W, Calls Tryd.prog 34 #[.int .u64 (V : Int)] W fun e w' => e = .returned (.string U) ∧ Below W.heap.size W w') := Lib.hid fun W => by rw [hU]; exact high_any V W (by rw [hV]; exact Rm.key_lt)
  have HKy : Hid (∀ W, Calls Tryd.prog 35 #[.int .u64 (r : Int)] W fun e w' => e = .returned (.int .u64 (V : Int)) ∧ W = w') := Lib.hid fun W => by rw [hV]; exact Kr.refkey_any r W hr
  clear hU hR hK hV hr
  clear hal
  go_enter Tryd.func23, Tryd.ntmps23
  go_wp2_with fail
  with_reducible refine (HKy.out _).mono ?_
  rintro e w1 ⟨rfl, rfl⟩
  go_wp2_with fail
  with_reducible refine (HH.out _).mono ?_
  rintro e w2 ⟨rfl, hb⟩
  have HB := Lib.hid (HA.out.trans (hb.mono HA.out.size))
  clear hb
  go_wp2
  go_ret
  exact ⟨rfl, HB.out⟩
set_option maxRecDepth 20000 in
theorem o_text4 (t : ByteArray) (w : World) (R K : ByteArray) (hK : K = bs [5]) (hR : R = bs (kput ⟨4, 0, 0, t⟩)) (ht : t.size ≤ 100) :
    Calls Tryd.prog 23 #[.agg #[.int .u8 4, .int .i64 0, .int .u64 0, .string t]] w fun e w' => e = .returned (.string R) ∧ Below w.heap.size w w' := by
  have hal : Below w.heap.size w (w.alloc (.cells #[.int .u8 4, .int .i64 0, .int .u64 0, .string t] 38)) := (Below.refl _ _).alloc (Nat.le_refl _) _
  have hcv := conv_at (w.alloc (.cells #[.int .u8 4, .int .i64 0, .int .u64 0, .string t] 38)) (w.heap.size + 1) 5 5 rfl (by simp)
  have HA := Lib.hid (hal.alloc (show w.heap.size ≤ (w.alloc (.cells #[.int .u8 4, .int .i64 0, .int .u64 0, .string t] 38)).heap.size by simp) (.cells #[.int .u8 5] 5))
  rw [← hK] at hcv
  rw [put4] at hR
  have he : (esc t.data.toList ++ [0, 1]).length ≤ 100000 := by
    have := esc_len t.data.toList
    have e : t.data.toList.length = t.size := Array.length_toList
    rw [List.length_append]; simp; omega
  obtain ⟨U, hU⟩ : ∃ U, U = bs (esc t.data.toList ++ [0, 1]) := ⟨_, rfl⟩
  have hadd := add_bs [5] (esc t.data.toList ++ [0, 1]) R hR (by simp) he
  rw [← hK, ← hU] at hadd
  have HH : Hid (∀ W, Calls Tryd.prog 36 #[.string t] W fun e w' => e = .returned (.string U) ∧ Below W.heap.size W w') := Lib.hid fun W => by rw [hU]; exact text_any t W (by omega)
  clear hU hR hK he
  clear hal
  go_enter Tryd.func23, Tryd.ntmps23
  go_wp2_with fail
  with_reducible refine (HH.out _).mono ?_
  rintro e w2 ⟨rfl, hb⟩
  have HB := Lib.hid (HA.out.trans (hb.mono HA.out.size))
  clear hb
  go_wp2
  go_ret
  exact ⟨rfl, HB.out⟩
set_option maxRecDepth 20000 in
theorem o_text5 (t : ByteArray) (w : World) (R K : ByteArray) (hK : K = bs [6]) (hR : R = bs (kput ⟨5, 0, 0, t⟩)) (ht : t.size ≤ 100) :
    Calls Tryd.prog 23 #[.agg #[.int .u8 5, .int .i64 0, .int .u64 0, .string t]] w fun e w' => e = .returned (.string R) ∧ Below w.heap.size w w' := by
  have hal : Below w.heap.size w (w.alloc (.cells #[.int .u8 5, .int .i64 0, .int .u64 0, .string t] 38)) := (Below.refl _ _).alloc (Nat.le_refl _) _
  have hcv := conv_at (w.alloc (.cells #[.int .u8 5, .int .i64 0, .int .u64 0, .string t] 38)) (w.heap.size + 1) 6 6 rfl (by simp)
  have HA := Lib.hid (hal.alloc (show w.heap.size ≤ (w.alloc (.cells #[.int .u8 5, .int .i64 0, .int .u64 0, .string t] 38)).heap.size by simp) (.cells #[.int .u8 6] 5))
  rw [← hK] at hcv
  rw [put5] at hR
  have he : (esc t.data.toList ++ [0, 1]).length ≤ 100000 := by
    have := esc_len t.data.toList
    have e : t.data.toList.length = t.size := Array.length_toList
    rw [List.length_append]; simp; omega
  obtain ⟨U, hU⟩ : ∃ U, U = bs (esc t.data.toList ++ [0, 1]) := ⟨_, rfl⟩
  have hadd := add_bs [6] (esc t.data.toList ++ [0, 1]) R hR (by simp) he
  rw [← hK, ← hU] at hadd
  have HH : Hid (∀ W, Calls Tryd.prog 36 #[.string t] W fun e w' => e = .returned (.string U) ∧ Below W.heap.size W w') := Lib.hid fun W => by rw [hU]; exact text_any t W (by omega)
  clear hU hR hK he
  clear hal
  go_enter Tryd.func23, Tryd.ntmps23
  go_wp2_with fail
  with_reducible refine (HH.out _).mono ?_
  rintro e w2 ⟨rfl, hb⟩
  have HB := Lib.hid (HA.out.trans (hb.mono HA.out.size))
  clear hb
  go_wp2
  go_ret
  exact ⟨rfl, HB.out⟩
set_option maxRecDepth 20000 in
theorem o_bool0 (w : World) (R K : ByteArray) (hK : K = bs [2]) (hR : R = bs (kput ⟨1, 0, 0, ⟨#[]⟩⟩)) :
    Calls Tryd.prog 23 #[.agg #[.int .u8 1, .int .i64 0, .int .u64 0, .string ⟨#[]⟩]] w fun e w' => e = .returned (.string R) ∧ Below w.heap.size w w' := by
  have hal : Below w.heap.size w (w.alloc (.cells #[.int .u8 1, .int .i64 0, .int .u64 0, .string ⟨#[]⟩] 38)) := (Below.refl _ _).alloc (Nat.le_refl _) _
  have hcv := conv_at (w.alloc (.cells #[.int .u8 1, .int .i64 0, .int .u64 0, .string ⟨#[]⟩] 38)) (w.heap.size + 1) 2 2 rfl (by simp)
  have hcv2 := conv_at ((w.alloc (.cells #[.int .u8 1, .int .i64 0, .int .u64 0, .string ⟨#[]⟩] 38)).alloc (.cells #[.int .u8 2] 5)) (w.heap.size + 1 + 1) 0 0 rfl (by simp)
  have HA := Lib.hid ((hal.alloc (show w.heap.size ≤ (w.alloc (.cells #[.int .u8 1, .int .i64 0, .int .u64 0, .string ⟨#[]⟩] 38)).heap.size by simp) (.cells #[.int .u8 2] 5)).alloc (by simp; omega) (.cells #[.int .u8 0] 5))
  rw [← hK] at hcv
  have hadd := add_bs [2] [0] R (by rw [hR, put1]; rfl) (by simp) (by simp)
  rw [← hK] at hadd
  obtain ⟨U, hU⟩ : ∃ U, U = bs [0] := ⟨_, rfl⟩
  rw [← hU] at hcv2 hadd
  clear hal hK hU hR
  go_enter Tryd.func23, Tryd.ntmps23
  go_wp2
  go_ret
  exact ⟨rfl, HA.out⟩
set_option maxRecDepth 20000 in
theorem o_bool1 (w : World) (R K : ByteArray) (hK : K = bs [2]) (hR : R = bs (kput ⟨1, 1, 0, ⟨#[]⟩⟩)) :
    Calls Tryd.prog 23 #[.agg #[.int .u8 1, .int .i64 1, .int .u64 0, .string ⟨#[]⟩]] w fun e w' => e = .returned (.string R) ∧ Below w.heap.size w w' := by
  have hal : Below w.heap.size w (w.alloc (.cells #[.int .u8 1, .int .i64 1, .int .u64 0, .string ⟨#[]⟩] 38)) := (Below.refl _ _).alloc (Nat.le_refl _) _
  have hcv := conv_at (w.alloc (.cells #[.int .u8 1, .int .i64 1, .int .u64 0, .string ⟨#[]⟩] 38)) (w.heap.size + 1) 2 2 rfl (by simp)
  have hcv2 := conv_at ((w.alloc (.cells #[.int .u8 1, .int .i64 1, .int .u64 0, .string ⟨#[]⟩] 38)).alloc (.cells #[.int .u8 2] 5)) (w.heap.size + 1 + 1) 1 1 rfl (by simp)
  have HA := Lib.hid ((hal.alloc (show w.heap.size ≤ (w.alloc (.cells #[.int .u8 1, .int .i64 1, .int .u64 0, .string ⟨#[]⟩] 38)).heap.size by simp) (.cells #[.int .u8 2] 5)).alloc (by simp; omega) (.cells #[.int .u8 1] 5))
  rw [← hK] at hcv
  have hadd := add_bs [2] [1] R (by rw [hR, put1]; rfl) (by simp) (by simp)
  rw [← hK] at hadd
  obtain ⟨U, hU⟩ : ∃ U, U = bs [1] := ⟨_, rfl⟩
  rw [← hU] at hcv2 hadd
  clear hal hK hU hR
  go_enter Tryd.func23, Tryd.ntmps23
  go_wp2
  go_ret
  exact ⟨rfl, HA.out⟩
/-- The key of a value that may be. -/
theorem one_any {v : V} (hv : Is v) (hk : v.ok) (w : World) :
    Calls Tryd.prog 23 #[vv v] w fun e w' => e = .returned (.string (bs (kput v))) ∧ Below w.heap.size w w' := by
  cases hv with
  | null => exact o_null w _ _ rfl rfl
  | bool n hn =>
    rcases hn with rfl | rfl
    · exact o_bool0 w _ _ rfl rfl
    · exact o_bool1 w _ _ rfl rfl
  | int n => exact o_int n _ w _ _ rfl rfl (int_key hk.n.1 hk.n.2) rfl (by have h1 := hk.n.1; have h2 := hk.n.2; dsimp only at h1 h2; omega)
  | real r hc => exact o_real r _ w _ _ rfl rfl rfl hk.r
  | bytes s hs => exact o_text4 s w _ _ rfl rfl hs
  | string s hs hu => exact o_text5 s w _ _ rfl rfl hs
theorem may_eq (l : List V) : mayK l = (decide ((l.length : Int) = 0) || mayRow l) := by
  cases l with
  | nil => rfl
  | cons a l =>
    unfold mayK mayRow
    have h1 : decide (((a :: l).length : Int) = 0) = false := decide_eq_false (by simp only [List.length_cons]; omega)
    have h2 : decide (1 ≤ (a :: l).length) = true := decide_eq_true (by simp)
    rw [h1, h2, Bool.false_or, Bool.true_and]
theorem may_any (w : World) (A : Option Addr) (c : Nat) (l : List V) (hl : Reads w A l) (hlen : l.length ≤ 140737488351232) (hk : AllOk l) (hT : Tabs w) :
    Calls Tryd.prog 12 #[.slice A l.length c] w fun e w' => e = .returned (.bool (mayK l)) ∧ Below w.heap.size w w' := by
  have HR : Hid (∀ W, W = w → Calls Tryd.prog 22 #[.slice A l.length c] W fun e w' => e = .returned (.bool (mayRow l)) ∧ Below W.heap.size W w') := Lib.hid fun W hW => by subst hW; exact refrow_any W A c l hl hlen (fun v hv => (hk v hv).s) (fun v hv => (hk v hv).r) hT
  rw [may_eq]
  clear hl hk hT
  by_cases h0 : (l.length : Int) = 0
  · rw [decide_eq_true h0, Bool.true_or]
    go_enter Tryd.func12, Tryd.ntmps12
    go_wp2
    go_ret
    exact ⟨rfl, Below.refl _ _⟩
  · rw [decide_eq_false h0, Bool.false_or]
    have h1 : ((l.length : Int) == 0) = false := by simpa using h0
    go_enter Tryd.func12, Tryd.ntmps12
    go_wp2_with fail
    with_reducible refine (HR.out _ rfl).mono ?_
    rintro e w1 ⟨rfl, hb⟩
    have HB := Lib.hid hb
    clear hb
    go_wp2
    go_ret
    exact ⟨rfl, HB.out⟩
set_option maxRecDepth 20000 in
theorem put_any (w : World) (A : Option Addr) (c : Nat) (l : List V) (hl : Reads w A l) (hm : mayK l = true) (hk : AllOk l) :
    Calls Tryd.prog 13 #[.slice A l.length c] w fun e w' => e = .returned (.string (bs (kputAll l))) ∧ Below w.heap.size w w' := by
  have HR := Lib.hid hl
  have HK := Lib.hid hk
  have HM := Lib.hid (mayK_is hm)
  obtain ⟨R, hR⟩ : ∃ R, R = bs (kputAll l) := ⟨_, rfl⟩
  rw [← hR]
  have HRR := Lib.hid hR
  obtain ⟨N, hN⟩ : ∃ N, N = l.length := ⟨_, rfl⟩
  have h8 : N ≤ 8 := by rw [hN]; exact (mayK_is hm).1
  rw [← hN]
  have HN := Lib.hid hN
  clear hl hk hm hR hN
  go_enter Tryd.func13, Tryd.ntmps13
  go_wp2
  go_loopw [3, 4] (fun s i wr => ∃ (k : Nat) (S : ByteArray), k ≤ N ∧ i = .int .i64 (k : Int) ∧ s = .string S ∧ Hid (S = bs (kputAll (l.take k))) ∧ Hid (Below w.heap.size w wr)) (fun _ i _ => N - (intOf i).toNat)
  case atStart => exact ⟨0, ⟨#[]⟩, by omega, rfl, rfl, Lib.hid rfl, Lib.hid (Below.refl _ _)⟩
  case round =>
    obtain ⟨k, S, hk, rfl, rfl, hS, hb⟩ := hrel
    by_cases hlt : k < N
    · have hkl : k < l.length := by rw [← HN.out]; exact hlt
      obtain ⟨b, o, rfl, p0, p1, p2, p3⟩ := (HR.out.keep hb.out).at_ hkl
      have his := HM.out.2 _ (List.getElem_mem hkl)
      have hok := HK.out _ (List.getElem_mem hkl)
      obtain ⟨U, hU⟩ : ∃ U, U = bs (kput l[k]) := ⟨_, rfl⟩
      obtain ⟨S2, hS2⟩ : ∃ S2, S2 = bs (kputAll (l.take (k + 1))) := ⟨_, rfl⟩
      have hadd : ∀ W : World, (Op.stringOp .add S U).run Tryd.prog W = .ok (.string S2) W := by
        rw [hS.out, hU]
        have h1 := kputAll_len (l := l.take k) (fun v hv => HM.out.2 v (List.mem_of_mem_take hv))
        have h2 := kput_len his
        have h3 : (l.take k).length ≤ 8 := by rw [List.length_take]; have := HM.out.1; omega
        exact add_bs _ _ S2 (by rw [hS2, kputAll_snoc l k hkl]) (by omega) (by omega)
      have HO : Hid (∀ W, Calls Tryd.prog 23 #[vv l[k]] W fun e w' => e = .returned (.string U) ∧ Below W.heap.size W w') := Lib.hid fun W => by rw [hU]; exact one_any his hok W
      have HS2 := Lib.hid hS2
      obtain ⟨x, hx⟩ : ∃ x, x = l[k] := ⟨_, rfl⟩
      rw [← hx] at p0 p1 p2 p3 HO
      clear hx hU hS2 his hok hkl
      obtain ⟨k0, n0, r0, s0⟩ := x
      unfold vv at HO
      dsimp only at p0 p1 p2 p3 HO
      go_wp2_with fail
      with_reducible refine (HO.out _).mono ?_
      rintro e w2 ⟨rfl, hb2⟩
      have HB2 := Lib.hid (hb.out.trans (hb2.mono hb.out.size))
      clear hb2
      go_wp2
      exact ⟨⟨k + 1, S2, by omega, by go_num, rfl, HS2, HB2⟩, by simp [intOf]; omega⟩
    · have hkN : k = N := by omega
      have hSR : S = R := by rw [hS.out, HRR.out, hkN, HN.out, List.take_of_length_le (Nat.le_refl _)]
      subst hSR
      go_wp2
      go_ret
      exact ⟨rfl, hb.out⟩
end Go.Proofs.YtbkaphcipbhmhaaDoor.Qf6
