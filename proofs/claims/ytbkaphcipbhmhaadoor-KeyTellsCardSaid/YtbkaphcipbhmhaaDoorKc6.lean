/- What a key begins with: cutNumber, cutText. -/
import Derived.Test.YtbkaphcipbhmhaaDoorBu6
import Derived.Test.YtbkaphcipbhmhaaDoorKn6
import Derived.Deep.RegionHeld3
import Derived.Handy
import Derived.Deep.QuietTactic
namespace Go.Proofs.YtbkaphcipbhmhaaDoor.Kc6
open Go Go.RowKit Go.Proofs.YtbkaphcipbhmhaaDoor.Wm Go.Proofs.YtbkaphcipbhmhaaDoor.Cm Go.Proofs.YtbkaphcipbhmhaaDoor.Vm Go.Proofs.YtbkaphcipbhmhaaDoor.Kl6 Go.Proofs.YtbkaphcipbhmhaaDoor.Bu6 Go.Proofs.YtbkaphcipbhmhaaDoor.Kn6
def numS (s : List UInt8) : Value := match cutN s with
  | none => .tuple #[.int .u64 0, .string ⟨#[]⟩, .bool false]
  | some (N, r) => .tuple #[.int .u64 (N : Int), .string (bs r), .bool true]
theorem getL_rev_snoc (l : List UInt8) (k : Nat) (h : k < l.length) : getL (l.take (k + 1)).reverse = getL (l.take k).reverse * 256 + (l[k]).toNat := by
  rw [List.take_succ_eq_append_getElem h, List.reverse_append]
  simp [getL]
  omega
theorem lt_rev (l : List UInt8) (k : Nat) : getL (l.take k).reverse < 256 ^ k := by
  have h := getL_lt (l.take k).reverse
  refine Nat.lt_of_lt_of_le h (Nat.pow_le_pow_right (by omega) ?_)
  rw [List.length_reverse, List.length_take]; omega
theorem pow_le7 (k : Nat) (h : k < 8) : 256 ^ k ≤ 72057594037927936 := Nat.le_trans (Nat.pow_le_pow_right (by omega) (show k ≤ 7 by omega)) (by decide)
theorem step_or (N b : Nat) (h : N < 72057594037927936) (hb : b < 256) : bits .or .u64 (IntKind.u64.wrap ((N : Int) * 256)) (IntKind.u64.wrap (b : Int)) = ((N * 256 + b : Nat) : Int) := by
  have e1 : (N : Int) * 256 = ((N * 256 : Nat) : Int) := by omega
  rw [e1, wrap_u64_small _ (by omega), wrap_u64_small _ (by omega), u64_or_nat _ _ (by omega) (by omega)]
  have e := @Nat.two_pow_add_eq_or_of_lt 8 b (by omega) N
  have e2 : 2 ^ 8 * N = N * 256 := by omega
  rw [e2] at e
  rw [e]
theorem numS_short {s : List UInt8} (h : s.length < 8) : numS s = .tuple #[.int .u64 0, .string ⟨#[]⟩, .bool false] := by
  unfold numS cutN; rw [if_pos h]
theorem numS_long {s : List UInt8} (h : ¬ s.length < 8) : numS s = .tuple #[.int .u64 ((getL (s.take 8).reverse : Nat) : Int), .string (bs (s.drop 8)), .bool true] := by
  unfold numS cutN; rw [if_neg h]
theorem ext_drop (S : ByteArray) (n : Nat) : S.extract n S.size = bs (S.data.toList.drop n) := by
  have h := bs_drop S.data.toList n
  rw [bs_of, Array.length_toList] at h
  exact h
set_option maxRecDepth 20000 in
theorem number_any (w : World) (S : ByteArray) (hs : S.size ≤ 140737488351232) :
    Calls Tryd.prog 44 #[.string S] w fun e w' => e = .returned (numS S.data.toList) ∧ Below w.heap.size w w' := by
  have hL : S.data.toList.length = S.size := Array.length_toList
  have HL := Lib.hid hL
  by_cases h8 : S.size < 8
  · rw [numS_short (by omega)]
    clear hL
    go_enter Tryd.func44, Tryd.ntmps44
    go_wp2
    go_returns
    exact ⟨rfl, Below.refl _ _⟩
  · rw [numS_long (by omega), ← ext_drop]
    clear hL
    obtain ⟨M, hM⟩ : ∃ M, M = getL (S.data.toList.take 8).reverse := ⟨_, rfl⟩
    rw [← hM]
    have HM := Lib.hid hM
    clear hM
    go_enter Tryd.func44, Tryd.ntmps44
    go_wp2
    go_loopw [2, 5, 9] (fun n _ i wr => ∃ k N : Nat, k ≤ 8 ∧ i = .int .i64 (k : Int) ∧ n = .int .u64 (N : Int) ∧ Hid (N = getL (S.data.toList.take k).reverse) ∧ wr = w) (fun _ _ i _ => 8 - (intOf i).toNat)
    case atStart => exact ⟨0, 0, by omega, rfl, rfl, Lib.hid (by simp [getL]), rfl⟩
    case round =>
      obtain ⟨k, N, hk, rfl, rfl, hN, rfl⟩ := hrel
      by_cases hlt : k < 8
      · have hks : k < S.size := by omega
        have HS := Lib.hid (getL_rev_snoc S.data.toList k (by rw [HL.out]; exact hks))
        have HP : Hid (N < 72057594037927936) := Lib.hid (by rw [hN.out]; exact Nat.lt_of_lt_of_le (lt_rev _ k) (pow_le7 k hlt))
        go_wp2
        refine ⟨⟨k + 1, N * 256 + (S[k]'hks).toNat, by omega, by go_num, congrArg (Value.int .u64) (step_or _ _ HP.out (by have := (S[k]'hks).toNat_lt; omega)), Lib.hid (by rw [HS.out, hN.out, Kn6.elem S k hks]), trivial⟩, by simp [intOf]; omega⟩
      · have hk8 : k = 8 := by omega
        have HX : Hid (N = M) := Lib.hid (by rw [hN.out, HM.out, hk8])
        go_wp2
        go_region
        all_goals
          go_wp2
          go_returns
          exact ⟨by first | rfl | (rw [HX.out]; rfl), (Below.refl _ _).drew⟩
def txtS (s : List UInt8) : Value := match cutT [] s with
  | none => .tuple #[.string ⟨#[]⟩, .string ⟨#[]⟩, .bool false]
  | some (u, r) => .tuple #[.string (bs u), .string (bs r), .bool true]
def txtOf : Option (List UInt8 × List UInt8) → Value
  | none => .tuple #[.string ⟨#[]⟩, .string ⟨#[]⟩, .bool false]
  | some (u, r) => .tuple #[.string (bs u), .string (bs r), .bool true]
theorem txtS_of {s : List UInt8} {g : Option (List UInt8 × List UInt8)} (h : g = cutT [] s) : txtS s = txtOf g := by
  subst h; unfold txtS txtOf; rfl
section
variable {s acc : List UInt8} {k : Nat}
theorem t_long (h : 100 < acc.length) : cutT acc (s.drop k) = none := by
  match s.drop k with
  | [] => rfl
  | [_] => rfl
  | _ :: _ :: _ => simp [cutT, h]
theorem t_end (h : s.length ≤ k) : cutT acc (s.drop k) = none := by
  rw [List.drop_eq_nil_iff.2 h]; rfl
theorem t_other (hk : k < s.length) (h : acc.length ≤ 100) (h0 : ¬ ((s[k]).toNat : Int) = 0) : cutT acc (s.drop k) = cutT (acc ++ [s[k]]) (s.drop (k + 1)) := by
  have e : s[k] ≠ 0 := fun e => h0 (by rw [e]; rfl)
  rw [List.drop_eq_getElem_cons hk]
  match s.drop (k + 1) with
  | [] => rfl
  | d :: r => simp only [cutT]; rw [if_neg (by omega), if_neg e]
theorem u8_is {c : UInt8} {n : Nat} (h : ((c.toNat : Nat) : Int) = (n : Int)) : c = UInt8.ofNat n := by
  have : c.toNat = n := by omega
  rw [← this]; simp
theorem t_last (hk : k + 1 = s.length) : cutT acc (s.drop k) = none := by
  rw [List.drop_eq_getElem_cons (by omega), List.drop_eq_nil_iff.2 (by omega)]; rfl
theorem t_two (hk : k + 1 < s.length) (h : acc.length ≤ 100) (h0 : ((s[k]'(by omega)).toNat : Int) = 0) : cutT acc (s.drop k) = if s[k + 1] = 1 then some (acc, s.drop (k + 2)) else if s[k + 1] = 255 then cutT (acc ++ [0]) (s.drop (k + 2)) else none := by
  have e : s[k]'(by omega) = 0 := u8_is (n := 0) h0
  rw [List.drop_eq_getElem_cons (by omega), List.drop_eq_getElem_cons hk, e]
  simp only [cutT]
  rw [if_neg (by omega), if_true]
theorem t_stop (hk : k + 1 < s.length) (h : acc.length ≤ 100) (h0 : ((s[k]'(by omega)).toNat : Int) = 0) (h1 : ((s[k + 1]).toNat : Int) = 1) : cutT acc (s.drop k) = some (acc, s.drop (k + 2)) := by
  have e : s[k + 1] = 1 := u8_is (n := 1) h1
  rw [t_two hk h h0, if_pos e]
theorem t_stay (hk : k + 1 < s.length) (h : acc.length ≤ 100) (h0 : ((s[k]'(by omega)).toNat : Int) = 0) (h1 : ((s[k + 1]).toNat : Int) = 255) : cutT acc (s.drop k) = cutT (acc ++ [0]) (s.drop (k + 2)) := by
  have e : s[k + 1] = 255 := u8_is (n := 255) h1
  rw [t_two hk h h0, e, if_neg (by decide), if_pos rfl]
theorem t_bad (hk : k + 1 < s.length) (h : acc.length ≤ 100) (h0 : ((s[k]'(by omega)).toNat : Int) = 0) (h1 : ¬ ((s[k + 1]).toNat : Int) = 1) (h2 : ¬ ((s[k + 1]).toNat : Int) = 255) : cutT acc (s.drop k) = none := by
  rw [t_two hk h h0, if_neg (fun e => h1 (by rw [e]; rfl)), if_neg (fun e => h2 (by rw [e]; rfl))]
end
theorem ret_ssb {a b c d : ByteArray} {e : Bool} (h : a = b) (h' : c = d) : Ending.returned (.tuple #[.string a, .string c, .bool e]) = Ending.returned (.tuple #[.string b, .string d, .bool e]) := by rw [h, h']
theorem Mid.shape {w w' : World} {B : Nat} {u v : Value} {l : List UInt8} (h : Mid w B u v l w') : ∃ a c, v = .slice a l.length c := h.1.shape
set_option maxRecDepth 40000 in
set_option maxHeartbeats 2000000 in
theorem text_any (w : World) (S : ByteArray) (hs : S.size ≤ 140737488351232) :
    Calls Tryd.prog 39 #[.string S] w fun e w' => e = .returned (txtS S.data.toList) ∧ Below w.heap.size w w' := by
  have HL := Lib.hid (show S.data.toList.length = S.size from Array.length_toList)
  obtain ⟨R, hR⟩ : ∃ R, R = txtS S.data.toList := ⟨_, rfl⟩
  rw [← hR]
  have HR : Hid (∀ g, g = cutT [] S.data.toList → R = txtOf g) := Lib.hid fun g hg => by rw [hR]; exact txtS_of hg
  clear hR
  go_enter Tryd.func39, Tryd.ntmps39
  go_wp2
  go_loopw [5, 6, 7] (fun row i _ wr => ∃ (k : Nat) (acc : List UInt8), k ≤ S.size ∧ i = .int .i64 (k : Int) ∧ acc.length ≤ 101 ∧ Hid (Mid w w.heap.size (.slice none 0 0) row acc wr) ∧ Hid (cutT acc (S.data.toList.drop k) = cutT [] S.data.toList)) (fun _ i _ _ => S.size - (intOf i).toNat)
  case atStart => exact ⟨0, [], by omega, rfl, by simp, Lib.hid (Mid.refl (Buf.nil w)), Lib.hid rfl⟩
  case round =>
    obtain ⟨k, acc, hk, rfl, ha, hm, hc⟩ := hrel
    obtain ⟨ad, cp, rfl⟩ := Mid.shape hm.out
    by_cases hlt : k < S.size
    · by_cases hlong : 100 < acc.length
      · have HX := Lib.hid (HR.out none (by rw [← hc.out]; exact (t_long hlong).symm))
        have HB := Lib.hid (hm.out.below rfl)
        have h100 : ¬ ((acc.length : Int) ≤ 100) := by omega
        go_wp2
        go_returns
        exact ⟨by rw [HX.out]; rfl, HB.out⟩
      · have h100 : (acc.length : Int) ≤ 100 := by omega
        have hkl : k < S.data.toList.length := by rw [HL.out]; exact hlt
        have he := Kn6.elem S k hlt
        by_cases h0 : ((S[k]'hlt).toNat : Int) = 0
        · by_cases hlast : k + 1 = S.size
          · have HX := Lib.hid (HR.out none (by rw [← hc.out]; exact (t_last (by rw [HL.out]; exact hlast)).symm))
            have HB := Lib.hid (hm.out.below rfl)
            have g1 : ¬ ((k : Int) + 1 < (S.size : Int)) := by omega
            have g2 : (k : Int) + 1 = (S.size : Int) := by omega
            clear he
            go_wp2
            go_returns
            exact ⟨by rw [HX.out]; rfl, HB.out⟩
          · have hk1 : k + 1 < S.size := by omega
            have hkl1 : k + 1 < S.data.toList.length := by rw [HL.out]; exact hk1
            have he1 := Kn6.elem S (k + 1) hk1
            have g2 : ((k : Int) + 1 == (S.size : Int)) = false := by simpa using (by omega : ¬ ((k : Int) + 1 = (S.size : Int)))
            by_cases h1 : ((S[k + 1]'hk1).toNat : Int) = 1
            · have HX := Lib.hid (HR.out (some (acc, S.data.toList.drop (k + 2))) (by rw [← hc.out]; exact (t_stop hkl1 (by omega) (by rw [he]; exact h0) (by rw [he1]; exact h1)).symm))
              have HB := Lib.hid (hm.out.below rfl)
              have hx1 := hm.out.1.str
              have hx2 := (hm.out.1.keep (Below.refl _ _).drew).str
              clear he he1
              go_wp2
              go_region
              all_goals
                go_wp2
                go_returns
                exact ⟨by rw [HX.out]; exact ret_ssb rfl (ext_drop S (k + 2)), HB.out.trans ((Below.refl _ _).drew.mono HB.out.size)⟩
            · by_cases h2 : ((S[k + 1]'hk1).toNat : Int) = 255
              · have HC := Lib.hid (hc.out.symm.trans (t_stay hkl1 (by omega) (by rw [he]; exact h0) (by rw [he1]; exact h2)))
                have HA := Lib.hid ha
                clear he he1 ha
                go_wp2_with (at_builtin; refine append_new rfl _ _ rfl _ [0] rfl rfl (by simp) rfl rfl hm.out.1 (by have := HA.out; simp only [List.length_singleton]; omega) ?_; intro v1 w1 hm1; have HM := Lib.hid (hm.out.trans hm1); clear hm1)
                go_round
                case rel => exact ⟨k + 2, acc ++ [0], by omega, congrArg (Value.int .i64) (by omega), by have := HA.out; simp only [List.length_append, List.length_singleton]; omega, HM, Lib.hid HC.out.symm⟩
                case measure => simp [intOf]; omega
              · have HX := Lib.hid (HR.out none (by rw [← hc.out]; exact (t_bad hkl1 (by omega) (by rw [he]; exact h0) (by rw [he1]; exact h1) (by rw [he1]; exact h2)).symm))
                have HB := Lib.hid (hm.out.below rfl)
                obtain ⟨q, hq⟩ : ∃ q : Int, ((S[k + 1]'hk1).toNat : Int) = q := ⟨_, rfl⟩
                rw [hq] at h1 h2
                have h1' : (q == 1) = false := by simpa using h1
                have h2' : (q != 255) = true := by simpa using h2
                clear he he1
                go_wp2
                go_returns
                exact ⟨by rw [HX.out]; rfl, HB.out⟩
        · obtain ⟨q, hq⟩ : ∃ q : Int, ((S[k]'hlt).toNat : Int) = q := ⟨_, rfl⟩
          have HC := Lib.hid (hc.out.symm.trans (t_other hkl (by omega) (by rw [he]; exact h0)))
          rw [hq] at h0
          have HX : Hid (∀ c : UInt8, c = S.data.toList[k] → (c.toNat : Int) = q) := Lib.hid (fun c hc => by rw [hc, he]; exact hq)
          obtain ⟨c, hcc⟩ : ∃ c, c = S.data.toList[k] := ⟨_, rfl⟩
          rw [← hcc] at HC
          have HCC := Lib.hid (HX.out c hcc)
          have HA := Lib.hid ha
          clear hcc he HX hkl ha
          go_wp2_with (at_builtin; refine append_new rfl _ _ rfl _ [c] rfl rfl (by simp) rfl (by rw [← HCC.out]; rfl) hm.out.1 (by have := HA.out; simp only [List.length_singleton]; omega) ?_; intro v1 w1 hm1; have HM := Lib.hid (hm.out.trans hm1); clear hm1)
          go_round
          case rel => exact ⟨k + 1, acc ++ [c], by omega, by go_num, by simp only [List.length_append, List.length_singleton]; omega, HM, Lib.hid HC.out.symm⟩
          case measure => simp [intOf]; omega
    · have HX := Lib.hid (HR.out none (by rw [← hc.out]; exact (t_end (by rw [HL.out]; omega)).symm))
      have HB := Lib.hid (hm.out.below rfl)
      go_wp2
      go_returns
      exact ⟨by rw [HX.out]; rfl, HB.out⟩
end Go.Proofs.YtbkaphcipbhmhaaDoor.Kc6
