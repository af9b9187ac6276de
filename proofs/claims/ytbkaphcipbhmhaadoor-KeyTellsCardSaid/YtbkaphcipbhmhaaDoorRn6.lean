/- The contracts of the document's own number and untext (fascicleref06). -/
import Derived.Test.YtbkaphcipbhmhaaDoorKc6
namespace Go.Proofs.YtbkaphcipbhmhaaDoor.Rn6
open Go Go.RowKit Go.Proofs.YtbkaphcipbhmhaaDoor.Wm Go.Proofs.YtbkaphcipbhmhaaDoor.Cm Go.Proofs.YtbkaphcipbhmhaaDoor.Vm Go.Proofs.YtbkaphcipbhmhaaDoor.Kl6 Go.Proofs.YtbkaphcipbhmhaaDoor.Bu6 Go.Proofs.YtbkaphcipbhmhaaDoor.Kn6 Go.Proofs.YtbkaphcipbhmhaaDoor.Kc6
theorem step_add (N b : Nat) (h : N < 72057594037927936) (hb : b < 256) : IntKind.u64.wrap (IntKind.u64.wrap (256 * (N : Int)) + IntKind.u64.wrap (b : Int)) = ((N * 256 + b : Nat) : Int) := by
  have e1 : 256 * (N : Int) = ((N * 256 : Nat) : Int) := by omega
  rw [e1, wrap_u64_small _ (by omega), wrap_u64_small _ (by omega)]
  have e2 : ((N * 256 : Nat) : Int) + (b : Int) = ((N * 256 + b : Nat) : Int) := by omega
  rw [e2, wrap_u64_small _ (by omega)]
set_option maxRecDepth 20000 in
theorem number_any (w : World) (S : ByteArray) (h8 : 8 ≤ S.size) (hs : S.size ≤ 140737488351232) :
    Calls Tryd.prog 48 #[.string S] w fun e w' => e = .returned (.int .u64 ((getL (S.data.toList.take 8).reverse : Nat) : Int)) ∧ w = w' := by
  have HL := Lib.hid (show S.data.toList.length = S.size from Array.length_toList)
  obtain ⟨M, hM⟩ : ∃ M, M = getL (S.data.toList.take 8).reverse := ⟨_, rfl⟩
  rw [← hM]
  have HM := Lib.hid hM
  clear hM
  go_enter Tryd.func48, Tryd.ntmps48
  go_wp2
  go_loopw [3, 4] (fun n i wr => ∃ k N : Nat, k ≤ 8 ∧ i = .int .i64 (k : Int) ∧ n = .int .u64 (N : Int) ∧ Hid (N = getL (S.data.toList.take k).reverse) ∧ wr = w) (fun _ i _ => 8 - (intOf i).toNat)
  case atStart => exact ⟨0, 0, by omega, rfl, rfl, Lib.hid (by simp [getL]), rfl⟩
  case round =>
    obtain ⟨k, N, hk, rfl, rfl, hN, rfl⟩ := hrel
    by_cases hlt : k < 8
    · have hks : k < S.size := by omega
      have HS := Lib.hid (getL_rev_snoc S.data.toList k (by rw [HL.out]; exact hks))
      have HP : Hid (N < 72057594037927936) := Lib.hid (by rw [hN.out]; exact Nat.lt_of_lt_of_le (lt_rev _ k) (pow_le7 k hlt))
      go_wp2
      refine ⟨⟨k + 1, N * 256 + (S[k]'hks).toNat, by omega, by go_num, congrArg (Value.int .u64) ?_, Lib.hid (by rw [HS.out, hN.out, Kn6.elem S k hks]), trivial⟩, by simp [intOf]; omega⟩
      exact step_add _ _ HP.out (by have := (S[k]'hks).toNat_lt; omega)
    · have hk8 : k = 8 := by omega
      have HX : Hid (N = M) := Lib.hid (by rw [hN.out, HM.out, hk8])
      go_wp2
      go_ret
      exact ⟨by first | rfl | (rw [HX.out]; rfl), rfl⟩
/-- What untext tells: the text and how many bytes that is. -/
def unS (s : List UInt8) : Value := match cutR [] s with
  | none => .tuple #[.string ⟨#[]⟩, .int .i64 (-1)]
  | some (u, r) => .tuple #[.string (bs u), .int .i64 ((s.length : Int) - (r.length : Int))]
def unOf (n : Nat) : Option (List UInt8 × List UInt8) → Value
  | none => .tuple #[.string ⟨#[]⟩, .int .i64 (-1)]
  | some (u, r) => .tuple #[.string (bs u), .int .i64 ((n : Int) - (r.length : Int))]
theorem unS_of {s : List UInt8} {g : Option (List UInt8 × List UInt8)} (h : g = cutR [] s) : unS s = unOf s.length g := by
  subst h; unfold unS unOf; rfl
section
variable {s acc : List UInt8} {k : Nat}
theorem r_end (h : s.length ≤ k + 1) : cutR acc (s.drop k) = none := by
  have : (s.drop k).length ≤ 1 := by rw [List.length_drop]; omega
  match hq : s.drop k, this with
  | [], _ => rfl
  | [_], _ => rfl
  | _ :: _ :: _, h => simp at h
theorem r_other (hk : k < s.length) (h0 : ¬ ((s[k]).toNat : Int) = 0) : cutR acc (s.drop k) = cutR (acc ++ [s[k]]) (s.drop (k + 1)) := by
  have e : s[k] ≠ 0 := fun e => h0 (by rw [e]; rfl)
  rw [List.drop_eq_getElem_cons hk]
  match s.drop (k + 1) with
  | [] => rfl
  | d :: r => simp only [cutR]; rw [if_neg e]
theorem r_two (hk : k + 1 < s.length) (h0 : ((s[k]'(by omega)).toNat : Int) = 0) : cutR acc (s.drop k) = if s[k + 1] = 1 then some (acc, s.drop (k + 2)) else if s[k + 1] = 255 then cutR (acc ++ [0]) (s.drop (k + 2)) else none := by
  have e : s[k]'(by omega) = 0 := u8_is (n := 0) h0
  rw [List.drop_eq_getElem_cons (by omega), List.drop_eq_getElem_cons hk, e]
  simp only [cutR]
  rw [if_true]
theorem r_stop (hk : k + 1 < s.length) (h0 : ((s[k]'(by omega)).toNat : Int) = 0) (h1 : ((s[k + 1]).toNat : Int) = 1) : cutR acc (s.drop k) = some (acc, s.drop (k + 2)) := by
  have e : s[k + 1] = 1 := u8_is (n := 1) h1
  rw [r_two hk h0, if_pos e]
theorem r_stay (hk : k + 1 < s.length) (h0 : ((s[k]'(by omega)).toNat : Int) = 0) (h1 : ((s[k + 1]).toNat : Int) = 255) : cutR acc (s.drop k) = cutR (acc ++ [0]) (s.drop (k + 2)) := by
  have e : s[k + 1] = 255 := u8_is (n := 255) h1
  rw [r_two hk h0, e, if_neg (by decide), if_pos rfl]
theorem r_bad (hk : k + 1 < s.length) (h0 : ((s[k]'(by omega)).toNat : Int) = 0) (h1 : ¬ ((s[k + 1]).toNat : Int) = 1) (h2 : ¬ ((s[k + 1]).toNat : Int) = 255) : cutR acc (s.drop k) = none := by
  rw [r_two hk h0, if_neg (fun e => h1 (by rw [e]; rfl)), if_neg (fun e => h2 (by rw [e]; rfl))]
end
set_option maxRecDepth 40000 in
set_option maxHeartbeats 2000000 in
theorem untext_any (w : World) (S : ByteArray) (hs : S.size ≤ 100000) :
    Calls Tryd.prog 50 #[.string S] w fun e w' => e = .returned (unS S.data.toList) ∧ Below w.heap.size w w' := by
  have hlen : S.data.toList.length = S.size := Array.length_toList
  have HL := Lib.hid hlen
  obtain ⟨R, hR⟩ : ∃ R, R = unS S.data.toList := ⟨_, rfl⟩
  rw [← hR]
  have HR : Hid (∀ g, g = cutR [] S.data.toList → R = unOf S.size g) := Lib.hid fun g hg => by rw [hR, unS_of hg, hlen]
  clear hR hlen
  go_enter Tryd.func50, Tryd.ntmps50
  go_wp2
  go_loopw [4, 5] (fun row i wr => ∃ (k : Nat) (acc : List UInt8), k ≤ S.size ∧ i = .int .i64 (k : Int) ∧ acc.length ≤ k ∧ Hid (Mid w w.heap.size (.slice none 0 0) row acc wr) ∧ Hid (cutR acc (S.data.toList.drop k) = cutR [] S.data.toList)) (fun _ i _ => S.size - (intOf i).toNat)
  case atStart => exact ⟨0, [], by omega, rfl, by simp, Lib.hid (Mid.refl (Buf.nil w)), Lib.hid rfl⟩
  case round =>
    obtain ⟨k, acc, hk, rfl, ha, hm, hc⟩ := hrel
    have HA := Lib.hid ha
    clear ha
    by_cases hlt : k + 1 < S.size
    · have hkl : k + 1 < S.data.toList.length := by rw [HL.out]; exact hlt
      have hlt0 : k < S.size := by omega
      have he := Kn6.elem S k hlt0
      by_cases h0 : ((S[k]'hlt0).toNat : Int) = 0
      · have he1 := Kn6.elem S (k + 1) hlt
        by_cases h1 : ((S[k + 1]'hlt).toNat : Int) = 1
        · have HX := Lib.hid (HR.out (some (acc, S.data.toList.drop (k + 2))) (by rw [← hc.out]; exact (r_stop hkl (by rw [he]; exact h0) (by rw [he1]; exact h1)).symm))
          have HB := Lib.hid (hm.out.below rfl)
          have hx := hm.out.1.str
          clear he he1
          go_wp2
          go_ret2
          exact ⟨by rw [HX.out]; exact congrArg (fun i => Ending.returned (.tuple #[.string (bs acc), .int .i64 i])) (by rw [List.length_drop, HL.out]; omega), HB.out⟩
        · by_cases h2 : ((S[k + 1]'hlt).toNat : Int) = 255
          · have HC := Lib.hid (hc.out.symm.trans (r_stay hkl (by rw [he]; exact h0) (by rw [he1]; exact h2)))
            clear he he1
            go_wp2_with (at_builtin; refine append_new rfl _ _ rfl _ [0] rfl rfl (by simp) rfl rfl hm.out.1 (by have := HA.out; simp only [List.length_singleton]; omega) ?_; intro v1 w1 hm1; have HM := Lib.hid (hm.out.trans hm1); clear hm1)
            go_round
            case rel => exact ⟨k + 2, acc ++ [0], by omega, congrArg (Value.int .i64) (by omega), by have := HA.out; simp only [List.length_append, List.length_singleton]; omega, HM, Lib.hid HC.out.symm⟩
            case measure => simp [intOf]; omega
          · have HX := Lib.hid (HR.out none (by rw [← hc.out]; exact (r_bad hkl (by rw [he]; exact h0) (by rw [he1]; exact h1) (by rw [he1]; exact h2)).symm))
            have HB := Lib.hid (hm.out.below rfl)
            obtain ⟨q, hq⟩ : ∃ q : Int, ((S[k + 1]'hlt).toNat : Int) = q := ⟨_, rfl⟩
            rw [hq] at h1 h2
            have h1' : (q == 1) = false := by simpa using h1
            have h2' : (q != 255) = true := by simpa using h2
            clear he he1
            go_wp2
            go_ret2
            exact ⟨by rw [HX.out]; rfl, HB.out⟩
      · obtain ⟨q, hq⟩ : ∃ q : Int, ((S[k]'hlt0).toNat : Int) = q := ⟨_, rfl⟩
        have HC := Lib.hid (hc.out.symm.trans (r_other (by omega) (by rw [he]; exact h0)))
        rw [hq] at h0
        have HX : Hid (∀ c : UInt8, c = S.data.toList[k] → (c.toNat : Int) = q) := Lib.hid (fun c hc => by rw [hc, he]; exact hq)
        obtain ⟨c, hcc⟩ : ∃ c, c = S.data.toList[k] := ⟨_, rfl⟩
        rw [← hcc] at HC
        have HCC := Lib.hid (HX.out c hcc)
        clear hcc he HX hkl
        go_wp2_with (at_builtin; refine append_new rfl _ _ rfl _ [c] rfl rfl (by simp) rfl (by rw [← HCC.out]; rfl) hm.out.1 (by have := HA.out; simp only [List.length_singleton]; omega) ?_; intro v1 w1 hm1; have HM := Lib.hid (hm.out.trans hm1); clear hm1)
        go_round
        case rel => exact ⟨k + 1, acc ++ [c], by omega, by go_num, by have := HA.out; simp only [List.length_append, List.length_singleton]; omega, HM, Lib.hid HC.out.symm⟩
        case measure => simp [intOf]; omega
    · have HX := Lib.hid (HR.out none (by rw [← hc.out]; exact (r_end (by rw [HL.out]; omega)).symm))
      have HB := Lib.hid (hm.out.below rfl)
      go_wp2
      go_ret2
      exact ⟨by rw [HX.out]; rfl, HB.out⟩
end Go.Proofs.YtbkaphcipbhmhaaDoor.Rn6
