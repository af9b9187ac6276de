/- The bytes of numbers and texts, as package key writes them: appendNumber, appendText. -/
import Derived.Test.YtbkaphcipbhmhaaDoorBu6
import Derived.Test.YtbkaphcipbhmhaaDoorKl6
namespace Go.Proofs.YtbkaphcipbhmhaaDoor.Kn6
open Go Go.RowKit Go.Proofs.YtbkaphcipbhmhaaDoor.Wm Go.Proofs.YtbkaphcipbhmhaaDoor.Cm Go.Proofs.YtbkaphcipbhmhaaDoor.Vm Go.Proofs.YtbkaphcipbhmhaaDoor.Kl6 Go.Proofs.YtbkaphcipbhmhaaDoor.Bu6
theorem byte_at (V k : Nat) (h : k < 8) : (V : Int) / 2 ^ (8 * (7 - k)) % 256 = (((hi V)[k]'(by rw [hi_length]; exact h)).toNat : Int) := by
  rw [hi_byte V k h, cast_div, ← pow256]
  simp
theorem hi_take (V k : Nat) (h : k < 8) : (hi V).take (k + 1) = (hi V).take k ++ [(hi V)[k]'(by rw [hi_length]; exact h)] :=
  List.take_succ_eq_append_getElem (by rw [hi_length]; exact h)
set_option maxRecDepth 20000 in
theorem number_any {w : World} {B : Nat} {u : Value} {l : List UInt8} (h : Buf w B u l) (V : Nat) (hl : l.length ≤ 90000) :
    Calls Tryd.prog 30 #[u, .int .u64 (V : Int)] w (Grew w B u (l ++ hi V)) := by
  have H := Lib.hid h; have HL := Lib.hid hl
  clear h hl
  go_enter Tryd.func30, Tryd.ntmps30
  go_wp2
  go_loopw [0, 5] (fun row at_ wr => ∃ k : Nat, k ≤ 8 ∧ at_ = .int .i64 (7 - (k : Int)) ∧ Hid (Mid w B u row (l ++ (hi V).take k) wr)) (fun _ at_ _ => (intOf at_ + 1).toNat)
  case atStart => exact ⟨0, by omega, by simp, Lib.hid (by simpa using Mid.refl H.out)⟩
  case round =>
    obtain ⟨k, hk, rfl, hm⟩ := hrel
    by_cases hlt : k < 8
    · have HB := Lib.hid (byte_at V k hlt)
      have HS := Lib.hid (hi_take V k hlt)
      obtain ⟨c, hc⟩ : ∃ c, c = (hi V)[k]'(by rw [hi_length]; exact hlt) := ⟨_, rfl⟩
      rw [← hc] at HB HS
      clear hc
      go_wp2_with (at_builtin; refine append_new rfl _ _ rfl _ [c] rfl rfl (by simp) rfl (by rw [HB.out]; rfl) hm.out.1 (by have := HL.out; simp; omega) ?_; intro v1 w1 hm1; have HM := Lib.hid (hm.out.trans hm1); clear hm1)
      go_round
      case rel => exact ⟨k + 1, by omega, by go_num, Lib.hid (by rw [HS.out, ← List.append_assoc]; exact HM.out)⟩
      case measure => simp [intOf]; omega
    · have hk8 : k = 8 := by omega
      have hm2 := hm.out
      rw [hk8, List.take_of_length_le (by rw [hi_length]; omega)] at hm2
      have HM := Lib.hid hm2
      clear hm2
      go_wp2
      go_ret
      exact HM.out.grew
theorem esc_zero {s : List UInt8} {k : Nat} (h : k < s.length) (h0 : ((s[k]).toNat : Int) = 0) : esc (s.take (k + 1)) = esc (s.take k) ++ [s[k]] ++ [255] := by
  have e : s[k] = 0 := UInt8.toNat_inj.1 (by simpa using h0)
  rw [esc_snoc s k h, e]; simp
theorem esc_other {s : List UInt8} {k : Nat} (h : k < s.length) (h0 : ¬ ((s[k]).toNat : Int) = 0) : esc (s.take (k + 1)) = esc (s.take k) ++ [s[k]] := by
  have e : s[k] ≠ 0 := fun e => h0 (by rw [e]; rfl)
  rw [esc_snoc s k h, if_neg e]
theorem esc_short (l s : List UInt8) (k : Nat) (h : l.length ≤ 80000) (hs : s.length ≤ 5000) : (l ++ esc (s.take k)).length ≤ 100000 := by
  have h1 := esc_len (s.take k)
  have h2 : (s.take k).length ≤ s.length := by rw [List.length_take]; omega
  rw [List.length_append]; omega
theorem elem (S : ByteArray) (k : Nat) (h : k < S.size) : S.data.toList[k]'(by rw [Array.length_toList]; exact h) = S[k]'h := by
  rw [ByteArray.getElem_eq_getElem_data, Array.getElem_toList]
set_option maxRecDepth 20000 in
theorem text_any {w : World} {B : Nat} {u : Value} {l : List UInt8} (h : Buf w B u l) (S : ByteArray) (hl : l.length ≤ 80000) (hs : S.size ≤ 5000) :
    Calls Tryd.prog 32 #[u, .string S] w (Grew w B u (l ++ (esc S.data.toList ++ [0, 1]))) := by
  have hlen : S.data.toList.length = S.size := Array.length_toList
  have H := Lib.hid h; have HL := Lib.hid (fun k => esc_short l S.data.toList k hl (by rw [hlen]; exact hs))
  clear h hl
  have HN := Lib.hid hlen
  clear hlen
  go_enter Tryd.func32, Tryd.ntmps32
  go_wp2
  go_loopw [0, 5, 8] (fun row _ i wr => ∃ k : Nat, k ≤ S.size ∧ i = .int .i64 (k : Int) ∧ Hid (Mid w B u row (l ++ esc (S.data.toList.take k)) wr)) (fun _ _ i _ => S.size - (intOf i).toNat)
  case atStart => exact ⟨0, by omega, rfl, Lib.hid (by simpa [esc] using Mid.refl H.out)⟩
  case round =>
    obtain ⟨k, hk, rfl, hm⟩ := hrel
    by_cases hlt : k < S.size
    · have hkl : k < S.data.toList.length := by rw [HN.out]; exact hlt
      have he := elem S k hlt
      by_cases h0 : ((S[k]'hlt).toNat : Int) = 0
      · have HS := Lib.hid (esc_zero (s := S.data.toList) hkl (by rw [he]; exact h0))
        have HX : Hid (∀ c : UInt8, c = S.data.toList[k] → (c.toNat : Int) = 0) := Lib.hid (fun c hc => by rw [hc, he]; exact h0)
        obtain ⟨c, hc⟩ : ∃ c, c = S.data.toList[k] := ⟨_, rfl⟩
        rw [← hc] at HS
        have HC := Lib.hid (HX.out c hc)
        clear hc he HX hkl
        go_wp2_with (first
          | (at_builtin; refine append_new rfl _ _ rfl _ [255] rfl rfl (by simp) rfl rfl HM.out.1 (by have := HL.out k; simp only [List.length_append, List.length_singleton] at this ⊢; omega) ?_; intro v2 w2 hm2; have HM2 := Lib.hid (HM.out.trans hm2); clear hm2)
          | (at_builtin; refine append_new rfl _ _ rfl _ [c] rfl rfl (by simp) rfl (by rw [← HC.out]; rfl) hm.out.1 (by have := HL.out k; simp only [List.length_singleton]; omega) ?_; intro v1 w1 hm1; have HM := Lib.hid (hm.out.trans hm1); clear hm1))
        go_round
        case rel => exact ⟨k + 1, by omega, by go_num, Lib.hid (by rw [HS.out, ← List.append_assoc, ← List.append_assoc]; exact HM2.out)⟩
        case measure => simp [intOf]; omega
      · have HS := Lib.hid (esc_other (s := S.data.toList) hkl (by rw [he]; exact h0))
        obtain ⟨q, hq⟩ : ∃ q : Int, ((S[k]'hlt).toNat : Int) = q := ⟨_, rfl⟩
        have h1 : ¬ q = 0 := by rw [← hq]; exact h0
        have HX : Hid (∀ c : UInt8, c = S.data.toList[k] → (c.toNat : Int) = q) := Lib.hid (fun c hc => by rw [hc, he]; exact hq)
        obtain ⟨c, hc⟩ : ∃ c, c = S.data.toList[k] := ⟨_, rfl⟩
        rw [← hc] at HS
        have HC := Lib.hid (HX.out c hc)
        clear hc he HX hkl h0
        go_wp2_with (at_builtin; refine append_new rfl _ _ rfl _ [c] rfl rfl (by simp) rfl (by rw [← HC.out]; rfl) hm.out.1 (by have := HL.out k; simp only [List.length_singleton]; omega) ?_; intro v1 w1 hm1; have HM := Lib.hid (hm.out.trans hm1); clear hm1)
        go_round
        case rel => exact ⟨k + 1, by omega, by go_num, Lib.hid (by rw [HS.out, ← List.append_assoc]; exact HM.out)⟩
        case measure => simp [intOf]; omega
    · have hk8 : k = S.size := by omega
      have hm2 := hm.out
      have hz := HL.out k
      rw [hk8, List.take_of_length_le (by rw [HN.out]; exact Nat.le_refl _)] at hm2 hz
      have HM0 := Lib.hid hm2
      have HZ := Lib.hid hz
      clear hm2 hz
      go_wp2_with (at_builtin; refine append_new rfl _ _ rfl _ [0, 1] rfl rfl (by simp) rfl rfl HM0.out.1 (by have := HZ.out; simp only [List.length_cons, List.length_nil]; omega) ?_; intro v1 w1 hm1; have HM := Lib.hid (HM0.out.trans hm1); clear hm1)
      go_ret
      rw [← List.append_assoc]
      exact HM.out.grew
end Go.Proofs.YtbkaphcipbhmhaaDoor.Kn6
