/- The laws' own alive: the chapter's examples hold, in any world. -/
import Derived.Test.YtjpefkpmjhahgaaFs7
import Derived.Test.YtjpefkpmjhahgaaRf7
import Derived.Test.YtjpefkpmjhahgaaLw7
namespace Go.Proofs.Ytjpefkpmjhahgaa.Al7
open Go Go.RowKit Go.Proofs Go.Proofs.Ytjpefkpmjhahgaa.Wm Go.Proofs.Ytjpefkpmjhahgaa.Wc Go.Proofs.Ytjpefkpmjhahgaa.Fl7 Go.Proofs.Ytjpefkpmjhahgaa.Rs7 Go.Proofs.Ytjpefkpmjhahgaa.Fp7 Go.Proofs.Ytjpefkpmjhahgaa.Fs7
def ab : List (List UInt8) := [[97], [98]]
theorem ab_len : (frs ab).length = 26 := by rw [frs_len]; rfl
theorem ab_small : ∀ s ∈ ab, s.length ≤ 4194304 := by
  intro s hs
  have : s = [97] ∨ s = [98] := by simpa [ab] using hs
  rcases this with rfl | rfl <;> simp
theorem ab_torn : scan ((frs ab).take 25) = ([[97]], 13, 70) := by
  have h := scan_torn ab 25 ab_small (by rw [ab_len]; omega)
  have e : whole ab 25 = (1, 13) := by decide
  rw [e] at h
  exact h
theorem ab_other : scan ((frs ab).set 12 120) = ([], 0, 71) := by
  have h12 : 12 < (frs ab).length := by rw [ab_len]; omega
  have hc : (120 : UInt8) ≠ (frs ab)[12] := by
    have e : (frs ab)[12]? = some 97 := by
      show (fr [97] ++ (fr [98] ++ []))[12]? = _
      have h := fr_drop12 [97] (fr [98] ++ [])
      have h2 : ((fr [97] ++ (fr [98] ++ [])).drop 12)[0]? = some 97 := by rw [h]; rfl
      rw [List.getElem?_drop] at h2
      exact h2
    rw [List.getElem?_eq_getElem h12] at e
    rw [Option.some.inj e]; decide
  have h := scan_other ab 12 120 h12 ab_small hc
  have e : whole ab 12 = (0, 0) := by decide
  rw [e] at h
  exact h
theorem nil_head : (fr []).take 4 = [0, 0, 0, 0] := by
  have h := fr_take4 [] []
  rw [List.append_nil] at h
  rw [h]; decide
set_option maxRecDepth 20000 in
theorem nil_tail : (fr []).drop 8 = [0, 0, 0, 0] := by
  have h := fr_drop8 [] []
  rw [List.append_nil] at h
  rw [h]
  decide
theorem list_bs {s : ByteArray} {l : List UInt8} (h : s.data.toList = l) : s = bs l := by rw [← h]; rfl
theorem rds_two (w : World) (s t : ByteArray) : Rds (w.alloc (.cells #[.string s, .string t] 9)) (some ⟨w.heap.size, 0, none⟩) [s, t] := fun _ =>
  ⟨w.heap.size, 0, rfl, by simp, fun k hk => by
    have h0 : k = 0 ∨ k = 1 := by
      have : k < 2 := by simpa using hk
      omega
    rcases h0 with rfl | rfl
    · exact (cell_of_row _ _ _ _ _ _ (heap_alloc_new w _)).trans rfl
    · exact (cell_of_row _ _ _ _ _ _ (heap_alloc_new w _)).trans rfl⟩
/-- What a Scan tells, as a walk wants it. -/
def Sc (w : World) (L : List ByteArray) (N : Nat) (n e : Nat) (en : Ending) (w' : World) : Prop :=
  ∃ A c, en = .returned (.tuple #[.slice A N c, .int .i64 (n : Int), .int .i64 (e : Int)]) ∧ Rds w' A L ∧ Below w.heap.size w w'
theorem sc_of (s : ByteArray) (T : List (List UInt8)) (n e : Nat) (h : scan s.data.toList = (T, n, e)) (hs : s.size ≤ 4294967296) : Hid (∀ W, Calls Try.prog 14 #[.string s] W (Sc W (T.map bs) T.length n e)) := Lib.hid fun W => by
  have h2 := Fs7.scan_any s W hs
  rw [h] at h2
  exact h2
set_option maxRecDepth 40000 in
set_option maxHeartbeats 4000000 in
theorem alive_any (w : World) :
    Calls Try.prog 8 #[] w fun e w' => e = .returned (.bool true) ∧ Below w.heap.size w w' := by
  have hp := Fp7.put_ok ⟨#[]⟩ w (by decide)
  obtain ⟨S, hS⟩ : ∃ S, S = bs (fr []) := ⟨_, rfl⟩
  have e0 : bs (fr (ByteArray.mk #[]).data.toList) = S := hS.symm
  rw [e0] at hp
  have HP := Lib.hid hp
  have s1 : (S.extract 0 4).toList = [0, 0, 0, 0] := by rw [ByteArray.toList_eq, Ff7.ex_list, hS, bs_list, nil_head]; rfl
  have s2 : (S.extract 8 12).toList = [0, 0, 0, 0] := by
    have hl : (fr []).length = 12 := fr_len []
    rw [ByteArray.toList_eq, Ff7.ex_list, hS, bs_list, List.take_of_length_le (by omega), nil_tail]
  have s3 : S.size = 12 := by rw [hS, bs_size]; exact fr_len []
  obtain ⟨b, hb⟩ : ∃ b, b = bs (frs ab) := ⟨_, rfl⟩
  have b1 : b.size = 26 := by rw [hb, bs_size, ab_len]
  have ha := fun (W : World) => Fp7.all_ok (W.alloc (.cells #[.string ⟨#[97]⟩, .string ⟨#[98]⟩] 9)) (some ⟨W.heap.size, 0, none⟩) 2 [⟨#[97]⟩, ⟨#[98]⟩] (rds_two W _ _) (by simp) (by decide) (fun k hk => by
    have h0 : k = 0 ∨ k = 1 := by
      have : k < 2 := by simpa using hk
      omega
    rcases h0 with rfl | rfl <;> (show 1 ≤ 4194304; omega))
  have e1 : bs (frs (ll [⟨#[97]⟩, ⟨#[98]⟩])) = b := hb.symm
  rw [e1] at ha
  have HA := Lib.hid ha
  have c1 : (b.extract 0 25).data.toList = (frs ab).take 25 := by rw [Ff7.ex_list, hb]; rfl
  have HS1 := sc_of (b.extract 0 25) _ _ _ (c1 ▸ ab_torn) (by rw [ByteArray.size_extract]; omega)
  obtain ⟨X, hX⟩ : ∃ X, X = b.extract 0 12 ++ ⟨#[120]⟩ := ⟨_, rfl⟩
  obtain ⟨Y, hY⟩ : ∃ Y, Y = X ++ b.extract 13 26 := ⟨_, rfl⟩
  have c2 : Y.data.toList = (frs ab).set 12 120 := by
    have hl := ab_len
    have e2 : (b.extract 13 26).data.toList = (frs ab).drop 13 := by rw [Ff7.ex_list, hb, bs_list, List.take_of_length_le (by omega)]
    have e3 : X.data.toList = (frs ab).take 12 ++ [120] := by
      rw [hX]
      show (b.extract 0 12).data.toList ++ [120] = _
      rw [Ff7.ex_list, hb]; rfl
    rw [hY]
    show X.data.toList ++ (b.extract 13 26).data.toList = _
    rw [e3, e2, List.set_eq_take_append_cons_drop, if_pos (by omega), List.append_assoc]; rfl
  have x1 : X.size = 13 := by rw [hX, ByteArray.size_append, ByteArray.size_extract, b1]; rfl
  have y1 : Y.size ≤ 4294967296 := by rw [hY, ByteArray.size_append, ByteArray.size_extract]; omega
  have HS2 := sc_of Y _ _ _ (c2 ▸ ab_other) y1
  rw [hY, hX] at HS2
  clear e0 e1 c1 c2 hp ha hS hb hX hY x1 y1
  go_enter Try.func8, Try.ntmps8
  go_wp2_with fail
  refine HP.out.mono ?_
  rintro e w1 ⟨rfl, hb1⟩
  have HB1 := Lib.hid hb1
  clear hb1 HP
  go_wp2_with fail
  refine (HA.out w1).mono ?_
  rintro e w2 ⟨rfl, hb2⟩
  have HB2 := Lib.hid (HB1.out.trans (((Below.refl w1.heap.size w1).alloc (Nat.le_refl _) (.cells #[.string ⟨#[97]⟩, .string ⟨#[98]⟩] 9)).trans (hb2.mono (by simp)) |>.mono HB1.out.size))
  clear hb2 HA HB1
  go_wp2_with fail
  refine (HS1.out w2).mono ?_
  rintro e w3 ⟨A, c, rfl, hr, hb3⟩
  have HR3 := Lib.hid hr
  have HB3 := Lib.hid (HB2.out.trans (hb3.mono HB2.out.size))
  clear hb3 hr HB2 HS1
  have HK : Hid (∀ W, Below w3.heap.size w3 W → Rds W A ([[97]].map bs)) := Lib.hid fun W hW => HR3.out.keep (Nat.le_refl _) hW
  go_wp2
  go_region_held3 (fun _ => True) (trivial) (first
    | (go_at_call 14; (with_reducible refine (HS2.out _).mono ?_); rintro e w4 ⟨A2, d, rfl, hr2, hb⟩; have H4 := Lib.hid (((Below.refl _ w3).drew).trans hb); clear hb hr2))
  all_goals
    have HB4 := Lib.hid (HB3.out.trans (H4.out.mono HB3.out.size))
    have HR4 := HK.out _ H4.out
    have hsm := same_any (w4.alloc (.cells #[.string ⟨#[97]⟩] 9)) A (some ⟨w4.heap.size, 0, none⟩) c 1 ([[97]].map bs) [⟨#[97]⟩] (HR4.keep (Nat.le_refl _) ((Below.refl w4.heap.size w4).alloc (Nat.le_refl _) _)) (rds_one w4 _) (by decide) true (by decide)
    have HSM := Lib.hid hsm
    clear hsm HR4 HK
    go_wp2_with fail
    refine HSM.out.mono ?_
    rintro e w5 ⟨rfl, hb5⟩
    have HB5 := Lib.hid (HB4.out.trans ((((Below.refl w4.heap.size w4).alloc (Nat.le_refl _) (.cells #[.string ⟨#[97]⟩] 9)).trans (hb5.mono (by simp))).mono HB4.out.size))
    clear hb5 HSM
    go_wp2
    go_ret
    exact ⟨rfl, HB5.out⟩
end Go.Proofs.Ytjpefkpmjhahgaa.Al7
