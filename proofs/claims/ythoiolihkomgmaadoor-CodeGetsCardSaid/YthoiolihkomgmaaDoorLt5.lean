/- The contract of code.beginsLetters: may a text that is cut begin one of n bytes? -/
import Derived.Test.YthoiolihkomgmaaDoorFv5
import Derived.Lib.TrimUEq
namespace Go.Proofs.YthoiolihkomgmaaDoor.Lt5
open Go Go.RowKit Go.Proofs Go.Proofs.YthoiolihkomgmaaDoor.Vs Go.Proofs.YthoiolihkomgmaaDoor.Cm Go.Proofs.YthoiolihkomgmaaDoor.Sh5 Go.Proofs.YthoiolihkomgmaaDoor.Fv5
theorem go_decode (r : List UInt8) (h : r ≠ []) : Lib.decodeGo (bs r) = Lib.decodeL r := by
  have := Lib.decodeL_drop (bs r) 0
  rw [bs_list, List.drop_zero] at this
  rw [this, Lib.decodeGo, if_neg]
  rw [bs_size]; exact fun e => h (List.eq_nil_of_length_eq_zero e)
theorem go_step (f : Nat) (l : List UInt8) (n : Nat) (h : l ≠ []) (hf : full l = true) : beginsGo (f + 1) l n = if (Lib.decodeL l).1 = 65533 ∧ (Lib.decodeL l).2 = 1 then false else beginsGo f (l.drop (Lib.decodeL l).2) (n - (Lib.decodeL l).2) := by
  show (if l = [] then true else _) = _
  rw [if_neg h, if_pos hf]
theorem go_stop (f : Nat) (l : List UInt8) (n : Nat) (h : l ≠ []) (hf : full l = false) : beginsGo (f + 1) l n = decide (lead (l.getD 0 0) ≤ n) := by
  show (if l = [] then true else _) = _
  rw [if_neg h, if_neg (by rw [hf]; simp)]
theorem go_nil (f : Nat) (n : Nat) : beginsGo f [] n = true := by
  cases f <;> rfl
set_option maxRecDepth 20000 in
set_option maxHeartbeats 1000000 in
theorem begins_any (l : List UInt8) (n : Nat) (w : World) (hT : Tabs w) (hl : l.length ≤ n) (hn : n ≤ 1000) :
    Calls Tryd.prog 43 #[.string (bs l), .int .i64 (n : Int)] w fun e w' => e = .returned (.bool (begins l n)) ∧ Below w.heap.size w w' := by
  have HT := Lib.hid hT
  obtain ⟨ANS, hA⟩ : ∃ A, A = begins l n := ⟨_, rfl⟩
  rw [← hA]
  have HA := Lib.hid hA
  clear hT hA
  go_enter Tryd.func43, Tryd.ntmps43
  go_wp2
  go_loopg [0, 1, 5, 6, 7, 8, 9, 10, 11, 12, 13, 14, 15, 16, 17, 18, 19, 20, 21, 22, 23, 24, 25, 26, 27, 28, 29] (l.length + 1) (fun gk s0 n0 _ _ _ _ _ _ _ _ _ _ _ _ _ _ _ _ _ _ _ _ _ _ _ _ _ wx => Hid (Below w.heap.size w wx) ∧ ∃ (r : List UInt8) (m : Nat), s0 = .string (bs r) ∧ n0 = .int .i64 (m : Int) ∧ Hid (beginsGo gk r m = ANS) ∧ r.length < gk ∧ r.length ≤ m ∧ m ≤ 1000)
  case atStart => exact ⟨Lib.hid (Below.refl _ _), l, n, rfl, rfl, Lib.hid HA.out.symm, by omega, hl, hn⟩
  case round =>
    obtain ⟨hb, r, m, rfl, rfl, hg, hr, hm, hm'⟩ := hrel
    have HTr := Lib.hid (HT.out.keep hb.out)
    by_cases h0 : r = []
    · subst h0
      have ha := hg.out
      rw [go_nil] at ha
      have HA' := Lib.hid ha
      clear ha
      have he : (bs ([] : List UInt8)) = ⟨#[]⟩ := rfl
      rw [he]
      go_wp2
      go_ret
      exact ⟨congrArg (fun b => Ending.returned (.bool b)) HA'.out, hb.out⟩
    · have hF : Hid (∀ W, Tabs W → Calls Tryd.prog 53 #[.string (bs r)] W fun e w' => e = .returned (.bool (full r)) ∧ Below W.heap.size W w') := Lib.hid fun W hW => by
        have := full_any r W hW (by omega)
        rwa [show (r != []) = true by simp [h0], Bool.true_and] at this
      obtain ⟨gk', rfl⟩ : ∃ g', gk = g' + 1 := ⟨gk - 1, by omega⟩
      have hne : (bs r).toList.isEmpty = false := by
        rw [ByteArray.toList_eq]
        cases r with
        | nil => exact absurd rfl h0
        | cons a b => rfl
      have hpos : 0 < r.length := List.length_pos_iff.2 h0
      have hsz : (bs r).size = r.length := bs_size r
      cases hf : full r
      · rw [hf] at hF
        have ha := hg.out
        rw [go_stop _ _ _ h0 hf] at ha
        have HA' := Lib.hid ha
        obtain ⟨c, hc⟩ : ∃ c, r.getD 0 0 = c := ⟨_, rfl⟩
        have hx0 : (bs r)[0]'(by rw [hsz]; exact hpos) = c := by
          rw [← hc]; simp [bs, ByteArray.getElem_eq_getElem_data, List.getD_eq_getElem?_getD, hpos]
        rw [hc] at HA'
        have HC := Lib.hid (fun W => letter_any c W)
        clear ha hf hg hc h0
        go_wp2_with fail
        with_reducible refine (hF.out _ HTr.out).mono ?_
        rintro e w1 ⟨rfl, hb1⟩
        have HB1 := Lib.hid hb1
        clear hb1
        go_wp2_with fail
        with_reducible refine (HC.out _).mono ?_
        rintro e w2 ⟨rfl, rfl⟩
        go_wp2
        go_ret
        exact ⟨congrArg (fun b => Ending.returned (.bool b)) (by rw [← HA'.out]), hb.out.trans (HB1.out.mono hb.out.size)⟩
      · rw [hf] at hF
        have ha := hg.out
        rw [go_step _ _ _ h0 hf] at ha
        have hk := Lib.decodeL_le r h0
        have hk1 := Lib.decodeL_width r
        have HD : Hid (∀ W, Tabs W → Calls Tryd.prog 54 #[.string (bs r)] W fun e w' => e = .returned (.tuple #[.int .i32 (Lib.decodeL r).1, .int .i64 (Lib.decodeL r).2]) ∧ Below W.heap.size W w') := Lib.hid fun W hW => by
          have := decode_any (bs r) W hW
          rwa [go_decode r h0] at this
        obtain ⟨R, hR⟩ : ∃ R, (Lib.decodeL r).1 = R := ⟨_, rfl⟩
        obtain ⟨K, hK⟩ : ∃ K, (Lib.decodeL r).2 = K := ⟨_, rfl⟩
        rw [hR, hK] at HD ha
        rw [hK] at hk hk1
        have HA' := Lib.hid ha
        have hdr : (bs r).extract K r.length = bs (r.drop K) := bs_drop r K
        have hdl : (r.drop K).length = r.length - K := List.length_drop
        clear ha hf hg hR hK h0
        by_cases hR : R = 65533
        · have hRz : ((R : Int) == 65533) = true := by simp [hR]
          by_cases hK : K = 1
          · have hKz : ((K : Int) == 1) = true := by simp [hK]
            have hA2 : false = ANS := by have := HA'.out; rwa [if_pos ⟨hR, hK⟩] at this
            have HA2 := Lib.hid hA2
            clear hA2 HA' hR hK
            go_wp2_with fail
            with_reducible refine (hF.out _ HTr.out).mono ?_
            rintro e w1 ⟨rfl, hb1⟩
            have HB1 := Lib.hid hb1
            clear hb1
            go_wp2_with fail
            with_reducible refine (HD.out _ (HTr.out.keep HB1.out)).mono ?_
            rintro e w2 ⟨rfl, hb2⟩
            have HB2 := Lib.hid hb2
            clear hb2
            go_wp2
            go_ret
            exact ⟨congrArg (fun b => Ending.returned (.bool b)) HA2.out, hb.out.trans ((HB1.out.trans (HB2.out.mono HB1.out.size)).mono hb.out.size)⟩
          · have hKz : ((K : Int) == 1) = false := by simp; omega
            have hA2 : beginsGo gk' (r.drop K) (m - K) = ANS := by have := HA'.out; rwa [if_neg (fun h => hK h.2)] at this
            have HA2 := Lib.hid hA2
            clear hA2 HA' hR hK
            go_wp2_with fail
            with_reducible refine (hF.out _ HTr.out).mono ?_
            rintro e w1 ⟨rfl, hb1⟩
            have HB1 := Lib.hid hb1
            clear hb1
            go_wp2_with fail
            with_reducible refine (HD.out _ (HTr.out.keep HB1.out)).mono ?_
            rintro e w2 ⟨rfl, hb2⟩
            have HB2 := Lib.hid hb2
            clear hb2
            go_wp2
            go_roundg gk'
            case measure => omega
            case rel =>
              refine ⟨Lib.hid (hb.out.trans ((HB1.out.trans (HB2.out.mono HB1.out.size)).mono hb.out.size)), r.drop K, m - K, ?_, ?_, HA2, by omega, by omega, by omega⟩
              · first | rfl | (rw [hdr])
              · exact congrArg (Value.int IntKind.i64) (by omega)
        · have hRz : ((R : Int) == 65533) = false := by simp; omega
          have hA2 : beginsGo gk' (r.drop K) (m - K) = ANS := by have := HA'.out; rwa [if_neg (fun h => hR h.1)] at this
          have HA2 := Lib.hid hA2
          clear hA2 HA' hR
          go_wp2_with fail
          with_reducible refine (hF.out _ HTr.out).mono ?_
          rintro e w1 ⟨rfl, hb1⟩
          have HB1 := Lib.hid hb1
          clear hb1
          go_wp2_with fail
          with_reducible refine (HD.out _ (HTr.out.keep HB1.out)).mono ?_
          rintro e w2 ⟨rfl, hb2⟩
          have HB2 := Lib.hid hb2
          clear hb2
          go_wp2
          go_roundg gk'
          case measure => omega
          case rel =>
            refine ⟨Lib.hid (hb.out.trans ((HB1.out.trans (HB2.out.mono HB1.out.size)).mono hb.out.size)), r.drop K, m - K, ?_, ?_, HA2, by omega, by omega, by omega⟩
            · first | rfl | (rw [hdr])
            · exact congrArg (Value.int IntKind.i64) (by omega)
end Go.Proofs.YthoiolihkomgmaaDoor.Lt5
