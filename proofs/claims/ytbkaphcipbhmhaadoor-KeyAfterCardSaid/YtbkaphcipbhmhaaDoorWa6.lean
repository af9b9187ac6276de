/- KeyAfter: which way three texts go. -/
import Derived.Test.YtbkaphcipbhmhaaDoorPa6
import Derived.Test.YtbkaphcipbhmhaaDoorAl6
import Derived.WalkLawsBesides
import Derived.Laws.Concat
namespace Go.Proofs.YtbkaphcipbhmhaaDoor.Wa6
open Go Go.RowKit Go.Proofs Go.Proofs.YtbkaphcipbhmhaaDoor.Wm Go.Proofs.YtbkaphcipbhmhaaDoor.Vm Go.Proofs.YtbkaphcipbhmhaaDoor.Vs Go.Proofs.YtbkaphcipbhmhaaDoor.Cm Go.Proofs.YtbkaphcipbhmhaaDoor.Al6 Go.Proofs.YtbkaphcipbhmhaaDoor.Pa6
set_option maxRecDepth 20000 in
theorem w_long (S T M : ByteArray) (W : World) (hT : Hid (Tabs W)) (hs : S.size ≤ 140737488351232) (ht : T.size ≤ 140737488351232) (hm : M.size ≤ 140737488351232) (h : 4096 < S.size + T.size + M.size) :
    Calls Tryd.prog 6 #[.string S, .string T, .string M] W fun e w' => e = .returned (.bool true) ∧ Below W.heap.size W w' := by
  have hl : (4096 : Int) < (S.size : Int) + (T.size : Int) + (M.size : Int) := by omega
  have FA := Lib.hid fun (_ : Unit) => alive_any W hT.out
  go_enter Tryd.func6, Tryd.ntmps6
  go_wp2_with fail
  with_reducible refine (FA.out ()).mono ?_
  rintro e w1 ⟨rfl, hb⟩
  have HB := Lib.hid hb
  clear hb
  go_wp2
  go_ret
  exact ⟨rfl, HB.out⟩
set_option maxRecDepth 20000 in
theorem w_none (S T M : ByteArray) (W : World) (hT : Hid (Tabs W)) (hs : S.size ≤ 4096) (h : ¬ 4096 < S.size + T.size + M.size)
    (hf : Hid (∀ w, Calls Tryd.prog 16 #[.string S] w fun e w' => e = .returned (.tuple #[.string ⟨#[]⟩, .bool false]) ∧ Below w.heap.size w w')) (h255 : Hid (∀ i (hi : i < S.size), ((S[i]'hi).toNat : Int) = 255)) :
    Calls Tryd.prog 6 #[.string S, .string T, .string M] W fun e w' => e = .returned (.bool true) ∧ Below W.heap.size W w' := by
  have hl : ¬ ((4096 : Int) < (S.size : Int) + (T.size : Int) + (M.size : Int)) := by omega
  have FA := Lib.hid fun w (h : Hid (Tabs w)) => alive_any w h.out
  go_enter Tryd.func6, Tryd.ntmps6
  go_wp2_with fail
  with_reducible refine (hf.out _).mono ?_
  rintro e w1 ⟨rfl, hb⟩
  have HB := Lib.hid hb
  have T1 := Lib.hid (hT.out.keep hb)
  clear hb hf
  go_wp2
  go_loopw [9] (fun i wr => ∃ k : Nat, k ≤ S.size ∧ i = .int .i64 (k : Int) ∧ wr = w1) (fun i _ => S.size - (intOf i).toNat)
  case atStart => exact ⟨0, by omega, rfl, rfl⟩
  case round =>
    obtain ⟨k, hk, rfl, rfl⟩ := hrel
    by_cases hlt : k < S.size
    · have hq := h255.out k hlt
      go_wp2
      go_round
      case rel => exact ⟨k + 1, by omega, by go_num, trivial⟩
      case measure => simp [intOf]; omega
    · go_wp2_with fail
      with_reducible refine (FA.out _ T1).mono ?_
      rintro e w2 ⟨rfl, hb⟩
      have HB2 := Lib.hid (HB.out.trans (hb.mono HB.out.size))
      clear hb
      go_wp2
      go_ret
      exact ⟨rfl, HB2.out⟩
set_option maxRecDepth 20000 in
set_option maxHeartbeats 1000000 in
theorem w_is (S T M A : ByteArray) (W : World) (hT : Hid (Tabs W)) (hs : S.size ≤ 4096) (hms : M.size ≤ 4096) (h : ¬ 4096 < S.size + T.size + M.size)
    (hf : Hid (∀ w, Calls Tryd.prog 16 #[.string S] w fun e w' => e = .returned (.tuple #[.string A, .bool true]) ∧ Below w.heap.size w w'))
    (b x1 x2 : Bool) (h1 : Op.bytesLess (S ++ M).toList A.toList = true) (h2 : Op.bytesLess T.toList A.toList = x1) (h3 : Op.bytesLess S.toList T.toList = x2)
    (hlen : S.size ≤ T.size) (hle : (Op.bytesLess T.toList S.toList || T.toList == S.toList) = !x2) (hpre : ((T.extract 0 S.size).toList == S.toList) = b) (hbx : b = true → x1 = true) (hbx2 : b = false → x2 = true → x1 = false) :
    Calls Tryd.prog 6 #[.string S, .string T, .string M] W fun e w' => e = .returned (.bool true) ∧ Below W.heap.size W w' := by
  have hl : ¬ ((4096 : Int) < (S.size : Int) + (T.size : Int) + (M.size : Int)) := by omega
  have FA := Lib.hid fun w (h : Hid (Tabs w)) => alive_any w h.out
  have hadd := fun w : World => run_string_add_sum (P := Tryd.prog) w S M (by omega)
  have hlen' : (S.size : Int) ≤ (T.size : Int) := by omega
  cases b <;> cases x1 <;> cases x2 <;> first | (exact absurd (hbx rfl) (by decide)) | (exact absurd (hbx2 rfl rfl) (by decide)) | skip
  all_goals
    clear hbx hbx2
    go_enter Tryd.func6, Tryd.ntmps6
    go_wp2_with fail
    with_reducible refine (hf.out _).mono ?_
    rintro e w1 ⟨rfl, hb⟩
    have HB := Lib.hid hb
    have T1 := Lib.hid (hT.out.keep hb)
    clear hb hf
    go_wp2_with fail
    with_reducible refine (FA.out _ T1).mono ?_
    rintro e w2 ⟨rfl, hb⟩
    have HB2 := Lib.hid (HB.out.trans (hb.mono HB.out.size))
    clear hb
    go_wp2
    go_ret
    exact ⟨rfl, HB2.out⟩
set_option maxRecDepth 20000 in
set_option maxHeartbeats 1000000 in
theorem w_short (S T M A : ByteArray) (W : World) (hT : Hid (Tabs W)) (_hs : S.size ≤ 4096) (hms : M.size ≤ 4096) (h : ¬ 4096 < S.size + T.size + M.size)
    (hf : Hid (∀ w, Calls Tryd.prog 16 #[.string S] w fun e w' => e = .returned (.tuple #[.string A, .bool true]) ∧ Below w.heap.size w w'))
    (x1 x2 : Bool) (h1 : Op.bytesLess (S ++ M).toList A.toList = true) (h2 : Op.bytesLess T.toList A.toList = x1) (h3 : Op.bytesLess S.toList T.toList = x2)
    (hlen : T.size < S.size) (hle : (Op.bytesLess T.toList S.toList || T.toList == S.toList) = !x2) (hbx2 : x2 = true → x1 = false) :
    Calls Tryd.prog 6 #[.string S, .string T, .string M] W fun e w' => e = .returned (.bool true) ∧ Below W.heap.size W w' := by
  have hl : ¬ ((4096 : Int) < (S.size : Int) + (T.size : Int) + (M.size : Int)) := by omega
  have FA := Lib.hid fun w (h : Hid (Tabs w)) => alive_any w h.out
  have hadd := fun w : World => run_string_add_sum (P := Tryd.prog) w S M (by omega)
  have hlen' : (T.size : Int) < (S.size : Int) := by omega
  cases x1 <;> cases x2 <;> first | (exact absurd (hbx2 rfl) (by decide)) | skip
  all_goals
    clear hbx2
    go_enter Tryd.func6, Tryd.ntmps6
    go_wp2_with fail
    with_reducible refine (hf.out _).mono ?_
    rintro e w1 ⟨rfl, hb⟩
    have HB := Lib.hid hb
    have T1 := Lib.hid (hT.out.keep hb)
    clear hb hf
    go_wp2_with fail
    with_reducible refine (FA.out _ T1).mono ?_
    rintro e w2 ⟨rfl, hb⟩
    have HB2 := Lib.hid (HB.out.trans (hb.mono HB.out.size))
    clear hb
    go_wp2
    go_ret
    exact ⟨rfl, HB2.out⟩
theorem lt_total (a b : List UInt8) : (Op.bytesLess b a || b == a) = !Op.bytesLess a b := by
  cases h : Op.bytesLess a b
  · cases h2 : Op.bytesLess b a
    · have := bl_total a b h h2
      subst this; simp
    · simp
  · have h2 := bl_asymm a b h
    have hne : b ≠ a := fun e => by subst e; rw [bl_irrefl] at h; cases h
    rw [h2]; simpa using hne
theorem walk (S T M : ByteArray) (W : World) (hT : Tabs W) (hs : S.size ≤ 140737488351232) (ht : T.size ≤ 140737488351232) (hm : M.size ≤ 140737488351232) :
    Calls Tryd.prog 6 #[.string S, .string T, .string M] W fun e w' => e = .returned (.bool true) ∧ Below W.heap.size W w' := by
  by_cases h : 4096 < S.size + T.size + M.size
  · exact w_long S T M W (Lib.hid hT) hs ht hm h
  · have hf := fun w => Ka6.after_any w S hs
    have hl : S.data.toList.length = S.size := Array.length_toList
    cases hq : (Ka6.after S.data.toList).2 with
    | false =>
      obtain ⟨e1, e2⟩ := none_255 hq
      rw [hq, e1] at hf
      exact w_none S T M W (Lib.hid hT) (by omega) h (Lib.hid hf) (Lib.hid fun i hi => by
        have := e2 i (by rw [hl]; exact hi)
        rw [Kn6.elem S i hi] at this
        rw [this]; rfl)
    | true =>
      rw [hq] at hf
      have hA : (bs (Ka6.after S.data.toList).1).toList = (Ka6.after S.data.toList).1 := by rw [ByteArray.toList_eq]; rfl
      have hSM : (S ++ M).toList = S.data.toList ++ M.data.toList := by rw [ByteArray.toList_eq]; simp [ByteArray.data_append]
      by_cases hlen : S.size ≤ T.size
      · have hb : ((T.extract 0 S.size).toList == S.toList) = true ↔ ∃ z, T.data.toList = S.data.toList ++ z := by
          have e : (T.extract 0 S.size).toList = T.data.toList.take S.size := by
            have := bs_take T.data.toList S.size
            rw [bs_of] at this
            rw [this, ByteArray.toList_eq]; rfl
          rw [e, ByteArray.toList_eq, beq_iff_eq]
          constructor
          · intro h; exact ⟨T.data.toList.drop S.size, by rw [← h, List.take_append_drop]⟩
          · rintro ⟨z, hz⟩; rw [hz, ← hl, List.take_left]
        have tl := tells hq T.data.toList M.data.toList _ hb
        refine w_is S T M (bs (Ka6.after S.data.toList).1) W (Lib.hid hT) (by omega) (by omega) h (Lib.hid hf) _ _ _ (by rw [hSM, hA]; exact tl.above) rfl rfl hlen (lt_total _ _) rfl (fun h => ?_) (fun h h2 => ?_)
        · rw [hA, ByteArray.toList_eq]; exact tl.under h
        · rw [ByteArray.toList_eq, ByteArray.toList_eq] at h2
          rw [hA, ByteArray.toList_eq]; exact tl.least h h2
      · have tl := tells hq T.data.toList M.data.toList false ⟨fun h => by (cases h), fun ⟨z, hz⟩ => by
          have := congrArg List.length hz
          have hlT : T.data.toList.length = T.size := Array.length_toList
          rw [List.length_append, hl, hlT] at this; omega⟩
        refine w_short S T M (bs (Ka6.after S.data.toList).1) W (Lib.hid hT) (by omega) (by omega) h (Lib.hid hf) _ _ (by rw [hSM, hA]; exact tl.above) rfl rfl (by omega) (lt_total _ _) (fun h2 => ?_)
        rw [ByteArray.toList_eq, ByteArray.toList_eq] at h2
        rw [hA, ByteArray.toList_eq]; exact tl.least rfl h2
end Go.Proofs.YtbkaphcipbhmhaaDoor.Wa6
