/- key.Get's readings of the kinds: Int, Real, Bytes, String. -/
import Derived.Test.YtbkaphcipbhmhaaDoorKk6
namespace Go.Proofs.YtbkaphcipbhmhaaDoor.Ki6
open Go Go.RowKit Go.Proofs.YtbkaphcipbhmhaaDoor.Wm Go.Proofs.YtbkaphcipbhmhaaDoor.Cm Go.Proofs.YtbkaphcipbhmhaaDoor.Vm Go.Proofs.YtbkaphcipbhmhaaDoor.Vr Go.Proofs.YtbkaphcipbhmhaaDoor.Vs Go.Proofs.YtbkaphcipbhmhaaDoor.Vc Go.Proofs.YtbkaphcipbhmhaaDoor.Vh Go.Proofs.YtbkaphcipbhmhaaDoor.Vk Go.Proofs.YtbkaphcipbhmhaaDoor.Kl6 Go.Proofs.YtbkaphcipbhmhaaDoor.Km6 Go.Proofs.YtbkaphcipbhmhaaDoor.Bu6 Go.Proofs.YtbkaphcipbhmhaaDoor.Kn6 Go.Proofs.YtbkaphcipbhmhaaDoor.Kg6 Go.Proofs.YtbkaphcipbhmhaaDoor.Ko6 Go.Proofs.YtbkaphcipbhmhaaDoor.Kk6
theorem cut_none {s : List UInt8} (h : cutN s = none) (w : World) (hs : s.length ≤ 100000) : Calls Tryd.prog 44 #[.string (bs s)] w fun e w' => e = .returned (.tuple #[.int .u64 0, .string ⟨#[]⟩, .bool false]) ∧ Below w.heap.size w w' := by
  have := Kc6.number_any w (bs s) (by rw [bs_size]; omega)
  unfold Kc6.numS at this
  rw [bs_list, h] at this
  exact this
theorem cut_some {s r : List UInt8} {N : Nat} (h : cutN s = some (N, r)) (w : World) (hs : s.length ≤ 100000) : Calls Tryd.prog 44 #[.string (bs s)] w fun e w' => e = .returned (.tuple #[.int .u64 (N : Int), .string (bs r), .bool true]) ∧ Below w.heap.size w w' := by
  have := Kc6.number_any w (bs s) (by rw [bs_size]; omega)
  unfold Kc6.numS at this
  rw [bs_list, h] at this
  exact this
theorem cutN_len {s r : List UInt8} {N : Nat} (h : cutN s = some (N, r)) : r.length ≤ s.length := by
  have := congrArg List.length (cutN_sound h).1
  rw [List.length_append] at this; omega
set_option maxRecDepth 20000 in
theorem k_int (n k : Nat) (hO : OnAt n k) (w : World) (s : List UInt8) (l : List V) (he : Hid (Env w n)) (hr : Hid (Row w n l)) (hT : Hid (Tabs w)) (hl : l.length + k = 8) (hs : s.length ≤ 100000) :
    Calls Tryd.prog 43 #[.string (bs s), .pointer (some ⟨n + 2, 0, none⟩)] w (Out n w l (kindP k 3 s)) := by
  cases hq : cutN s with
  | none =>
    have hg : kindP k 3 s = none := by simp [kindP, oneOf, hq]
    rw [hg]
    have HC := Lib.hid fun W => cut_none hq W hs
    obtain ⟨S, hS⟩ : ∃ S, S = bs s := ⟨_, rfl⟩
    rw [← hS] at HC ⊢
    clear hS hO hq hg
    have A0 := Lib.hid (All.first he hr hT)
    clear he hr hT
    go_enter Tryd.func43, Tryd.ntmps43
    go_wp2_with fail
    with_reducible refine (HC.out _).mono ?_
    rintro e w1 ⟨rfl, hb1⟩
    have A1 := Lib.hid (A0.out.below hb1)
    clear hb1
    go_wp2
    go_quiet (fail)
    go_wp2
    go_ret
    exact ⟨rfl, A1.out.step.trans (Step.of_below (below_drewN w1 _) A1.out.row.big), fun m hm => by cases hm⟩
  | some p =>
    obtain ⟨N, r⟩ := p
    have hg : kindP k 3 s = onP k ⟨2, (N : Int) - 9223372036854775808, 0, ⟨#[]⟩⟩ r := by simp [kindP, oneOf, hq]
    rw [hg]
    have hN := (cutN_sound hq).2
    have HC := Lib.hid fun W => cut_some hq W hs
    obtain ⟨S, hS⟩ : ∃ S, S = bs s := ⟨_, rfl⟩
    obtain ⟨T, hT1⟩ : ∃ T, T = bs r := ⟨_, rfl⟩
    rw [← hS, ← hT1] at HC
    rw [← hS]
    obtain ⟨q, hq1⟩ : ∃ q : Int, q = (N : Int) - 9223372036854775808 := ⟨_, rfl⟩
    obtain ⟨G, hG⟩ : ∃ G, G = onP k ⟨2, (N : Int) - 9223372036854775808, 0, ⟨#[]⟩⟩ r := ⟨_, rfl⟩
    rw [← hG]
    have HG : Hid (Goes n l 2 q 0 ⟨#[]⟩ T G) := Lib.hid (goes (r := 0) hO hT1 hl (by have := cutN_len hq; omega) rfl (by rw [hq1]; exact ok_of (by omega) (by omega) (by omega) (by omega) (by omega) size0) (by rw [hG, hq1]))
    have hw1 : IntKind.i64.wrap (IntKind.u64.wrap ((N : Int) - 9223372036854775808)) = q := by
      rw [hq1]; simp only [IntKind.wrap, IntKind.bits, IntKind.signed]; simp; omega
    have HI : Hid (∀ W, Calls Tryd.prog 45 #[.int .i64 q] W fun e w' => e = .returned (.agg #[.int .u8 2, .int .i64 q, .int .u64 0, .string ⟨#[]⟩]) ∧ Below W.heap.size W w') := Lib.hid fun W => int_any q W
    clear hS hO hq hg hT1 hq1 hG
    unfold Goes at HG
    have A0 := Lib.hid (All.first he hr hT)
    clear he hr hT
    go_enter Tryd.func43, Tryd.ntmps43
    go_wp2_with fail
    with_reducible refine (HC.out _).mono ?_
    rintro e w1 ⟨rfl, hb1⟩
    have A1 := Lib.hid (A0.out.below hb1)
    have hc := on_cell A1.out.env
    clear hb1
    go_wp2
    go_region_held3 (fun W => W.cell? ⟨n + 2, 0, none⟩ = some (.func (.func 25) #[] #[.pointer (some ⟨n, 0, none⟩), .pointer (some ⟨n + 1, 0, none⟩)])) (go_keep) (first
      | (go_at_call 45; (with_reducible refine (HI.out _).mono ?_); rintro e w2 ⟨rfl, hb2⟩; have A2 := Lib.hid (A1.out.drew.below hb2); have hc2 := on_cell A2.out.env; clear hb2)
      | (go_at_call 25; (with_reducible refine (HG.out _ (Lib.hid A2.out.env) (Lib.hid A2.out.row) (Lib.hid A2.out.tabs)).mono ?_); rintro e w3 ⟨rfl, hs3, hr3⟩; have HO3 := Lib.hid (And.intro (A2.out.step.trans hs3) hr3); have hc3 := on_cell (A2.out.env.keep hs3); clear hs3 hr3))
    all_goals
      go_wp2
      go_ret
      exact ⟨rfl, HO3.out⟩
theorem back_at (K : Nat) (hK : K < 18446744073709551616) (a b : Int) (ha : a = ((Rm.back K).1 : Int)) (hb : b = (Rm.back K).2) : Hid (∀ W, Calls Tryd.prog 47 #[.int .u64 (K : Int)] W fun e w' => e = .returned (.tuple #[.int .u64 a, .int .i64 b]) ∧ W = w') := by
  subst ha hb; exact Lib.hid fun W => Kr.back_any K W hK
set_option maxRecDepth 20000 in
theorem k_real (n k : Nat) (hO : OnAt n k) (w : World) (s : List UInt8) (l : List V) (he : Hid (Env w n)) (hr : Hid (Row w n l)) (hT : Hid (Tabs w)) (hl : l.length + k = 8) (hs : s.length ≤ 100000) :
    Calls Tryd.prog 46 #[.string (bs s), .pointer (some ⟨n + 2, 0, none⟩)] w (Out n w l (kindP k 4 s)) := by
  cases hq : cutN s with
  | none =>
    have hg : kindP k 4 s = none := by simp [kindP, oneOf, hq]
    rw [hg]
    have HC := Lib.hid fun W => cut_none hq W hs
    obtain ⟨S, hS⟩ : ∃ S, S = bs s := ⟨_, rfl⟩
    rw [← hS] at HC ⊢
    obtain ⟨a, ha⟩ : ∃ a : Int, a = ((Rm.back 0).1 : Int) := ⟨_, rfl⟩
    obtain ⟨b, hb⟩ : ∃ b : Int, b = (Rm.back 0).2 := ⟨_, rfl⟩
    have HBk : Hid (∀ W, Calls Tryd.prog 47 #[.int .u64 0] W fun e w' => e = .returned (.tuple #[.int .u64 a, .int .i64 b]) ∧ W = w') := back_at 0 (by omega) a b ha hb
    clear hS hO hq hg ha hb
    have A0 := Lib.hid (All.first he hr hT)
    clear he hr hT
    go_enter Tryd.func46, Tryd.ntmps46
    go_wp2_with fail
    with_reducible refine (HC.out _).mono ?_
    rintro e w1 ⟨rfl, hb1⟩
    have A1 := Lib.hid (A0.out.below hb1)
    clear hb1
    go_wp2_with fail
    with_reducible refine (HBk.out _).mono ?_
    rintro e w2 ⟨rfl, rfl⟩
    go_wp2
    go_ret
    exact ⟨rfl, A1.out.step, fun m hm => by cases hm⟩
  | some p =>
    obtain ⟨N, r⟩ := p
    have hN := (cutN_sound hq).2
    have HC := Lib.hid fun W => cut_some hq W hs
    obtain ⟨S, hS⟩ : ∃ S, S = bs s := ⟨_, rfl⟩
    obtain ⟨T, hT1⟩ : ∃ T, T = bs r := ⟨_, rfl⟩
    rw [← hS, ← hT1] at HC
    rw [← hS]
    obtain ⟨a, ha⟩ : ∃ a : Nat, a = (Rm.back N).1 := ⟨_, rfl⟩
    have A0 := Lib.hid (All.first he hr hT)
    rcases Kr.key_back hN with ⟨b0, _, _, k4⟩ | ⟨b2, _⟩
    · have hg : kindP k 4 s = onP k ⟨3, 0, (Rm.back N).1, ⟨#[]⟩⟩ r := by simp [kindP, oneOf, hq, b0]
      rw [hg]
      have HBk := back_at N hN (a : Int) 0 (by rw [ha]) b0.symm
      obtain ⟨G, hG⟩ : ∃ G, G = onP k ⟨3, 0, (Rm.back N).1, ⟨#[]⟩⟩ r := ⟨_, rfl⟩
      rw [← hG]
      have HG : Hid (Goes n l 3 0 (a : Int) ⟨#[]⟩ T G) := Lib.hid (goes (r := a) hO hT1 hl (by have := cutN_len hq; omega) rfl (by rw [ha]; exact ok_of (by omega) (by omega) (by omega) (by omega) k4 size0) (by rw [hG, ha]))
      clear hS hO hq hg hT1 ha hG b0 k4
      unfold Goes at HG
      clear he hr hT
      go_enter Tryd.func46, Tryd.ntmps46
      go_wp2_with fail
      with_reducible refine (HC.out _).mono ?_
      rintro e w1 ⟨rfl, hb1⟩
      have A1 := Lib.hid (A0.out.below hb1)
      have hc := on_cell A1.out.env
      clear hb1
      go_wp2_with fail
      with_reducible refine (HBk.out _).mono ?_
      rintro e w2 ⟨rfl, rfl⟩
      go_wp2_with fail
      with_reducible refine (HG.out _ (Lib.hid A1.out.env) (Lib.hid A1.out.row) (Lib.hid A1.out.tabs)).mono ?_
      rintro e w3 ⟨rfl, hs3, hr3⟩
      have HO3 := Lib.hid (And.intro (A1.out.step.trans hs3) hr3)
      clear hs3 hr3
      go_wp2
      go_ret
      exact ⟨rfl, HO3.out⟩
    · have hg : kindP k 4 s = none := by simp [kindP, oneOf, hq, b2]
      rw [hg]
      have HBk := back_at N hN (a : Int) 2 (by rw [ha]) b2.symm
      clear hS hO hq hg hT1 ha b2
      clear he hr hT
      go_enter Tryd.func46, Tryd.ntmps46
      go_wp2_with fail
      with_reducible refine (HC.out _).mono ?_
      rintro e w1 ⟨rfl, hb1⟩
      have A1 := Lib.hid (A0.out.below hb1)
      clear hb1
      go_wp2_with fail
      with_reducible refine (HBk.out _).mono ?_
      rintro e w2 ⟨rfl, rfl⟩
      go_wp2
      go_ret
      exact ⟨rfl, A1.out.step, fun m hm => by cases hm⟩
theorem txt_none {s : List UInt8} (h : cutT [] s = none) (w : World) (hs : s.length ≤ 100000) : Calls Tryd.prog 39 #[.string (bs s)] w fun e w' => e = .returned (.tuple #[.string ⟨#[]⟩, .string ⟨#[]⟩, .bool false]) ∧ Below w.heap.size w w' := by
  have := Kc6.text_any w (bs s) (by rw [bs_size]; omega)
  unfold Kc6.txtS at this
  rw [bs_list, h] at this
  exact this
theorem txt_some {s t r : List UInt8} (h : cutT [] s = some (t, r)) (w : World) (hs : s.length ≤ 100000) : Calls Tryd.prog 39 #[.string (bs s)] w fun e w' => e = .returned (.tuple #[.string (bs t), .string (bs r), .bool true]) ∧ Below w.heap.size w w' := by
  have := Kc6.text_any w (bs s) (by rw [bs_size]; omega)
  unfold Kc6.txtS at this
  rw [bs_list, h] at this
  exact this
theorem cutT_rest {s t r : List UInt8} (h : cutT [] s = some (t, r)) : r.length ≤ s.length := by
  obtain ⟨t', _, e⟩ := cutT_sound _ s [] t r (Nat.le_refl _) h
  have := congrArg List.length e
  simp at this; omega
/-- Of which kind: 4 or 5, in its block. -/
structure Kind (w : World) (n b K : Nat) : Prop where
  four : K = 4 ∧ b = n + 4 ∨ K = 5 ∧ b = n + 5
theorem kind_cell {w : World} {n b K : Nat} (h : Env w n) (hk : Kind w n b K) : w.cell? ⟨b, 0, none⟩ = some (.int .u8 (K : Int)) := by
  rcases hk.four with ⟨rfl, rfl⟩ | ⟨rfl, rfl⟩
  · exact cell_of_one h.k4
  · exact cell_of_one h.k5
set_option maxRecDepth 20000 in
theorem k_text (n k b K : Nat) (hK : K = 4 ∧ b = n + 4 ∨ K = 5 ∧ b = n + 5) (hO : OnAt n k) (w : World) (s : List UInt8) (l : List V) (he : Hid (Env w n)) (hr : Hid (Row w n l)) (hT : Hid (Tabs w)) (hl : l.length + k = 8) (hs : s.length ≤ 100000) :
    Calls Tryd.prog 38 #[.string (bs s), .pointer (some ⟨n + 2, 0, none⟩), .pointer (some ⟨b, 0, none⟩)] w (Out n w l (kindP k (K + 1) s)) := by
  have A0 := Lib.hid (All.first he hr hT)
  have hK45 : K = 4 ∨ K = 5 := by rcases hK with h | h; exact .inl h.1; exact .inr h.1
  cases hq : cutT [] s with
  | none =>
    have hg : kindP k (K + 1) s = none := by rcases hK45 with rfl | rfl <;> simp [kindP, oneOf, hq]
    rw [hg]
    have HC := Lib.hid fun W => txt_none hq W hs
    obtain ⟨S, hS⟩ : ∃ S, S = bs s := ⟨_, rfl⟩
    rw [← hS] at HC ⊢
    clear hS hO hq hg hK hK45
    clear he hr hT
    go_enter Tryd.func38, Tryd.ntmps38
    go_wp2_with fail
    with_reducible refine (HC.out _).mono ?_
    rintro e w1 ⟨rfl, hb1⟩
    have A1 := Lib.hid (A0.out.below hb1)
    clear hb1
    go_wp2
    go_ret
    exact ⟨rfl, A1.out.step, fun m hm => by cases hm⟩
  | some p =>
    obtain ⟨t, r⟩ := p
    have hg : kindP k (K + 1) s = onP k ⟨(K : Int), 0, 0, bs t⟩ r := by rcases hK45 with rfl | rfl <;> simp [kindP, oneOf, hq]
    rw [hg]
    have HC := Lib.hid fun W => txt_some hq W hs
    obtain ⟨S, hS⟩ : ∃ S, S = bs s := ⟨_, rfl⟩
    obtain ⟨T, hT1⟩ : ∃ T, T = bs r := ⟨_, rfl⟩
    obtain ⟨U, hU⟩ : ∃ U, U = bs t := ⟨_, rfl⟩
    rw [← hS, ← hT1, ← hU] at HC
    rw [← hS, ← hU]
    obtain ⟨q, hq1⟩ : ∃ q : Int, q = (K : Int) := ⟨_, rfl⟩
    rw [← hq1]
    obtain ⟨G, hG⟩ : ∃ G, G = onP k ⟨q, 0, 0, U⟩ r := ⟨_, rfl⟩
    rw [← hG]
    have hlen := cutT_len _ s [] t r (Nat.le_refl _) hq
    have HG : Hid (Goes n l q 0 0 U T G) := Lib.hid (goes (r := 0) hO hT1 hl (by have := cutT_rest hq; omega) rfl (by rw [hq1, hU]; exact ok_of (by omega) (by omega) (by omega) (by omega) (by omega) (by rw [bs_size]; omega)) hG)
    have HKc : Hid (∀ W, Env W n → W.cell? ⟨b, 0, none⟩ = some (.int .u8 q)) := Lib.hid fun W h => by rw [hq1]; exact kind_cell h ⟨hK⟩
    clear hS hO hq hg hT1 hU hq1 hG hlen hK hK45
    unfold Goes at HG
    clear he hr hT
    go_enter Tryd.func38, Tryd.ntmps38
    go_wp2_with fail
    with_reducible refine (HC.out _).mono ?_
    rintro e w1 ⟨rfl, hb1⟩
    have A1 := Lib.hid (A0.out.below hb1)
    have hc := on_cell A1.out.env
    have hk1 := HKc.out _ A1.out.env
    clear hb1
    go_wp2_with fail
    with_reducible refine (HG.out _ (Lib.hid A1.out.env) (Lib.hid A1.out.row) (Lib.hid A1.out.tabs)).mono ?_
    rintro e w3 ⟨rfl, hs3, hr3⟩
    have HO3 := Lib.hid (And.intro (A1.out.step.trans hs3) hr3)
    clear hs3 hr3
    go_wp2
    go_ret
    exact ⟨rfl, HO3.out⟩
end Go.Proofs.YtbkaphcipbhmhaaDoor.Ki6
