/- key.Get reads on: which kind comes, and that the whole is read (written by genks6.py). -/
import Derived.Test.YtbkaphcipbhmhaaDoorKi6
namespace Go.Proofs.YtbkaphcipbhmhaaDoor.Ks6
open Go Go.RowKit Go.Proofs.YtbkaphcipbhmhaaDoor.Wm Go.Proofs.YtbkaphcipbhmhaaDoor.Cm Go.Proofs.YtbkaphcipbhmhaaDoor.Vm Go.Proofs.YtbkaphcipbhmhaaDoor.Vr Go.Proofs.YtbkaphcipbhmhaaDoor.Vs Go.Proofs.YtbkaphcipbhmhaaDoor.Vc Go.Proofs.YtbkaphcipbhmhaaDoor.Vh Go.Proofs.YtbkaphcipbhmhaaDoor.Vk Go.Proofs.YtbkaphcipbhmhaaDoor.Kl6 Go.Proofs.YtbkaphcipbhmhaaDoor.Km6 Go.Proofs.YtbkaphcipbhmhaaDoor.Bu6 Go.Proofs.YtbkaphcipbhmhaaDoor.Kn6 Go.Proofs.YtbkaphcipbhmhaaDoor.Kg6 Go.Proofs.YtbkaphcipbhmhaaDoor.Ko6 Go.Proofs.YtbkaphcipbhmhaaDoor.Kk6 Go.Proofs.YtbkaphcipbhmhaaDoor.Ki6
theorem reads_kind (k : Nat) (c : UInt8) (r : List UInt8) : reads k (c :: r) = kindP k c.toNat r := by
  rw [reads_cons k (by simp)]; rfl
theorem kind_none {k c : Nat} {r : List UInt8} (h : c = 0 ∨ 6 < c) : kindP k c r = none := by
  unfold kindP oneOf
  rw [if_neg (by omega), if_neg (by omega), if_neg (by omega), if_neg (by omega), if_neg (by omega), if_neg (by omega)]
theorem cell_1 {w : World} {n : Nat} (h : Env w n) : w.cell? ⟨n + 6, 0, none⟩ = some (.func (.func 40) #[] #[.pointer (some ⟨n + 2, 0, none⟩)]) := by
  obtain ⟨T, hT⟩ := h.kinds
  unfold World.cell?
  rw [hT]; rfl
theorem cell_2 {w : World} {n : Nat} (h : Env w n) : w.cell? ⟨n + 6, 1, none⟩ = some (.func (.func 42) #[] #[.pointer (some ⟨n + 2, 0, none⟩)]) := by
  obtain ⟨T, hT⟩ := h.kinds
  unfold World.cell?
  rw [hT]; rfl
theorem cell_3 {w : World} {n : Nat} (h : Env w n) : w.cell? ⟨n + 6, 2, none⟩ = some (.func (.func 43) #[] #[.pointer (some ⟨n + 2, 0, none⟩)]) := by
  obtain ⟨T, hT⟩ := h.kinds
  unfold World.cell?
  rw [hT]; rfl
theorem cell_4 {w : World} {n : Nat} (h : Env w n) : w.cell? ⟨n + 6, 3, none⟩ = some (.func (.func 46) #[] #[.pointer (some ⟨n + 2, 0, none⟩)]) := by
  obtain ⟨T, hT⟩ := h.kinds
  unfold World.cell?
  rw [hT]; rfl
theorem cell_5 {w : World} {n : Nat} (h : Env w n) : w.cell? ⟨n + 6, 4, none⟩ = some (.func (.func 38) #[] #[.pointer (some ⟨n + 2, 0, none⟩), .pointer (some ⟨n + 4, 0, none⟩)]) := by
  obtain ⟨T, hT⟩ := h.kinds
  unfold World.cell?
  rw [hT]; rfl
theorem cell_6 {w : World} {n : Nat} (h : Env w n) : w.cell? ⟨n + 6, 5, none⟩ = some (.func (.func 38) #[] #[.pointer (some ⟨n + 2, 0, none⟩), .pointer (some ⟨n + 5, 0, none⟩)]) := by
  obtain ⟨T, hT⟩ := h.kinds
  unfold World.cell?
  rw [hT]; rfl
set_option maxRecDepth 20000 in
theorem r_1 (n k : Nat) (w : World) (c : UInt8) (r : List UInt8) (l : List V) (he : Hid (Env w n)) (hr : Hid (Row w n l)) (hT : Hid (Tabs w)) (hl : l.length + k = 8) (hs : (c :: r).length ≤ 100000) (hO : OnAt n k) (hc : c.toNat = 1) : Calls Tryd.prog 26 #[.string (bs (c :: r)), .pointer (some ⟨n + 6, 0, none⟩)] w (Out n w l (reads k (c :: r))) := by
  rw [reads_kind]
  obtain ⟨S, hS⟩ : ∃ S, S = bs (c :: r) := ⟨_, rfl⟩
  rw [← hS]
  have hzm : S.size ≤ 100000 := by rw [hS, bs_size]; exact hs
  have hz : 0 < S.size := by rw [hS, bs_size]; simp
  have hz1 : (1 : Int) ≤ (S.size : Int) := by omega
  have hz2 : (0 : Int) < (S.size : Int) := by omega
  have hne : S.toList.isEmpty = false := not_empty hS
  have A0 := Lib.hid (All.first he hr hT)
  clear he hr hT
  have h0 : ((S[0]'hz).toNat : Int) = 1 := by rw [head_at S c r hS hz, hc]; rfl
  rw [hc]
  obtain ⟨T, hT1⟩ : ∃ T, T = bs r := ⟨_, rfl⟩
  have hx : S.extract 1 S.size = T := by rw [tail_at S c r hS, hT1]
  obtain ⟨G, hG⟩ : ∃ G, G = kindP k 1 r := ⟨_, rfl⟩
  rw [← hG]
  have HG : Hid (∀ W, Hid (Env W n) → Hid (Row W n l) → Hid (Tabs W) → Calls Tryd.prog 40 #[.string T, .pointer (some ⟨n + 2, 0, none⟩)] W (Out n W l G)) := Lib.hid fun W h1 h2 h3 => by
    rw [hT1, hG]; exact k_null n k hO W r l h1 h2 h3 hl (by simp only [List.length_cons] at hs; omega)
  have hk := cell_1 A0.out.env
  clear hS hO hT1 hG hc
  go_enter Tryd.func26, Tryd.ntmps26
  go_wp2
  go_region_held3 (fun W => W.cell? ⟨n + 6, 0, none⟩ = some (.func (.func 40) #[] #[.pointer (some ⟨n + 2, 0, none⟩)])) (go_keep) (first
    | (go_at_call 40; (with_reducible refine (HG.out _ (Lib.hid A0.out.drew.env) (Lib.hid A0.out.drew.row) (Lib.hid A0.out.drew.tabs)).mono ?_); rintro e w3 ⟨rfl, hs3, hr3⟩; have HO3 := Lib.hid (And.intro (A0.out.drew.step.trans hs3) hr3); have hc3 := cell_1 (A0.out.drew.env.keep hs3); clear hs3 hr3))
  all_goals
    go_wp2
    go_ret
    exact ⟨rfl, HO3.out⟩
set_option maxRecDepth 20000 in
theorem r_2 (n k : Nat) (w : World) (c : UInt8) (r : List UInt8) (l : List V) (he : Hid (Env w n)) (hr : Hid (Row w n l)) (hT : Hid (Tabs w)) (hl : l.length + k = 8) (hs : (c :: r).length ≤ 100000) (hO : OnAt n k) (hc : c.toNat = 2) : Calls Tryd.prog 26 #[.string (bs (c :: r)), .pointer (some ⟨n + 6, 0, none⟩)] w (Out n w l (reads k (c :: r))) := by
  rw [reads_kind]
  obtain ⟨S, hS⟩ : ∃ S, S = bs (c :: r) := ⟨_, rfl⟩
  rw [← hS]
  have hzm : S.size ≤ 100000 := by rw [hS, bs_size]; exact hs
  have hz : 0 < S.size := by rw [hS, bs_size]; simp
  have hz1 : (1 : Int) ≤ (S.size : Int) := by omega
  have hz2 : (0 : Int) < (S.size : Int) := by omega
  have hne : S.toList.isEmpty = false := not_empty hS
  have A0 := Lib.hid (All.first he hr hT)
  clear he hr hT
  have h0 : ((S[0]'hz).toNat : Int) = 2 := by rw [head_at S c r hS hz, hc]; rfl
  rw [hc]
  obtain ⟨T, hT1⟩ : ∃ T, T = bs r := ⟨_, rfl⟩
  have hx : S.extract 1 S.size = T := by rw [tail_at S c r hS, hT1]
  obtain ⟨G, hG⟩ : ∃ G, G = kindP k 2 r := ⟨_, rfl⟩
  rw [← hG]
  have HG : Hid (∀ W, Hid (Env W n) → Hid (Row W n l) → Hid (Tabs W) → Calls Tryd.prog 42 #[.string T, .pointer (some ⟨n + 2, 0, none⟩)] W (Out n W l G)) := Lib.hid fun W h1 h2 h3 => by
    rw [hT1, hG]; exact k_bool n k hO W r l h1 h2 h3 hl (by simp only [List.length_cons] at hs; omega)
  have hk := cell_2 A0.out.env
  clear hS hO hT1 hG hc
  go_enter Tryd.func26, Tryd.ntmps26
  go_wp2
  go_region_held3 (fun W => W.cell? ⟨n + 6, 1, none⟩ = some (.func (.func 42) #[] #[.pointer (some ⟨n + 2, 0, none⟩)])) (go_keep) (first
    | (go_at_call 42; (with_reducible refine (HG.out _ (Lib.hid A0.out.drew.env) (Lib.hid A0.out.drew.row) (Lib.hid A0.out.drew.tabs)).mono ?_); rintro e w3 ⟨rfl, hs3, hr3⟩; have HO3 := Lib.hid (And.intro (A0.out.drew.step.trans hs3) hr3); have hc3 := cell_2 (A0.out.drew.env.keep hs3); clear hs3 hr3))
  all_goals
    go_wp2
    go_ret
    exact ⟨rfl, HO3.out⟩
set_option maxRecDepth 20000 in
theorem r_3 (n k : Nat) (w : World) (c : UInt8) (r : List UInt8) (l : List V) (he : Hid (Env w n)) (hr : Hid (Row w n l)) (hT : Hid (Tabs w)) (hl : l.length + k = 8) (hs : (c :: r).length ≤ 100000) (hO : OnAt n k) (hc : c.toNat = 3) : Calls Tryd.prog 26 #[.string (bs (c :: r)), .pointer (some ⟨n + 6, 0, none⟩)] w (Out n w l (reads k (c :: r))) := by
  rw [reads_kind]
  obtain ⟨S, hS⟩ : ∃ S, S = bs (c :: r) := ⟨_, rfl⟩
  rw [← hS]
  have hzm : S.size ≤ 100000 := by rw [hS, bs_size]; exact hs
  have hz : 0 < S.size := by rw [hS, bs_size]; simp
  have hz1 : (1 : Int) ≤ (S.size : Int) := by omega
  have hz2 : (0 : Int) < (S.size : Int) := by omega
  have hne : S.toList.isEmpty = false := not_empty hS
  have A0 := Lib.hid (All.first he hr hT)
  clear he hr hT
  have h0 : ((S[0]'hz).toNat : Int) = 3 := by rw [head_at S c r hS hz, hc]; rfl
  rw [hc]
  obtain ⟨T, hT1⟩ : ∃ T, T = bs r := ⟨_, rfl⟩
  have hx : S.extract 1 S.size = T := by rw [tail_at S c r hS, hT1]
  obtain ⟨G, hG⟩ : ∃ G, G = kindP k 3 r := ⟨_, rfl⟩
  rw [← hG]
  have HG : Hid (∀ W, Hid (Env W n) → Hid (Row W n l) → Hid (Tabs W) → Calls Tryd.prog 43 #[.string T, .pointer (some ⟨n + 2, 0, none⟩)] W (Out n W l G)) := Lib.hid fun W h1 h2 h3 => by
    rw [hT1, hG]; exact k_int n k hO W r l h1 h2 h3 hl (by simp only [List.length_cons] at hs; omega)
  have hk := cell_3 A0.out.env
  clear hS hO hT1 hG hc
  go_enter Tryd.func26, Tryd.ntmps26
  go_wp2
  go_region_held3 (fun W => W.cell? ⟨n + 6, 2, none⟩ = some (.func (.func 43) #[] #[.pointer (some ⟨n + 2, 0, none⟩)])) (go_keep) (first
    | (go_at_call 43; (with_reducible refine (HG.out _ (Lib.hid A0.out.drew.env) (Lib.hid A0.out.drew.row) (Lib.hid A0.out.drew.tabs)).mono ?_); rintro e w3 ⟨rfl, hs3, hr3⟩; have HO3 := Lib.hid (And.intro (A0.out.drew.step.trans hs3) hr3); have hc3 := cell_3 (A0.out.drew.env.keep hs3); clear hs3 hr3))
  all_goals
    go_wp2
    go_ret
    exact ⟨rfl, HO3.out⟩
set_option maxRecDepth 20000 in
theorem r_4 (n k : Nat) (w : World) (c : UInt8) (r : List UInt8) (l : List V) (he : Hid (Env w n)) (hr : Hid (Row w n l)) (hT : Hid (Tabs w)) (hl : l.length + k = 8) (hs : (c :: r).length ≤ 100000) (hO : OnAt n k) (hc : c.toNat = 4) : Calls Tryd.prog 26 #[.string (bs (c :: r)), .pointer (some ⟨n + 6, 0, none⟩)] w (Out n w l (reads k (c :: r))) := by
  rw [reads_kind]
  obtain ⟨S, hS⟩ : ∃ S, S = bs (c :: r) := ⟨_, rfl⟩
  rw [← hS]
  have hzm : S.size ≤ 100000 := by rw [hS, bs_size]; exact hs
  have hz : 0 < S.size := by rw [hS, bs_size]; simp
  have hz1 : (1 : Int) ≤ (S.size : Int) := by omega
  have hz2 : (0 : Int) < (S.size : Int) := by omega
  have hne : S.toList.isEmpty = false := not_empty hS
  have A0 := Lib.hid (All.first he hr hT)
  clear he hr hT
  have h0 : ((S[0]'hz).toNat : Int) = 4 := by rw [head_at S c r hS hz, hc]; rfl
  rw [hc]
  obtain ⟨T, hT1⟩ : ∃ T, T = bs r := ⟨_, rfl⟩
  have hx : S.extract 1 S.size = T := by rw [tail_at S c r hS, hT1]
  obtain ⟨G, hG⟩ : ∃ G, G = kindP k 4 r := ⟨_, rfl⟩
  rw [← hG]
  have HG : Hid (∀ W, Hid (Env W n) → Hid (Row W n l) → Hid (Tabs W) → Calls Tryd.prog 46 #[.string T, .pointer (some ⟨n + 2, 0, none⟩)] W (Out n W l G)) := Lib.hid fun W h1 h2 h3 => by
    rw [hT1, hG]; exact k_real n k hO W r l h1 h2 h3 hl (by simp only [List.length_cons] at hs; omega)
  have hk := cell_4 A0.out.env
  clear hS hO hT1 hG hc
  go_enter Tryd.func26, Tryd.ntmps26
  go_wp2
  go_region_held3 (fun W => W.cell? ⟨n + 6, 3, none⟩ = some (.func (.func 46) #[] #[.pointer (some ⟨n + 2, 0, none⟩)])) (go_keep) (first
    | (go_at_call 46; (with_reducible refine (HG.out _ (Lib.hid A0.out.drew.env) (Lib.hid A0.out.drew.row) (Lib.hid A0.out.drew.tabs)).mono ?_); rintro e w3 ⟨rfl, hs3, hr3⟩; have HO3 := Lib.hid (And.intro (A0.out.drew.step.trans hs3) hr3); have hc3 := cell_4 (A0.out.drew.env.keep hs3); clear hs3 hr3))
  all_goals
    go_wp2
    go_ret
    exact ⟨rfl, HO3.out⟩
set_option maxRecDepth 20000 in
theorem r_5 (n k : Nat) (w : World) (c : UInt8) (r : List UInt8) (l : List V) (he : Hid (Env w n)) (hr : Hid (Row w n l)) (hT : Hid (Tabs w)) (hl : l.length + k = 8) (hs : (c :: r).length ≤ 100000) (hO : OnAt n k) (hc : c.toNat = 5) : Calls Tryd.prog 26 #[.string (bs (c :: r)), .pointer (some ⟨n + 6, 0, none⟩)] w (Out n w l (reads k (c :: r))) := by
  rw [reads_kind]
  obtain ⟨S, hS⟩ : ∃ S, S = bs (c :: r) := ⟨_, rfl⟩
  rw [← hS]
  have hzm : S.size ≤ 100000 := by rw [hS, bs_size]; exact hs
  have hz : 0 < S.size := by rw [hS, bs_size]; simp
  have hz1 : (1 : Int) ≤ (S.size : Int) := by omega
  have hz2 : (0 : Int) < (S.size : Int) := by omega
  have hne : S.toList.isEmpty = false := not_empty hS
  have A0 := Lib.hid (All.first he hr hT)
  clear he hr hT
  have h0 : ((S[0]'hz).toNat : Int) = 5 := by rw [head_at S c r hS hz, hc]; rfl
  rw [hc]
  obtain ⟨T, hT1⟩ : ∃ T, T = bs r := ⟨_, rfl⟩
  have hx : S.extract 1 S.size = T := by rw [tail_at S c r hS, hT1]
  obtain ⟨G, hG⟩ : ∃ G, G = kindP k 5 r := ⟨_, rfl⟩
  rw [← hG]
  have HG : Hid (∀ W, Hid (Env W n) → Hid (Row W n l) → Hid (Tabs W) → Calls Tryd.prog 38 #[.string T, .pointer (some ⟨n + 2, 0, none⟩), .pointer (some ⟨n + 4, 0, none⟩)] W (Out n W l G)) := Lib.hid fun W h1 h2 h3 => by
    rw [hT1, hG]; exact k_text n k (n + 4) 4 (.inl ⟨rfl, rfl⟩) hO W r l h1 h2 h3 hl (by simp only [List.length_cons] at hs; omega)
  have hk := cell_5 A0.out.env
  clear hS hO hT1 hG hc
  go_enter Tryd.func26, Tryd.ntmps26
  go_wp2
  go_region_held3 (fun W => W.cell? ⟨n + 6, 4, none⟩ = some (.func (.func 38) #[] #[.pointer (some ⟨n + 2, 0, none⟩), .pointer (some ⟨n + 4, 0, none⟩)])) (go_keep) (first
    | (go_at_call 38; (with_reducible refine (HG.out _ (Lib.hid A0.out.drew.env) (Lib.hid A0.out.drew.row) (Lib.hid A0.out.drew.tabs)).mono ?_); rintro e w3 ⟨rfl, hs3, hr3⟩; have HO3 := Lib.hid (And.intro (A0.out.drew.step.trans hs3) hr3); have hc3 := cell_5 (A0.out.drew.env.keep hs3); clear hs3 hr3))
  all_goals
    go_wp2
    go_ret
    exact ⟨rfl, HO3.out⟩
set_option maxRecDepth 20000 in
theorem r_6 (n k : Nat) (w : World) (c : UInt8) (r : List UInt8) (l : List V) (he : Hid (Env w n)) (hr : Hid (Row w n l)) (hT : Hid (Tabs w)) (hl : l.length + k = 8) (hs : (c :: r).length ≤ 100000) (hO : OnAt n k) (hc : c.toNat = 6) : Calls Tryd.prog 26 #[.string (bs (c :: r)), .pointer (some ⟨n + 6, 0, none⟩)] w (Out n w l (reads k (c :: r))) := by
  rw [reads_kind]
  obtain ⟨S, hS⟩ : ∃ S, S = bs (c :: r) := ⟨_, rfl⟩
  rw [← hS]
  have hzm : S.size ≤ 100000 := by rw [hS, bs_size]; exact hs
  have hz : 0 < S.size := by rw [hS, bs_size]; simp
  have hz1 : (1 : Int) ≤ (S.size : Int) := by omega
  have hz2 : (0 : Int) < (S.size : Int) := by omega
  have hne : S.toList.isEmpty = false := not_empty hS
  have A0 := Lib.hid (All.first he hr hT)
  clear he hr hT
  have h0 : ((S[0]'hz).toNat : Int) = 6 := by rw [head_at S c r hS hz, hc]; rfl
  rw [hc]
  obtain ⟨T, hT1⟩ : ∃ T, T = bs r := ⟨_, rfl⟩
  have hx : S.extract 1 S.size = T := by rw [tail_at S c r hS, hT1]
  obtain ⟨G, hG⟩ : ∃ G, G = kindP k 6 r := ⟨_, rfl⟩
  rw [← hG]
  have HG : Hid (∀ W, Hid (Env W n) → Hid (Row W n l) → Hid (Tabs W) → Calls Tryd.prog 38 #[.string T, .pointer (some ⟨n + 2, 0, none⟩), .pointer (some ⟨n + 5, 0, none⟩)] W (Out n W l G)) := Lib.hid fun W h1 h2 h3 => by
    rw [hT1, hG]; exact k_text n k (n + 5) 5 (.inr ⟨rfl, rfl⟩) hO W r l h1 h2 h3 hl (by simp only [List.length_cons] at hs; omega)
  have hk := cell_6 A0.out.env
  clear hS hO hT1 hG hc
  go_enter Tryd.func26, Tryd.ntmps26
  go_wp2
  go_region_held3 (fun W => W.cell? ⟨n + 6, 5, none⟩ = some (.func (.func 38) #[] #[.pointer (some ⟨n + 2, 0, none⟩), .pointer (some ⟨n + 5, 0, none⟩)])) (go_keep) (first
    | (go_at_call 38; (with_reducible refine (HG.out _ (Lib.hid A0.out.drew.env) (Lib.hid A0.out.drew.row) (Lib.hid A0.out.drew.tabs)).mono ?_); rintro e w3 ⟨rfl, hs3, hr3⟩; have HO3 := Lib.hid (And.intro (A0.out.drew.step.trans hs3) hr3); have hc3 := cell_6 (A0.out.drew.env.keep hs3); clear hs3 hr3))
  all_goals
    go_wp2
    go_ret
    exact ⟨rfl, HO3.out⟩
set_option maxRecDepth 20000 in
theorem r_zero (n k : Nat) (w : World) (c : UInt8) (r : List UInt8) (l : List V) (he : Hid (Env w n)) (hr : Hid (Row w n l)) (hT : Hid (Tabs w)) (_hl : l.length + k = 8) (hs : (c :: r).length ≤ 100000) (hc : c.toNat = 0) : Calls Tryd.prog 26 #[.string (bs (c :: r)), .pointer (some ⟨n + 6, 0, none⟩)] w (Out n w l (reads k (c :: r))) := by
  rw [reads_kind]
  obtain ⟨S, hS⟩ : ∃ S, S = bs (c :: r) := ⟨_, rfl⟩
  rw [← hS]
  have hzm : S.size ≤ 100000 := by rw [hS, bs_size]; exact hs
  have hz : 0 < S.size := by rw [hS, bs_size]; simp
  have hz1 : (1 : Int) ≤ (S.size : Int) := by omega
  have hz2 : (0 : Int) < (S.size : Int) := by omega
  have hne : S.toList.isEmpty = false := not_empty hS
  have A0 := Lib.hid (All.first he hr hT)
  clear he hr hT
  have h0 : ((S[0]'hz).toNat : Int) = 0 := by rw [head_at S c r hS hz, hc]; rfl
  rw [kind_none (.inl hc)]
  clear hS hc
  go_enter Tryd.func26, Tryd.ntmps26
  go_wp2
  go_quiet (fail)
  go_wp2
  go_ret
  exact ⟨rfl, Step.of_below (below_drewN w _) A0.out.row.big, fun m hm => by cases hm⟩
set_option maxRecDepth 20000 in
theorem r_more (n k : Nat) (w : World) (c : UInt8) (r : List UInt8) (l : List V) (he : Hid (Env w n)) (hr : Hid (Row w n l)) (hT : Hid (Tabs w)) (_hl : l.length + k = 8) (hs : (c :: r).length ≤ 100000) (hc : 6 < c.toNat) : Calls Tryd.prog 26 #[.string (bs (c :: r)), .pointer (some ⟨n + 6, 0, none⟩)] w (Out n w l (reads k (c :: r))) := by
  rw [reads_kind]
  obtain ⟨S, hS⟩ : ∃ S, S = bs (c :: r) := ⟨_, rfl⟩
  rw [← hS]
  have hzm : S.size ≤ 100000 := by rw [hS, bs_size]; exact hs
  have hz : 0 < S.size := by rw [hS, bs_size]; simp
  have hz1 : (1 : Int) ≤ (S.size : Int) := by omega
  have hz2 : (0 : Int) < (S.size : Int) := by omega
  have hne : S.toList.isEmpty = false := not_empty hS
  have A0 := Lib.hid (All.first he hr hT)
  clear he hr hT
  obtain ⟨p, hp⟩ : ∃ p : Int, p = (c.toNat : Int) := ⟨_, rfl⟩
  obtain ⟨q, hq⟩ : ∃ q : Int, p - 1 = q := ⟨_, rfl⟩
  have h0 : ((S[0]'hz).toNat : Int) = p := by rw [head_at S c r hS hz, hp]
  have hlt := c.toNat_lt
  have hw : IntKind.i64.wrap p = p := by simp only [IntKind.wrap, IntKind.bits, IntKind.signed]; simp; omega
  have q0 : (0 : Int) ≤ q := by omega
  have q6 : ¬ (q < 6) := by omega
  have q9 : q < 256 := by omega
  have d0 : decide ((0 : Int) ≤ q) = true := decide_eq_true q0
  have d6 : decide (q < 6) = false := decide_eq_false q6
  rw [kind_none (.inr hc)]
  clear hS hc hp hlt
  go_enter Tryd.func26, Tryd.ntmps26
  go_wp2
  go_quiet (fail)
  go_wp2
  go_ret
  exact ⟨rfl, Step.of_below (below_drewN w _) A0.out.row.big, fun m hm => by cases hm⟩
set_option maxRecDepth 20000 in
theorem r_nil (n k : Nat) (w : World) (l : List V) (hr : Hid (Row w n l)) : Calls Tryd.prog 26 #[.string (bs []), .pointer (some ⟨n + 6, 0, none⟩)] w (Out n w l (reads k [])) := by
  rw [reads_nil]
  show Calls _ _ #[.string ⟨#[]⟩, _] _ _
  go_enter Tryd.func26, Tryd.ntmps26
  go_wp2
  go_ret
  exact ⟨rfl, Step.refl n w, fun m hm => by cases hm; rw [List.append_nil]; exact hr.out⟩
theorem rest_of (n k : Nat) (hO : OnAt n k) : RestAt n k := by
  intro w s l he hr hT hl hs
  cases s with
  | nil => exact r_nil n k w l hr
  | cons c r =>
    by_cases h0 : c.toNat = 0
    · exact r_zero n k w c r l he hr hT hl hs h0
    by_cases h1 : c.toNat = 1
    · exact r_1 n k w c r l he hr hT hl hs hO h1
    by_cases h2 : c.toNat = 2
    · exact r_2 n k w c r l he hr hT hl hs hO h2
    by_cases h3 : c.toNat = 3
    · exact r_3 n k w c r l he hr hT hl hs hO h3
    by_cases h4 : c.toNat = 4
    · exact r_4 n k w c r l he hr hT hl hs hO h4
    by_cases h5 : c.toNat = 5
    · exact r_5 n k w c r l he hr hT hl hs hO h5
    by_cases h6 : c.toNat = 6
    · exact r_6 n k w c r l he hr hT hl hs hO h6
    exact r_more n k w c r l he hr hT hl hs (by omega)
/-- The closures read as the plain reading does. -/
theorem rest_any (n : Nat) : ∀ k, RestAt n k
  | 0 => rest_of n 0 (on_any n 0 (fun j h => by omega))
  | k + 1 => rest_of n (k + 1) (on_any n (k + 1) (fun j h => by
      have : j = k := by omega
      subst this
      exact rest_any n j))
end Go.Proofs.YtbkaphcipbhmhaaDoor.Ks6
