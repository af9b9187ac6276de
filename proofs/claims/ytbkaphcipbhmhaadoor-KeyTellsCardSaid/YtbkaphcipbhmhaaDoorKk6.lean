/- key.Get's readings of the kinds: Null, Bool. -/
import Derived.Test.YtbkaphcipbhmhaaDoorKo6
import Derived.Deep.RegionHeld3
import Derived.Deep.QuietTactic
namespace Go.Proofs.YtbkaphcipbhmhaaDoor.Kk6
open Go Go.RowKit Go.Proofs.YtbkaphcipbhmhaaDoor.Wm Go.Proofs.YtbkaphcipbhmhaaDoor.Cm Go.Proofs.YtbkaphcipbhmhaaDoor.Vm Go.Proofs.YtbkaphcipbhmhaaDoor.Vr Go.Proofs.YtbkaphcipbhmhaaDoor.Vs Go.Proofs.YtbkaphcipbhmhaaDoor.Vc Go.Proofs.YtbkaphcipbhmhaaDoor.Vh Go.Proofs.YtbkaphcipbhmhaaDoor.Vk Go.Proofs.YtbkaphcipbhmhaaDoor.Kl6 Go.Proofs.YtbkaphcipbhmhaaDoor.Km6 Go.Proofs.YtbkaphcipbhmhaaDoor.Bu6 Go.Proofs.YtbkaphcipbhmhaaDoor.Kn6 Go.Proofs.YtbkaphcipbhmhaaDoor.Kg6 Go.Proofs.YtbkaphcipbhmhaaDoor.Ko6
/-- What is told of a kind's bytes. -/
def kindP (k c : Nat) (s : List UInt8) : Option (List V) := match oneOf (cutT []) c s with | none => none | some (v, r) => onP k v r
/-- How the closures call on: as one fact. -/
def Goes (n : Nat) (l : List V) (kk nn R : Int) (t S : ByteArray) (g : Option (List V)) : Prop := ∀ W, Hid (Env W n) → Hid (Row W n l) → Hid (Tabs W) → Calls Tryd.prog 25 #[.agg #[.int .u8 kk, .int .i64 nn, .int .u64 R, .string t], .string S, .pointer (some ⟨n, 0, none⟩), .pointer (some ⟨n + 1, 0, none⟩)] W (Out n W l g)
theorem goes {n k : Nat} (hO : OnAt n k) {l : List V} {kk nn R : Int} {r : Nat} {t : ByteArray} {s : List UInt8} {S : ByteArray} {g : Option (List V)} (hS : S = bs s) (hl : l.length + k = 8) (hs : s.length ≤ 100000) (hr : (r : Int) = R) (hv : V.ok ⟨kk, nn, r, t⟩) (hg : g = onP k ⟨kk, nn, r, t⟩ s) : Goes n l kk nn R t S g := fun W h1 h2 h3 => by
  subst hS; subst hr; subst hg; exact hO W ⟨kk, nn, r, t⟩ s l h1 h2 h3 hl hs hv
theorem on_cell {w : World} {n : Nat} (h : Env w n) : w.cell? ⟨n + 2, 0, none⟩ = some (.func (.func 25) #[] #[.pointer (some ⟨n, 0, none⟩), .pointer (some ⟨n + 1, 0, none⟩)]) := cell_of_one h.on
theorem nv_ok : nv.ok := ok_of (by omega) (by omega) (by omega) (by omega) (by omega) size0
/-- All that a world behind a call, or a draw, keeps. -/
structure All (n : Nat) (w0 w : World) (l : List V) : Prop where
  env : Env w n
  row : Row w n l
  tabs : Tabs w
  step : Step n w0 w
theorem All.first {n : Nat} {w : World} {l : List V} (he : Hid (Env w n)) (hr : Hid (Row w n l)) (hT : Hid (Tabs w)) : All n w w l := ⟨he.out, hr.out, hT.out, Step.refl n w⟩
theorem All.below {n : Nat} {w0 w w' : World} {l : List V} (h : All n w0 w l) (hb : Below w.heap.size w w') : All n w0 w' l :=
  ⟨h.env.keep (Step.of_below hb h.row.big), h.row.keep hb, h.tabs.keep hb, h.step.trans (Step.of_below hb h.row.big)⟩
theorem All.drew {n : Nat} {w0 w : World} {l : List V} (h : All n w0 w l) : All n w0 w.drew l := h.below (Below.refl _ _).drew
set_option maxRecDepth 20000 in
theorem k_null (n k : Nat) (hO : OnAt n k) (w : World) (s : List UInt8) (l : List V) (he : Hid (Env w n)) (hr : Hid (Row w n l)) (hT : Hid (Tabs w)) (hl : l.length + k = 8) (hs : s.length ≤ 100000) :
    Calls Tryd.prog 40 #[.string (bs s), .pointer (some ⟨n + 2, 0, none⟩)] w (Out n w l (kindP k 1 s)) := by
  show Calls _ _ _ _ (Out n w l (onP k nv s))
  obtain ⟨S, hS⟩ : ∃ S, S = bs s := ⟨_, rfl⟩
  rw [← hS]
  obtain ⟨G, hG⟩ : ∃ G, G = onP k nv s := ⟨_, rfl⟩
  rw [← hG]
  have HG : Hid (Goes n l 0 0 0 ⟨#[]⟩ S G) := Lib.hid (goes (r := 0) hO hS hl hs rfl nv_ok hG)
  clear hS hO hG
  unfold Goes at HG
  have A0 := Lib.hid (All.first he hr hT)
  have hc := on_cell he.out
  have hcd : w.drew.cell? ⟨n + 2, 0, none⟩ = some (.func (.func 25) #[] #[.pointer (some ⟨n, 0, none⟩), .pointer (some ⟨n + 1, 0, none⟩)]) := hc
  have HNl : Hid (∀ W, Calls Tryd.prog 41 #[] W fun e w' => e = .returned (.agg #[.int .u8 0, .int .i64 0, .int .u64 0, .string ⟨#[]⟩]) ∧ Below W.heap.size W w') := Lib.hid fun W => null_any W
  clear he hr hT
  go_enter Tryd.func40, Tryd.ntmps40
  go_wp2
  go_region_held3 (fun W => W.cell? ⟨n + 2, 0, none⟩ = some (.func (.func 25) #[] #[.pointer (some ⟨n, 0, none⟩), .pointer (some ⟨n + 1, 0, none⟩)])) (go_keep) (first
    | (go_at_call 41; (with_reducible refine (HNl.out _).mono ?_); rintro e w2 ⟨rfl, hb2⟩; have A1 := Lib.hid (A0.out.drew.below hb2); have hc2 := on_cell A1.out.env; clear hb2)
    | (go_at_call 25; (with_reducible refine (HG.out _ (Lib.hid A1.out.env) (Lib.hid A1.out.row) (Lib.hid A1.out.tabs)).mono ?_); rintro e w3 ⟨rfl, hs3, hr3⟩; have HO3 := Lib.hid (And.intro (A1.out.step.trans hs3) hr3); have hc3 := on_cell (A1.out.env.keep hs3); clear hs3 hr3))
  all_goals
    go_wp2
    go_ret
    exact ⟨rfl, HO3.out⟩
theorem not_empty {S : ByteArray} {c : UInt8} {r : List UInt8} (h : S = bs (c :: r)) : S.toList.isEmpty = false := by
  rw [ByteArray.toList_eq, h]; rfl
theorem head_at (S : ByteArray) (c : UInt8) (r : List UInt8) (h : S = bs (c :: r)) (hz : 0 < S.size) : S[0]'hz = c := by subst h; rfl
theorem tail_at (S : ByteArray) (c : UInt8) (r : List UInt8) (h : S = bs (c :: r)) : S.extract 1 S.size = bs r := by
  subst h; exact bs_drop (c :: r) 1
set_option maxRecDepth 20000 in
theorem k_bool (n k : Nat) (hO : OnAt n k) (w : World) (s : List UInt8) (l : List V) (he : Hid (Env w n)) (hr : Hid (Row w n l)) (hT : Hid (Tabs w)) (hl : l.length + k = 8) (hs : s.length ≤ 100000) :
    Calls Tryd.prog 42 #[.string (bs s), .pointer (some ⟨n + 2, 0, none⟩)] w (Out n w l (kindP k 2 s)) := by
  cases s with
  | nil =>
    show Calls _ _ #[.string ⟨#[]⟩, _] _ (Out n w l none)
    have A0 := Lib.hid (All.first he hr hT)
    clear he hr hT
    go_enter Tryd.func42, Tryd.ntmps42
    go_wp2
    go_quiet (fail)
    go_wp2
    go_ret
    exact ⟨rfl, Step.of_below (below_drewN w _) A0.out.row.big, fun m hm => by cases hm⟩
  | cons c r =>
    show Calls _ _ _ _ (Out n w l (onP k ⟨1, (c.toNat : Int), 0, ⟨#[]⟩⟩ r))
    obtain ⟨S, hS⟩ : ∃ S, S = bs (c :: r) := ⟨_, rfl⟩
    rw [← hS]
    have hz : 0 < S.size := by rw [hS, bs_size]; simp
    have hz1 : (1 : Int) ≤ (S.size : Int) := by omega
    have hz2 : (0 : Int) < (S.size : Int) := by omega
    have hzm : S.size ≤ 100001 := by rw [hS, bs_size]; simp only [List.length_cons] at hs ⊢; omega
    obtain ⟨q, hq⟩ : ∃ q : Int, q = (c.toNat : Int) := ⟨_, rfl⟩
    have hwr : IntKind.i64.wrap q = q := by
      have := c.toNat_lt
      rw [hq]; simp only [IntKind.wrap, IntKind.bits, IntKind.signed]; simp; omega
    have h0 : ((S[0]'hz).toNat : Int) = q := by rw [head_at S c r hS hz, hq]
    obtain ⟨T, hT1⟩ : ∃ T, T = bs r := ⟨_, rfl⟩
    have hx : S.extract 1 S.size = T := by rw [tail_at S c r hS, hT1]
    obtain ⟨G, hG⟩ : ∃ G, G = onP k ⟨1, (c.toNat : Int), 0, ⟨#[]⟩⟩ r := ⟨_, rfl⟩
    rw [← hG]
    have HG : Hid (Goes n l 1 q 0 ⟨#[]⟩ T G) := Lib.hid (goes (r := 0) hO hT1 hl (by simp only [List.length_cons] at hs; omega) rfl (by rw [hq]; have := c.toNat_lt; exact ok_of (by omega) (by omega) (by omega) (by omega) (by omega) size0) (by rw [hG, hq]))
    have hne : S.toList.isEmpty = false := not_empty hS
    clear hS hO hG hq hT1
    unfold Goes at HG
    have A0 := Lib.hid (All.first he hr hT)
    have hc := on_cell he.out
    clear he hr hT
    go_enter Tryd.func42, Tryd.ntmps42
    go_wp2
    go_region_held3 (fun W => W.cell? ⟨n + 2, 0, none⟩ = some (.func (.func 25) #[] #[.pointer (some ⟨n, 0, none⟩), .pointer (some ⟨n + 1, 0, none⟩)])) (go_keep)
      (first
    | (go_at_call 25; (with_reducible refine (HG.out _ (Lib.hid A0.out.drew.env) (Lib.hid A0.out.drew.row) (Lib.hid A0.out.drew.tabs)).mono ?_); rintro e w3 ⟨rfl, hs3, hr3⟩; have HO3 := Lib.hid (And.intro (A0.out.drew.step.trans hs3) hr3); have hc3 := on_cell (A0.out.drew.env.keep hs3); clear hs3 hr3))
    all_goals
      go_wp2
      go_ret
      exact ⟨rfl, HO3.out⟩
end Go.Proofs.YtbkaphcipbhmhaaDoor.Kk6
