/- The loose calls as they lie, and the contract of disk's change. -/
import Derived.Test.YtbjemekkpmbhhaaBu
import Derived.StillTailTactics
namespace Go.Proofs.Ytbjemekkpmbhhaa.Ch
open Go Go.RowKit Go.Lib Go.Proofs.Ytbjemekkpmbhhaa.Mp Go.Proofs.Ytbjemekkpmbhhaa.Dh Go.Proofs.Ytbjemekkpmbhhaa.Fm Go.Proofs.Ytbjemekkpmbhhaa.Dk Go.Proofs.Ytbjemekkpmbhhaa.Cl Go.Proofs.Ytbjemekkpmbhhaa.Bu
def pt (b : Nat) : Value := .pointer (some ⟨b, 0, none⟩)
def CmdAt (w : World) (S : Nat → Prop) (dv tv : Value) : Cmd → Prop
  | .app k s => ∃ b1 b2, dv = .func (.func 50) #[] #[pt b1, pt b2] ∧ tv = .func (.func 52) #[] #[pt b1, pt b2] ∧ At w S b1 (cap1 (.string k)) ∧ At w S b2 (cap1 (.string s))
  | .cut k n => ∃ b1 b2, dv = .func (.func 42) #[] #[pt b1, pt b2] ∧ tv = .nilFunc ∧ At w S b1 (cap1 (.string k)) ∧ At w S b2 (capn (.int .i64 n))
  | .mov _ _ => False
  | .rem k => ∃ b1, dv = .func (.func 66) #[] #[pt b1] ∧ tv = .nilFunc ∧ At w S b1 (cap1 (.string k))
theorem plain1 (v : Value) : isPlain (cap1 v) := ⟨_, _, _, rfl, by decide, by decide⟩
theorem plainn (v : Value) : isPlain (capn v) := ⟨_, _, _, rfl, by decide, by decide⟩
theorem CmdAt.keep {w w' : World} {S S' : Nat → Prop} {dv tv : Value} {c : Cmd} (h : CmdAt w S dv tv c) (hk : ∀ b v, (At w S b (cap1 v) → At w' S' b (cap1 v)) ∧ (At w S b (capn v) → At w' S' b (capn v))) : CmdAt w' S' dv tv c := by
  cases c with
  | app k s => obtain ⟨b1, b2, e1, e2, h1, h2⟩ := h; exact ⟨b1, b2, e1, e2, (hk _ _).1 h1, (hk _ _).1 h2⟩
  | cut k n => obtain ⟨b1, b2, e1, e2, h1, h2⟩ := h; exact ⟨b1, b2, e1, e2, (hk _ _).1 h1, (hk _ _).2 h2⟩
  | mov j k => exact h.elim
  | rem k => obtain ⟨b1, e1, e2, h1⟩ := h; exact ⟨b1, e1, e2, (hk _ _).1 h1⟩
def Enters (f : FuncId) : Prop := ∀ (args : Array Value) (W : World), (callFunc f args).run Try.prog W = .ok (.enter f args) W
/-- The call as its closure does it, to the files on one side. -/
theorem do_cmd {S : Nat → Prop} {w : World} {p : Nat} {d : Dsk} (b : Bool) (h : DskAt w S p d) (c : Cmd) (hok : Cmd.ok (view (d.es b)) c) (hu : used (view (d.es b)) ≤ 16777216) {dv tv : Value} (hc : CmdAt w S dv tv c) :
    ∃ f caps, dv = .func (.func f) #[] caps ∧ Enters f ∧ Calls Try.prog f (#[.pointer (some ⟨p, off b, none⟩)] ++ caps) w fun e w' => e = .returned (.tuple #[]) ∧ Did S w w' p d b c := by
  cases c with
  | app k s => obtain ⟨b1, b2, rfl, _, h1, h2⟩ := hc; exact ⟨_, _, rfl, fun _ _ => by go_simp, do_app b h k s hok b1 b2 h1.2 h2.2⟩
  | cut k n => obtain ⟨b1, b2, rfl, _, h1, h2⟩ := hc; exact ⟨_, _, rfl, fun _ _ => by go_simp, do_cut b h k n hok hu b1 b2 h1.2 h2.2⟩
  | mov j k => exact hc.elim
  | rem k => obtain ⟨b1, rfl, _, h1⟩ := hc; exact ⟨_, _, rfl, fun _ _ => by go_simp, do_rem b h k hu b1 h1.2⟩
def LooseAt (w : World) (S : Nat → Prop) (lv : Value) (l : List Cmd) : Prop :=
  (lv = .slice none 0 0 ∧ l = []) ∨
  ∃ b cap cs, lv = .slice (some ⟨b, 0, none⟩) l.length cap ∧ At w S b (.cells cs 64 (0, 0)) ∧ l.length ≤ cap ∧ cap ≤ maxLen ∧ cs.size = cap * 2 ∧
    ∀ i (h : i < l.length), ∃ dv tv, cs[i * 2]? = some dv ∧ cs[i * 2 + 1]? = some tv ∧ CmdAt w S dv tv l[i]
theorem LooseAt.keep {w w' : World} {S S' : Nat → Prop} {lv : Value} {l : List Cmd} (h : LooseAt w S lv l) (hk : ∀ b o, isPlain o → At w S b o → At w' S' b o) : LooseAt w' S' lv l := by
  rcases h with h | ⟨b, cap, cs, e1, h1, h2, h3, h4, h5⟩
  · exact .inl h
  · refine .inr ⟨b, cap, cs, e1, hk _ _ ⟨_, _, _, rfl, by decide, by decide⟩ h1, h2, h3, h4, fun i hi => ?_⟩
    obtain ⟨dv, tv, x1, x2, x3⟩ := h5 i hi
    exact ⟨dv, tv, x1, x2, x3.keep fun b v => ⟨hk _ _ (plain1 v), hk _ _ (plainn v)⟩⟩
theorem Ran.keepPlain {S : Nat → Prop} {w w' : World} {p : Nat} {d : Dsk} (h : Ran S w w' p d) : ∀ b o, isPlain o → At w S b o → At w' (grow S w w') b o := fun b o ho ha => ⟨.inl ha.1, h.plain b o ho ha.2⟩
theorem change_down {S : Nat → Prop} {w : World} {p : Nat} {d : Dsk} (h : DskAt w S p d) (hf : -1 ≤ d.fuse ∧ d.fuse ≤ 9223372036854775807) (dv tv : Value) (hb : (burn d).1 = 20) :
    Calls Try.prog 41 #[.pointer (some ⟨p, 0, none⟩), .agg #[dv, tv]] w fun e w' => e = .returned (.int .i64 20) ∧ Ran S w w' p (burn d).2 := by
  have ra := DskAt.alloc h (.cells #[dv, tv] 64)
  have HB := burn_any ra.at_ hf
  rw [hb] at HB
  have HC := Lib.hid HB
  have HR := Lib.hid ra
  clear HB h ra hb
  go_enter Try.func41, Try.ntmps41
  go_wp2_with (go_at_call 44; refine HC.out.mono ?_; rintro e w1 ⟨rfl, hr⟩; have HD := Lib.hid hr; clear hr)
  go_ret
  exact ⟨rfl, Ran.trans HR.out HD.out⟩
end Go.Proofs.Ytbjemekkpmbhhaa.Ch
