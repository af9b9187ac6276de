/- The reader of package code: what it takes of what is left; where it gives up it panics. -/
import Derived.Test.YthoiolihkomgmaaDoorProg
import Derived.Test.YthoiolihkomgmaaDoorCm0
import Derived.Test.YthoiolihkomgmaaDoorGet
import Derived.WalkKit
import Derived.WalkLawsBesides
import Derived.OneCell
import Derived.Recover
import Derived.Lib.Hide
namespace Go.Proofs.YthoiolihkomgmaaDoor.Rd5
open Go Go.RowKit Go.Proofs.YthoiolihkomgmaaDoor.Wm Go.Proofs.YthoiolihkomgmaaDoor.Cm
/-- The reader in block B has l left. -/
def Rd (w : World) (B : Nat) (l : List UInt8) : Prop := w.heap[B]? = some (.cells #[.string (bs l)] 72 (0, 0))
theorem Rd.cell {w : World} {B : Nat} {l : List UInt8} (h : Rd w B l) : w.cell? ⟨B, 0, none⟩ = some (.string (bs l)) := cell_of_one h
theorem Rd.soft {w : World} {B : Nat} {l : List UInt8} (h : Rd w B l) : w.frozen? ⟨B, 0, none⟩ = false := free_of_one h
theorem Rd.set {w : World} {B : Nat} {l : List UInt8} (h : Rd w B l) (m : List UInt8) : Rd (w.setCell ⟨B, 0, none⟩ (.string (bs m))) B m := one_setCell h
theorem Rd.lt {w : World} {B : Nat} {l : List UInt8} (h : Rd w B l) : B < w.heap.size := lt_of_block h
/-- Nothing but block B was touched. -/
abbrev Only (B : Nat) (w w' : World) : Prop := w.grownBy w' (some B)
theorem Only.refl (B : Nat) (w : World) : Only B w w := ⟨rfl, rfl, rfl, Nat.le_refl _, fun _ _ _ => rfl⟩
theorem Only.set (B : Nat) (w : World) (v : Value) : Only B w (w.setCell ⟨B, 0, none⟩ v) :=
  ⟨rfl, rfl, rfl, by simp [World.setCell], fun k _ hn => Below.heap_setCell _ _ _ _ (fun e => hn (by rw [e]))⟩
theorem Only.trans {B : Nat} {a b c : World} (h : Only B a b) (k : Only B b c) : Only B a c :=
  ⟨k.os.trans h.os, k.tape.trans h.tape, k.output.trans h.output, Nat.le_trans h.size k.size, fun i hi hn => (k.block i (Nat.lt_of_lt_of_le hi h.size) hn).trans (h.block i hi hn)⟩
theorem Only.of_below {B : Nat} {w w' : World} (h : Below w.heap.size w w') : Only B w w' := ⟨h.os, h.tape, h.output, h.size, fun k hk _ => h.block k hk⟩
theorem Rd.keep {w w' : World} {B : Nat} {l : List UInt8} (h : Rd w B l) (hb : Below w.heap.size w w') : Rd w' B l := (hb.block B h.lt).trans h
/-- The panic with which a reading ends. -/
def gave (c : Int) : List PanicEntry := [{ v := .iface 70 (.agg #[.int .i64 c]), recovered := false }]
def Outc {α : Type} (B : Nat) (w : World) (g : Got α) (mk : α → Value) (e : Ending) (w' : World) : Prop :=
  match g with
  | .ok a r => e = .returned (mk a) ∧ Rd w' B r ∧ Only B w w'
  | .bad c => e = .panicked (gave c) ∧ Only B w w'
theorem give_up (c : Int) (w : World) : Calls Tryd.prog 44 #[.int .i64 c] w fun e w' => e = .panicked (gave c) ∧ w = w' := by
  go_enter Tryd.func44, Tryd.ntmps44
  go_wp2
  exact ⟨rfl, rfl, rfl⟩
theorem ret_s {a b : ByteArray} (h : a = b) : Ending.returned (.string a) = Ending.returned (.string b) := by rw [h]
theorem rd_set {w : World} {B : Nat} {s : ByteArray} {m : List UInt8} (h : s = bs m) (k : Rd (w.setCell ⟨B, 0, none⟩ (.string (bs m))) B m) : Rd (w.setCell ⟨B, 0, none⟩ (.string s)) B m := by rw [h]; exact k
theorem take_ok {w : World} {B : Nat} {l : List UInt8} (n : Nat) (h : Rd w B l) (hn : n ≤ l.length) (hl : l.length ≤ 9223372036854775807) :
    Calls Tryd.prog 51 #[.pointer (some ⟨B, 0, none⟩), .int .i64 (n : Int)] w fun e w' => e = .returned (.string (bs (l.take n))) ∧ Rd w' B (l.drop n) ∧ Only B w w' := by
  have hc := h.cell
  have hz := h.soft
  have hs : (bs l).size = l.length := bs_size l
  have H := Lib.hid h
  clear h
  obtain ⟨S, hS⟩ : ∃ S, S = bs l := ⟨_, rfl⟩
  rw [← hS] at hc hs
  have HS := Lib.hid hS
  clear hS
  have h1 : n ≤ S.size := by omega
  have h2 : S.size ≤ 9223372036854775807 := by omega
  go_enter Tryd.func51, Tryd.ntmps51
  go_wp2
  go_ret
  obtain rfl := HS.out
  exact ⟨ret_s (bs_take l n), rd_set (bs_drop l n) (H.out.set _), Only.set _ _ _⟩
theorem take_bad {w : World} {B : Nat} {l : List UInt8} (n : Nat) (h : Rd w B l) (hn : l.length < n) :
    Calls Tryd.prog 51 #[.pointer (some ⟨B, 0, none⟩), .int .i64 (n : Int)] w fun e w' => e = .panicked (gave 6) ∧ Only B w w' := by
  have hc := h.cell
  have hz := h.soft
  have hs : (bs l).size = l.length := bs_size l
  obtain ⟨S, hS⟩ : ∃ S, S = bs l := ⟨_, rfl⟩
  rw [← hS] at hc hs
  clear hS h
  have h1 : S.size < n := by omega
  go_enter Tryd.func51, Tryd.ntmps51
  go_wp2_with (go_at_call 44; refine (give_up _ _).mono ?_; rintro e w1 ⟨rfl, rfl⟩)
  exact ⟨rfl, rfl, Only.refl _ _⟩
theorem number_ok {w : World} {B : Nat} {l : List UInt8} (n : Nat) (h : Rd w B l) (h1 : 1 ≤ n) (h8 : n ≤ 8) (hn : n ≤ l.length) (hl : l.length ≤ 9223372036854775807) :
    Calls Tryd.prog 40 #[.pointer (some ⟨B, 0, none⟩), .int .i64 (n : Int)] w fun e w' => e = .returned (.int .u64 (getL (l.take n) : Int)) ∧ Rd w' B (l.drop n) ∧ Only B w w' := by
  have hg := fun W => WGet.ok (bs (l.take n)) W (by rw [bs_size, List.length_take]; omega) (by rw [bs_size, List.length_take]; omega)
  rw [bs_list] at hg
  have H := Lib.hid h; have HN := Lib.hid hn; have HL := Lib.hid hl
  clear h hn hl
  go_enter Tryd.func40, Tryd.ntmps40
  go_wp2_with (first
    | (go_at_call 51; refine (take_ok n H.out HN.out HL.out).mono ?_; rintro e w1 ⟨rfl, hr, ho⟩; have HR := Lib.hid hr; have HO := Lib.hid ho; clear hr ho)
    | (go_at_call 50; refine (hg _).mono ?_; rintro e w2 ⟨rfl, rfl⟩))
  go_ret
  exact ⟨rfl, HR.out, HO.out⟩
theorem number_bad {w : World} {B : Nat} {l : List UInt8} (n : Nat) (h : Rd w B l) (hn : l.length < n) :
    Calls Tryd.prog 40 #[.pointer (some ⟨B, 0, none⟩), .int .i64 (n : Int)] w fun e w' => e = .panicked (gave 6) ∧ Only B w w' := by
  have H := Lib.hid h; have HN := Lib.hid hn
  clear h hn
  go_enter Tryd.func40, Tryd.ntmps40
  go_wp2_with (go_at_call 51; refine (take_bad n H.out HN.out).mono ?_; rintro e w1 ⟨rfl, ho⟩)
  exact ⟨rfl, rfl, ho⟩
end Go.Proofs.YthoiolihkomgmaaDoor.Rd5
