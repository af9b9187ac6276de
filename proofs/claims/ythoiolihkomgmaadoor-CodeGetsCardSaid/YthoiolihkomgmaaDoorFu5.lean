/- utf8.FullRuneInString: whether bytes begin with a whole letter, or with none. -/
import Derived.Test.YthoiolihkomgmaaDoorSh5
import Derived.Deep.DrawnRows
import Derived.Deep.RegionHeld3
import Derived.Laws.BitsLemmas
import Derived.Deep.QuietTactic
import Derived.BigQuiet
namespace Go.Proofs.YthoiolihkomgmaaDoor.Fu5
open Go Go.RowKit Go.Proofs Go.Proofs.YthoiolihkomgmaaDoor.Vs Go.Proofs.YthoiolihkomgmaaDoor.Cm
theorem Tabs.first {w : World} (h : Tabs w) (c : UInt8) : w.cell? ⟨0, c.toNat, none⟩ = some (.int .u8 (Lib.firstT c.toNat)) := h.1 c.toNat c.toNat_lt
theorem Tabs.acc {w : World} (h : Tabs w) (i : Nat) (hi : i < 16) : w.cell? ⟨1, 2 * i, none⟩ = some (.int .u8 (Lib.accLo i)) ∧ w.cell? ⟨1, 2 * i + 1, none⟩ = some (.int .u8 (Lib.accHi i)) := h.2 i hi
/-- The empty text. -/
theorem full_nil (w : World) : Calls Tryd.prog 53 #[.string ⟨#[]⟩] w fun e w' => e = .returned (.bool false) ∧ w = w' := by
  go_enter Tryd.func53, Tryd.ntmps53
  go_wp2
  go_ret
  exact ⟨rfl, rfl⟩
/-- A whole letter, or a byte that begins none: as many bytes as the table says are there. -/
theorem full_len {S : ByteArray} {w : World} (x0 : UInt8) (h0 : 0 < S.size) (hx : S[0]'h0 = x0) (hT : Tabs w) (hn : Lib.firstT x0.toNat % 8 ≤ S.size) (hm : S.size ≤ 9223372036854775807) :
    Calls Tryd.prog 53 #[.string S] w fun e w' => e = .returned (.bool true) ∧ w = w' := by
  have hc := Tabs.first hT x0
  have h0z : (0 : Int) < (S.size : Int) := by omega
  have hlt := x0.toNat_lt
  have hF : Lib.firstT x0.toNat < 256 := by rcases Lib.firstT_cases x0.toNat with h | h | h | h | h | h | h | h | h <;> omega
  have h7 := and7 ⟨Lib.firstT x0.toNat, hF⟩
  simp only at h7
  obtain ⟨f, hf⟩ : ∃ f, f = Lib.firstT x0.toNat := ⟨_, rfl⟩
  rw [← hf] at hc hn h7
  clear hf hF hT
  go_enter Tryd.func53, Tryd.ntmps53
  go_wp2
  go_ret
  exact ⟨rfl, rfl⟩
def sh (n b1 b2 lo hi : Nat) : Bool := (decide (1 < n) && (decide (b1 < lo) || decide (hi < b1))) || (decide (2 < n) && (decide (b2 < 128) || decide (191 < b2)))
/-- What a short text is: n bytes, the second and third of them. -/
structure Sh (S : ByteArray) (n : Nat) (x0 x1 x2 : UInt8) (f : Nat) (w : World) : Prop where
  size : S.size = n
  pos : 0 < n
  b0 : ∀ h : 0 < S.size, S[0]'h = x0
  b1 : ∀ h : 1 < S.size, S[1]'h = x1
  b2 : ∀ h : 2 < S.size, S[2]'h = x2
  fst : w.cell? ⟨0, x0.toNat, none⟩ = some (.int .u8 (f : Int))
  lo : w.cell? ⟨1, 2 * (f / 16), none⟩ = some (.int .u8 (Lib.accLo (f / 16)))
  hi : w.cell? ⟨1, 2 * (f / 16) + 1, none⟩ = some (.int .u8 (Lib.accHi (f / 16)))
def Ends (w : World) (r : Bool) (e : Ending) (w' : World) : Prop := e = .returned (.bool r) ∧ Below w.heap.size w w'
theorem below_q (w : World) (o : Obj) (n : Nat) : Below w.heap.size w ((w.alloc o).drewN n) := by
  induction n with
  | zero => exact (Below.refl _ _).alloc (Nat.le_refl _) _
  | succ n ih => exact ih.drew
end Go.Proofs.YthoiolihkomgmaaDoor.Fu5
