/- The contracts of value.RowLess and value.Same, over rows that came in, or that the call made. -/
import Derived.Test.YthoiolihkomgmaaDoorVn
import Derived.Deep.QuietTactic
import Derived.BigQuiet
import Derived.Deep.RegionHeld3
import Derived.Deep.DrawnRows
namespace Go.Proofs.YthoiolihkomgmaaDoor.Vr
open Go Go.RowKit Go.Proofs.YthoiolihkomgmaaDoor.Vm Go.Proofs.YthoiolihkomgmaaDoor.Vl
/-- The four cells of a value. -/
def Four (w : World) (b o : Nat) (v : V) : Prop :=
  w.cell? ⟨b, o, none⟩ = some (.int .u8 v.k) ∧ w.cell? ⟨b, o + 1, none⟩ = some (.int .i64 v.n) ∧ w.cell? ⟨b, o + 2, none⟩ = some (.int .u64 (v.r : Int)) ∧ w.cell? ⟨b, o + 3, none⟩ = some (.string v.s)
/-- The slice at A reads as the row l. -/
def Reads (w : World) (A : Option Addr) (l : List V) : Prop :=
  l ≠ [] → ∃ b o, A = some ⟨b, o, none⟩ ∧ b < w.heap.size ∧ ∀ k (h : k < l.length), Four w b (o + k * 4) l[k]
theorem Reads.nil (w : World) (A : Option Addr) : Reads w A [] := fun h => absurd rfl h
theorem Reads.keep {w w' : World} {A : Option Addr} {l : List V} (h : Reads w A l) (hb : Below w.heap.size w w') : Reads w' A l := fun hl => by
  obtain ⟨b, o, rfl, hlt, hc⟩ := h hl
  refine ⟨b, o, rfl, by have := hb.size; omega, fun k hk => ?_⟩
  obtain ⟨c0, c1, c2, c3⟩ := hc k hk
  exact ⟨(hb.cell (p := ⟨b, o + k * 4, none⟩) hlt).trans c0, (hb.cell (p := ⟨b, o + k * 4 + 1, none⟩) hlt).trans c1, (hb.cell (p := ⟨b, o + k * 4 + 2, none⟩) hlt).trans c2, (hb.cell (p := ⟨b, o + k * 4 + 3, none⟩) hlt).trans c3⟩
theorem Reads.at_ {w : World} {A : Option Addr} {l : List V} (h : Reads w A l) {k : Nat} (hk : k < l.length) : ∃ b o, A = some ⟨b, o, none⟩ ∧ Four w b (o + k * 4) l[k] := by
  obtain ⟨b, o, e, _, hc⟩ := h (fun h0 => by rw [h0] at hk; simp at hk)
  exact ⟨b, o, e, hc k hk⟩
theorem run_neq' (k k' n n' : Int) (r r' : Nat) (s s' : ByteArray) (w : World) :
    (binOp .neq 24 (.agg #[.int .u8 k, .int .i64 n, .int .u64 (r : Int), .string s]) (.agg #[.int .u8 k', .int .i64 n', .int .u64 (r' : Int), .string s'])).run Tryd.prog w = .ok (.bool (!eqv ⟨k, n, r, s⟩ ⟨k', n', r', s'⟩)) w :=
  Ve.run_neq ⟨k, n, r, s⟩ ⟨k', n', r', s'⟩ w
def Lens (l m : List V) : Prop := l.length ≤ 140737488351232 ∧ m.length ≤ 140737488351232
theorem below_drewN (w : World) : ∀ n, Below w.heap.size w (w.drewN n)
  | 0 => Below.refl _ _
  | n + 1 => (below_drewN w n).drew
theorem hb_drewN {w w' : World} (h : Hid (Below w.heap.size w w')) (n : Nat) : Below w.heap.size w (w'.drewN n) :=
  h.out.trans ((below_drewN w' n).mono h.out.size)
/-- Behind draws and a call. -/
theorem chain {w wr W0 w1 : World} (hb : Hid (Below w.heap.size w wr)) (h1 : Below W0.heap.size W0 w1) (h0 : Below wr.heap.size wr W0) : Hid (Below w.heap.size w w1) :=
  Lib.hid (hb.out.trans ((h0.trans (h1.mono h0.size)).mono hb.out.size))
theorem drop_nil (m : List V) (k M : Nat) (hM : M = m.length) {j : Nat} (hk : k = j) : rowLess [] (m.drop j) = decide (k < M) := by
  subst hk hM
  cases h : m.drop k with
  | nil => have := List.drop_eq_nil_iff.1 h; rw [decide_eq_false (by omega)]; rfl
  | cons b t =>
    have : ¬ m.length ≤ k := fun hc => by rw [List.drop_eq_nil_iff.2 hc] at h; cases h
    rw [decide_eq_true (by omega)]; rfl
theorem drop_cons (l : List V) (j : Nat) (hj : j < l.length) : rowLess (l.drop j) [] = false := by
  rw [List.drop_eq_getElem_cons hj]; rfl
end Go.Proofs.YthoiolihkomgmaaDoor.Vr
