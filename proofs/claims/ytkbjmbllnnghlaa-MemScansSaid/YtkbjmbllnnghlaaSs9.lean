/- A mem over a walk: each call's contract in one form. -/
import Derived.Test.YtkbjmbllnnghlaaRq9
namespace Go.Proofs.Ytkbjmbllnnghlaa.Ss9
open Go Go.RowKit Go.Proofs.Ytkbjmbllnnghlaa.Pm9 Go.Proofs.Ytkbjmbllnnghlaa.Wd9 Go.Proofs.Ytkbjmbllnnghlaa.Mt9 Go.Proofs.Ytkbjmbllnnghlaa.Mm9 Go.Proofs.Ytkbjmbllnnghlaa.Mg9 Go.Proofs.Ytkbjmbllnnghlaa.Sn9 Go.Proofs.Ytkbjmbllnnghlaa.Rd9 Go.Proofs.Ytkbjmbllnnghlaa.Rg9 Go.Proofs.Ytkbjmbllnnghlaa.Rq9
/-- A mem of the walk's own at p, behind what came in at w0, below n0. -/
structure Ses (n0 : Nat) (w0 : World) (S : Nat → Prop) (p : Nat) (l : List Pr) (W : World) : Prop where
  mem : ∃ t, MemAt W S p l t
  lo : ∀ b, S b → n0 ≤ b ∧ b < W.heap.size
  below : Below n0 w0 W
  base : n0 ≤ w0.heap.size
section
variable {n0 : Nat} {w0 W W' : World} {S : Nat → Prop} {p : Nat} {l : List Pr}
theorem Ses.size (h : Ses n0 w0 S p l W) : n0 ≤ W.heap.size := by have := h.below.size; have := h.base; omega
theorem Ses.keep (h : Ses n0 w0 S p l W) (hb : Below W.heap.size W W') : Ses n0 w0 S p l W' := by
  obtain ⟨t, ht⟩ := h.mem
  exact ⟨⟨t, ht.keep fun b _ hl => hb.block b hl⟩, fun b hS => ⟨(h.lo b hS).1, by have := (h.lo b hS).2; have := hb.size; omega⟩, h.below.trans (hb.mono h.size), h.base⟩
theorem Ses.grown (h : Ses n0 w0 S p l W) {l' : List Pr} (hm : ∃ t, MemAt W' (grow S W W') p l' t) (ht : Tread S W W') : Ses n0 w0 (grow S W W') p l' W' := by
  refine ⟨hm, fun b hS => ?_, h.below.trans (ht.below h.size fun i hi => (h.lo i hi).1), h.base⟩
  rcases hS with hS | hS
  · have := h.lo b hS; have := ht.size; omega
  · have := h.size; omega
theorem s_new (hb : Below n0 w0 W) (hn : n0 ≤ w0.heap.size) : Calls Try.prog 8 #[] W fun e w' => e = .returned (.pointer (some ⟨W.heap.size, 0, none⟩)) ∧ Ses n0 w0 (grow (fun _ => False) W w') W.heap.size [] w' ∧ Below W.heap.size W w' := by
  refine (new_any W).mono fun e w' x => ⟨x.1, ⟨⟨_, x.2.1⟩, fun b hS => ?_, hb.trans (x.2.2.mono (by have := hb.size; omega)), hn⟩, x.2.2⟩
  rcases hS with hS | hS
  · exact hS.elim
  · have := hb.size; omega
theorem s_put (h : Ses n0 w0 S p l W) (x : Pr) (hk : x.k.size ≤ 140737488351232) (hv : x.v.size ≤ 140737488351232) (hl : l.length ≤ 1152921504606846976) (hz : size l ≤ 1152921504606846976) :
    Calls Try.prog 9 #[.pointer (some ⟨p, 0, none⟩), .agg #[.string x.k, .string x.v, .bool x.g]] W fun e w' => e = .returned (.int .i64 (erg (may x))) ∧ Ses n0 w0 (grow S W w') p (Pm9.put x l) w' ∧ Tread S W w' := by
  obtain ⟨t, ht⟩ := h.mem
  refine (put_any ht x hk hv hl hz).mono fun e w' x => ?_
  obtain ⟨h1, t', h2, h3⟩ := x
  exact ⟨h1, h.grown ⟨t', h2⟩ h3, h3⟩
theorem s_get (h : Ses n0 w0 S p l W) (k : ByteArray) : Calls Try.prog 15 #[.pointer (some ⟨p, 0, none⟩), .string k] W fun e w' => e = .returned (gotV (Pm9.get k l)) ∧ Below W.heap.size W w' := by
  obtain ⟨t, ht⟩ := h.mem
  exact get_any ht k
theorem s_len (h : Ses n0 w0 S p l W) : Calls Try.prog 12 #[.pointer (some ⟨p, 0, none⟩)] W fun e w' => e = .returned (.int .i64 (l.length : Int)) ∧ w' = W := by
  obtain ⟨t, ht⟩ := h.mem
  exact len_any ht
theorem s_size (h : Ses n0 w0 S p l W) : Calls Try.prog 13 #[.pointer (some ⟨p, 0, none⟩)] W fun e w' => e = .returned (.int .i64 (Pm9.size l : Int)) ∧ w' = W := by
  obtain ⟨t, ht⟩ := h.mem
  exact size_any ht
theorem s_clear (h : Ses n0 w0 S p l W) : Calls Try.prog 20 #[.pointer (some ⟨p, 0, none⟩)] W fun e w' => e = .returned (.tuple #[]) ∧ Ses n0 w0 (grow S W w') p [] w' ∧ Tread S W w' := by
  obtain ⟨t, ht⟩ := h.mem
  exact (clear_any ht).mono fun e w' x => ⟨x.1, h.grown ⟨_, x.2.1⟩ x.2.2, x.2.2⟩
theorem s_scan (h : Ses n0 w0 S p l W) (hl : l.length ≤ 1099511627776) (a b : ByteArray) (most : Int) : Calls Try.prog 18 #[.pointer (some ⟨p, 0, none⟩), .string a, .string b, .int .i64 most] W (ScanTo W (scan a b most l)) := by
  obtain ⟨t, ht⟩ := h.mem
  exact scan_any ht hl a b most
theorem Ses.sorted (h : Ses n0 w0 S p l W) : Sorted l := by
  obtain ⟨t, ht⟩ := h.mem
  exact ht.sorted
end
/-- What keeps a row that reads. -/
theorem reads_grown {S : Nat → Prop} {W W' : World} {A : Option Addr} {L : List Pr} (h : Reads W A L) (ht : Tread S W W') (hA : ∀ a, A = some a → ¬ S a.block) : Reads W' A L := h.tread ht hA
end Go.Proofs.Ytkbjmbllnnghlaa.Ss9
