/- Two disks side by side, and rows that no disk has: what a call of one of them leaves of all. -/
import Derived.Test.YtjnkennlncdlgaaFi
import Derived.Test.YtjnkennlncdlgaaCx
namespace Go.Proofs.Ytjnkennlncdlgaa.Ly
open Go Go.RowKit Go.Lib Go.Proofs.Ytjnkennlncdlgaa.Dh Go.Proofs.Ytjnkennlncdlgaa.Fm Go.Proofs.Ytjnkennlncdlgaa.Dk Go.Proofs.Ytjnkennlncdlgaa.St Go.Proofs.Ytjnkennlncdlgaa.Sy Go.Proofs.Ytjnkennlncdlgaa.Hs Go.Proofs.Ytjnkennlncdlgaa.Fi Go.Proofs.Ytjnkennlncdlgaa.Sm Go.Proofs.Ytjnkennlncdlgaa.Cx
structure Row where
  e : Nat
  size : Nat
  v : Value
  n : Nat
  xs : List Value
structure Lay1 (w0 w : World) (S1 S2 : Nat → Prop) (p q : Nat) (D X : St) (R : List Row) : Prop where
  b1 : ∀ b, S1 b → w0.heap.size ≤ b ∧ b < w.heap.size
  b2 : ∀ b, S2 b → w0.heap.size ≤ b ∧ b < w.heap.size
  ne : ∀ b, S1 b → ¬ S2 b
  f1 : Full w S1 p D
  f2 : Full w S2 q X
  below : Below w0.heap.size w0 w
  rows : ∀ r ∈ R, w.ownsRow w0.heap.size r.e r.size r.v r.n r.xs
  away : ∀ r ∈ R, ∀ b, r.v.ownBlock = some b → ¬ S1 b ∧ ¬ S2 b
def Lay (w0 w : World) (p q : Nat) (D X : St) (R : List Row) : Prop := ∃ S1 S2, Lay1 w0 w S1 S2 p q D X R
theorem Lay.below {w0 w : World} {p q : Nat} {D X : St} {R : List Row} (h : Lay w0 w p q D X R) : Below w0.heap.size w0 w := by
  obtain ⟨_, _, h⟩ := h; exact h.below
theorem tread_left {w0 w w' : World} {S1 S2 : Nat → Prop} {p q : Nat} {D X D' : St} {R : List Row} (h : Lay1 w0 w S1 S2 p q D X R) (k : To S1 w w' p D') : Lay1 w0 w' (grow S1 w w') S2 p q D' X R := by
  have hs := k.1.size
  have hw := h.below.size
  have hk : ∀ b, b < w.heap.size → ¬ S1 b → w'.heap[b]? = w.heap[b]? := fun b hb hn => k.1.block b hb hn
  refine ⟨?_, ?_, ?_, k.2, ?_, ?_, ?_, ?_⟩
  · intro b hb
    rcases hb with hb | hb
    · have := h.b1 b hb; omega
    · omega
  · intro b hb; have := h.b2 b hb; omega
  · intro b hb h2
    have h2b := h.b2 b h2
    rcases hb with hb | hb
    · exact h.ne b hb h2
    · omega
  · exact Full.frame h.f2 fun b hb hb2 => hk b hb2 fun h1 => h.ne b h1 hb
  · exact h.below.trans ⟨k.1.os, k.1.tape, k.1.output, hs, fun b hb => hk b (by omega) fun h1 => by have := h.b1 b h1; omega⟩
  · intro r hr
    have hrow := h.rows r hr
    exact own_keep hrow fun g hg => hk g (hrow.lt g hg).2 (h.away r hr g hg).1
  · intro r hr b hb
    have ha := h.away r hr b hb
    have hrow := (h.rows r hr).lt b hb
    refine ⟨fun hx => ?_, ha.2⟩
    rcases hx with hx | hx
    · exact ha.1 hx
    · omega
theorem Lay1.swap {w0 w : World} {S1 S2 : Nat → Prop} {p q : Nat} {D X : St} {R : List Row} (h : Lay1 w0 w S1 S2 p q D X R) : Lay1 w0 w S2 S1 q p X D R :=
  ⟨h.b2, h.b1, fun b h2 h1 => h.ne b h1 h2, h.f2, h.f1, h.below, h.rows, fun r hr b hb => ⟨(h.away r hr b hb).2, (h.away r hr b hb).1⟩⟩
theorem Lay.swap {w0 w : World} {p q : Nat} {D X : St} {R : List Row} (h : Lay w0 w p q D X R) : Lay w0 w q p X D R := by
  obtain ⟨S1, S2, h⟩ := h; exact ⟨S2, S1, h.swap⟩
/-- A call of the first disk. -/
theorem Lay.left {w0 w : World} {p q : Nat} {D X D' : St} {R : List Row} (h : Lay w0 w p q D X R) {f : FuncId} {args : Array Value} {r : Value}
    (hc : ∀ S, Full w S p D → Calls Try.prog f args w fun e w' => e = .returned r ∧ To S w w' p D') : Calls Try.prog f args w fun e w' => e = .returned r ∧ Lay w0 w' p q D' X R := by
  obtain ⟨S1, S2, h⟩ := h
  refine (hc S1 h.f1).mono ?_
  rintro e w' ⟨rfl, k⟩
  exact ⟨rfl, _, _, tread_left h k⟩
theorem Lay.right {w0 w : World} {p q : Nat} {D X X' : St} {R : List Row} (h : Lay w0 w p q D X R) {f : FuncId} {args : Array Value} {r : Value}
    (hc : ∀ S, Full w S q X → Calls Try.prog f args w fun e w' => e = .returned r ∧ To S w w' q X') : Calls Try.prog f args w fun e w' => e = .returned r ∧ Lay w0 w' p q D X' R :=
  (h.swap.left hc).mono fun _ _ ⟨h1, h2⟩ => ⟨h1, h2.swap⟩
/-- Nothing that was there has turned. -/
theorem Lay.grow {w0 w w' : World} {p q : Nat} {D X : St} {R : List Row} (h : Lay w0 w p q D X R) (k : Below w.heap.size w w') : Lay w0 w' p q D X R := by
  obtain ⟨S1, S2, h⟩ := h
  have hs := k.size
  have hw := h.below.size
  refine ⟨S1, S2, fun b hb => ?_, fun b hb => ?_, h.ne, Full.frame h.f1 fun b _ hb => k.block b hb, Full.frame h.f2 fun b _ hb => k.block b hb, h.below.trans (k.mono hw), fun r hr => ?_, h.away⟩
  · have := h.b1 b hb; omega
  · have := h.b2 b hb; omega
  · have hrow := h.rows r hr
    exact own_keep hrow fun g hg => k.block g (hrow.lt g hg).2
theorem below_alloc (w : World) (o : Obj) : Below w.heap.size w (w.alloc o) := (Below.refl _ w).alloc (Nat.le_refl _) o
theorem below_drew (w : World) : Below w.heap.size w w.drew := (Below.refl _ w).drew
theorem below_drewN (w : World) (n : Nat) : Below w.heap.size w (w.drewN n) := ⟨rfl, rfl, rfl, Nat.le_refl _, fun _ _ => rfl⟩
theorem Lay.alloc {w0 w : World} {p q : Nat} {D X : St} {R : List Row} (h : Lay w0 w p q D X R) (o : Obj) : Lay w0 (w.alloc o) p q D X R := h.grow (below_alloc w o)
theorem Lay.drew {w0 w : World} {p q : Nat} {D X : St} {R : List Row} (h : Lay w0 w p q D X R) : Lay w0 w.drew p q D X R := h.grow (below_drew w)
/-- A new row. -/
theorem Lay.push {w0 w w' : World} {p q : Nat} {D X : St} {R : List Row} (h : Lay w0 w p q D X R) (k : Below w.heap.size w w') {e s : Nat} {v : Value} {n : Nat} {xs : List Value} (hr : w'.ownsRow w.heap.size e s v n xs) :
    Lay w0 w' p q D X (⟨e, s, v, n, xs⟩ :: R) := by
  have hw := h.below.size
  obtain ⟨S1, S2, g⟩ := h
  obtain ⟨T1, T2, f⟩ := Lay.grow ⟨S1, S2, g⟩ k
  have hs := k.size
  refine ⟨S1, S2, fun b hb => ?_, fun b hb => ?_, g.ne, Full.frame g.f1 fun b _ hb => k.block b hb, Full.frame g.f2 fun b _ hb => k.block b hb, f.below, ?_, ?_⟩
  · have := g.b1 b hb; omega
  · have := g.b2 b hb; omega
  · intro r hr2
    rcases List.mem_cons.1 hr2 with rfl | hr2
    · exact own_base hr hw
    · exact f.rows r hr2
  · intro r hr2 b hb
    rcases List.mem_cons.1 hr2 with rfl | hr2
    · have hlt := (hr.lt b hb).1
      exact ⟨fun h1 => by have := g.b1 b h1; omega, fun h2 => by have := g.b2 b h2; omega⟩
    · exact g.away r hr2 b hb
/-- The one row grows. -/
theorem Lay.grown {w0 w w' : World} {p q : Nat} {D X : St} {e s : Nat} {v v' : Value} {n n' : Nat} {xs xs' : List Value} (h : Lay w0 w p q D X [⟨e, s, v, n, xs⟩]) (k : w.grownBy w' v.ownBlock)
    (hr : w'.ownsRow w0.heap.size e s v' n' xs') (hb : v'.ownBlock = v.ownBlock ∨ v'.ownBlock = some w.heap.size) : Lay w0 w' p q D X [⟨e, s, v', n', xs'⟩] := by
  obtain ⟨S1, S2, g⟩ := h
  have hs := k.size
  have hw := g.below.size
  have hold := g.rows _ (List.mem_singleton.2 rfl)
  have haw := g.away _ (List.mem_singleton.2 rfl)
  have hne : ∀ b, (S1 b ∨ S2 b) → some b ≠ v.ownBlock := fun b hb hc => by
    have := haw b hc.symm
    rcases hb with hb | hb
    · exact this.1 hb
    · exact this.2 hb
  refine ⟨S1, S2, fun b hb => ?_, fun b hb => ?_, g.ne, Full.frame g.f1 fun b hb hlt => k.block b hlt (hne b (.inl hb)), Full.frame g.f2 fun b hb hlt => k.block b hlt (hne b (.inr hb)), ?_, ?_, ?_⟩
  · have := g.b1 b hb; omega
  · have := g.b2 b hb; omega
  · exact g.below.grown k hw fun b hb => (hold.lt b hb).1
  · intro r hr2
    rw [List.mem_singleton.1 hr2]
    exact hr
  · intro r hr2 b hb2
    rw [List.mem_singleton.1 hr2] at hb2
    rcases hb with hb | hb
    · exact haw b (hb.symm.trans hb2)
    · have : b = w.heap.size := by
        have h3 : some w.heap.size = some b := hb.symm.trans hb2
        simpa using h3.symm
      subst this
      exact ⟨fun h1 => by have := g.b1 _ h1; omega, fun h2 => by have := g.b2 _ h2; omega⟩
theorem Lay.row {w0 w : World} {p q : Nat} {D X : St} {R : List Row} (h : Lay w0 w p q D X R) {r : Row} (hr : r ∈ R) : w.ownsRow w0.heap.size r.e r.size r.v r.n r.xs := by
  obtain ⟨_, _, h⟩ := h; exact h.rows r hr
/-- Two new disks. -/
theorem Lay.start {w0 w1 w2 : World} {p q : Nat} {D X : St} (h1 : Below w0.heap.size w0 w1) (f1 : Full w1 (fun b => w0.heap.size ≤ b ∧ b < w1.heap.size) p D) (h2 : Below w1.heap.size w1 w2) (f2 : Full w2 (fun b => w1.heap.size ≤ b ∧ b < w2.heap.size) q X) :
    Lay w0 w2 p q D X [] := by
  have s1 := h1.size
  have s2 := h2.size
  refine ⟨_, _, ⟨fun b hb => ⟨hb.1, by omega⟩, fun b hb => ⟨by omega, hb.2⟩, fun b hb hb2 => by omega, Full.frame f1 fun b _ hb => h2.block b hb, f2, h1.trans (h2.mono s1), fun r hr => by simp at hr, fun r hr => by simp at hr⟩⟩
/-- The law's Files, of the first disk. -/
theorem files_left {w0 w : World} {p q : Nat} {D X : St} {R : List Row} (h : Lay w0 w p q D X R) {k : Nat} (hf : Fine D k) (hk : k ≤ 900) :
    Calls Try.prog 14 #[.pointer (some ⟨p, 0, none⟩)] w fun e w' => ∃ v, e = .returned (.tuple #[v, .bool true]) ∧ Lay w0 w' p q D X (⟨69, 2, v, (files D.now).length, cellsF (files D.now)⟩ :: R) := by
  have h' := h
  obtain ⟨S1, S2, g⟩ := h'
  refine (files_any g.f1 hf.still hf.names (by have := hf.len; omega)).mono ?_
  rintro e w' ⟨v, rfl, hr, hb⟩
  exact ⟨v, rfl, h.push hb hr⟩
theorem files_right {w0 w : World} {p q : Nat} {D X : St} {R : List Row} (h : Lay w0 w p q D X R) {k : Nat} (hf : Fine X k) (hk : k ≤ 900) :
    Calls Try.prog 14 #[.pointer (some ⟨q, 0, none⟩)] w fun e w' => ∃ v, e = .returned (.tuple #[v, .bool true]) ∧ Lay w0 w' p q D X (⟨69, 2, v, (files X.now).length, cellsF (files X.now)⟩ :: R) :=
  (files_left h.swap hf hk).mono fun _ _ ⟨v, h1, h2⟩ => ⟨v, h1, h2.swap⟩
end Go.Proofs.Ytjnkennlncdlgaa.Ly
