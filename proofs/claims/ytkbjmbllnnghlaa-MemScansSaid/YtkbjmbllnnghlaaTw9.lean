/- A mem and the document's one side by side, over a walk. -/
import Derived.Test.YtkbjmbllnnghlaaLa9
namespace Go.Proofs.Ytkbjmbllnnghlaa.Tw9
open Go Go.RowKit Go.Proofs.Ytkbjmbllnnghlaa.Pm9 Go.Proofs.Ytkbjmbllnnghlaa.Wd9 Go.Proofs.Ytkbjmbllnnghlaa.Mt9 Go.Proofs.Ytkbjmbllnnghlaa.Mm9 Go.Proofs.Ytkbjmbllnnghlaa.Mg9 Go.Proofs.Ytkbjmbllnnghlaa.Sn9 Go.Proofs.Ytkbjmbllnnghlaa.Rd9 Go.Proofs.Ytkbjmbllnnghlaa.Ah9 Go.Proofs.Ytkbjmbllnnghlaa.Rg9 Go.Proofs.Ytkbjmbllnnghlaa.Rp9 Go.Proofs.Ytkbjmbllnnghlaa.Rq9 Go.Proofs.Ytkbjmbllnnghlaa.Ss9
/-- A mem at p with the pairs l, the document's one at q with L, apart. -/
structure Tw (n0 : Nat) (w0 : World) (p q : Nat) (A : Option Addr) (c : Nat) (l L : List Pr) (W : World) : Prop where
  ses : ∃ S, Ses n0 w0 S p l W ∧ ¬ S q ∧ (L ≠ [] → ∀ a, A = some a → ¬ S a.block)
  ref : RefAt W q A c L
  lo : n0 ≤ q
section
variable {n0 : Nat} {w0 W W' : World} {p q : Nat} {A : Option Addr} {c : Nat} {l L : List Pr}
theorem Tw.below (h : Tw n0 w0 p q A c l L W) : Below n0 w0 W := by
  obtain ⟨S, hs, _⟩ := h.ses
  exact hs.below
theorem Tw.base (h : Tw n0 w0 p q A c l L W) : n0 ≤ w0.heap.size := by
  obtain ⟨S, hs, _⟩ := h.ses
  exact hs.base
theorem Tw.size (h : Tw n0 w0 p q A c l L W) : n0 ≤ W.heap.size := by
  obtain ⟨S, hs, _⟩ := h.ses
  exact hs.size
theorem Tw.sorted (h : Tw n0 w0 p q A c l L W) : Sorted l := by
  obtain ⟨S, hs, _⟩ := h.ses
  exact hs.sorted
theorem Tw.cell (h : Tw n0 w0 p q A c l L W) : W.cell? ⟨q, 0, none⟩ = some (.slice A L.length c) := cell_of h.ref.ref 0
theorem Tw.keep (h : Tw n0 w0 p q A c l L W) (hb : Below W.heap.size W W') : Tw n0 w0 p q A c l L W' := by
  obtain ⟨S, hs, h1, h2⟩ := h.ses
  exact ⟨⟨S, hs.keep hb, h1, h2⟩, h.ref.keep (Nat.le_refl _) hb, h.lo⟩
theorem reads_lt {W : World} {A : Option Addr} {L : List Pr} (h : Reads W A L) (hL : L ≠ []) : ∀ a, A = some a → a.block < W.heap.size := by
  intro a ha
  obtain ⟨b, o, e, hb, _⟩ := h hL
  rw [e] at ha; cases ha; exact hb
theorem tw_put (h : Tw n0 w0 p q A c l L W) (x : Pr) (hk : x.k.size ≤ 140737488351232) (hv : x.v.size ≤ 140737488351232) (hl : l.length ≤ 1152921504606846976) (hz : Pm9.size l ≤ 1152921504606846976) :
    Calls Try.prog 9 #[.pointer (some ⟨p, 0, none⟩), .agg #[.string x.k, .string x.v, .bool x.g]] W fun e w' => e = .returned (.int .i64 (erg (may x))) ∧ Tw n0 w0 p q A c (Pm9.put x l) L w' := by
  obtain ⟨S, hs, h1, h2⟩ := h.ses
  refine (s_put hs x hk hv hl hz).mono fun e w' y => ?_
  obtain ⟨e1, hs', ht⟩ := y
  have hq := lt_of_at h.ref.ref
  refine ⟨e1, ⟨⟨_, hs', fun hg => ?_, fun hL a ha hg => ?_⟩, ⟨(ht.block q hq h1).trans h.ref.ref, ?_⟩, h.lo⟩⟩
  · rcases hg with hg | hg
    · exact h1 hg
    · omega
  · rcases hg with hg | hg
    · exact h2 hL a ha hg
    · have := reads_lt h.ref.reads hL a ha; omega
  · by_cases hL : L = []
    · subst hL; exact Reads.nil _ _
    · exact h.ref.reads.tread ht fun a ha => h2 hL a ha
theorem tw_rput (h : Tw n0 w0 p q A c l L W) (hf : Fine L) (hs : Sorted L) (x : Pr) (hk : x.k.size ≤ 140737488351232) (hv : x.v.size ≤ 140737488351232) :
    Calls Try.prog 10 #[.pointer (some ⟨q, 0, none⟩), .agg #[.string x.k, .string x.v, .bool x.g]] W fun e w' => e = .returned (.int .i64 (erg (may x))) ∧ ∃ A' c', Tw n0 w0 p q A' c' l (Pm9.put x L) w' := by
  obtain ⟨S, hS, h1, h2⟩ := h.ses
  refine (rput_loop h.ref hf hs x hk hv).mono fun e w' y => ?_
  obtain ⟨e1, A', c', hr, ht, hA⟩ := y
  refine ⟨e1, A', c', ⟨⟨S, ⟨?_, fun b hb => ?_, ?_, hS.base⟩, h1, fun hL a ha hSa => ?_⟩, hr, h.lo⟩⟩
  · obtain ⟨t, hm⟩ := hS.mem
    exact ⟨t, hm.keep fun b hb hl => ht.block b hl fun e => h1 (e ▸ hb)⟩
  · have := hS.lo b hb; have := ht.size; omega
  · exact hS.below.trans (ht.below hS.size fun i hi => by rw [hi]; exact h.lo)
  · rcases hA with ⟨hA, hL2⟩ | hA
    · rw [hA] at ha; rw [hL2] at hL; exact h2 hL a ha hSa
    · have := hA a ha; have := (hS.lo _ hSa).2; omega
theorem tw_get (h : Tw n0 w0 p q A c l L W) (k : ByteArray) : Calls Try.prog 15 #[.pointer (some ⟨p, 0, none⟩), .string k] W fun e w' => e = .returned (gotV (Pm9.get k l)) ∧ Below W.heap.size W w' := by
  obtain ⟨S, hs, _⟩ := h.ses
  exact s_get hs k
theorem tw_len (h : Tw n0 w0 p q A c l L W) : Calls Try.prog 12 #[.pointer (some ⟨p, 0, none⟩)] W fun e w' => e = .returned (.int .i64 (l.length : Int)) ∧ w' = W := by
  obtain ⟨S, hs, _⟩ := h.ses
  exact s_len hs
theorem tw_size (h : Tw n0 w0 p q A c l L W) : Calls Try.prog 13 #[.pointer (some ⟨p, 0, none⟩)] W fun e w' => e = .returned (.int .i64 (Pm9.size l : Int)) ∧ w' = W := by
  obtain ⟨S, hs, _⟩ := h.ses
  exact s_size hs
theorem tw_scan (h : Tw n0 w0 p q A c l L W) (hl : l.length ≤ 1099511627776) (a b : ByteArray) (most : Int) : Calls Try.prog 18 #[.pointer (some ⟨p, 0, none⟩), .string a, .string b, .int .i64 most] W (ScanTo W (scan a b most l)) := by
  obtain ⟨S, hs, _⟩ := h.ses
  exact s_scan hs hl a b most
theorem tw_clear (h : Tw n0 w0 p q A c l L W) : Calls Try.prog 20 #[.pointer (some ⟨p, 0, none⟩)] W fun e w' => e = .returned (.tuple #[]) ∧ ∃ S, Ses n0 w0 S p [] w' := by
  obtain ⟨S, hs, _⟩ := h.ses
  exact (s_clear hs).mono fun e w' x => ⟨x.1, _, x.2.1⟩
end
/-- All that was put, in order. -/
def putAll : List Pr → List Pr → List Pr
  | l, [] => l
  | l, x :: r => putAll (Pm9.put x l) r
theorem putAll_snoc : ∀ (r l : List Pr) (x : Pr), putAll l (r ++ [x]) = Pm9.put x (putAll l r)
  | [], _, _ => rfl
  | y :: r, l, x => by show putAll (Pm9.put y l) (r ++ [x]) = _; rw [putAll_snoc r]; rfl
theorem ins_len (x : Pr) : ∀ l : List Pr, (ins x l).length ≤ l.length + 1
  | [] => by simp [ins]
  | y :: l => by
    have := ins_len x l
    unfold ins
    split
    · simp
    · split <;> simp <;> omega
theorem put_len (x : Pr) (l : List Pr) : (Pm9.put x l).length ≤ l.length + 1 := by
  unfold Pm9.put; split
  · exact ins_len x l
  · omega
theorem ins_sz (x : Pr) : ∀ l : List Pr, Pm9.size (ins x l) ≤ Pm9.size l + (x.k.size + x.v.size)
  | [] => by simp only [ins, Pm9.size]; omega
  | y :: l => by
    have := ins_sz x l
    unfold ins
    split
    · simp only [Pm9.size]; omega
    · split <;> simp only [Pm9.size] <;> omega
theorem put_sz (x : Pr) (l : List Pr) : Pm9.size (Pm9.put x l) ≤ Pm9.size l + (x.k.size + x.v.size) := by
  unfold Pm9.put; split
  · exact ins_sz x l
  · omega
theorem put_mem {x y : Pr} {l : List Pr} (h : y ∈ Pm9.put x l) : y = x ∨ y ∈ l := by
  unfold Pm9.put at h; split at h
  · exact ins_mem h
  · exact .inr h
theorem snoc_split {α : Type} (L : List α) (k : Nat) (h : k < L.length) : L.take (k + 1) = L.take k ++ [L[k]] := by
  rw [List.take_add_one, List.getElem?_eq_getElem h]; rfl
/-- What is there behind the first k of some pairs. -/
def upto (L : List Pr) (k : Nat) : List Pr := putAll [] (L.take k)
theorem upto_zero (L : List Pr) : upto L 0 = [] := by simp [upto, putAll]
theorem upto_succ (L : List Pr) (k : Nat) (h : k < L.length) : upto L (k + 1) = Pm9.put L[k] (upto L k) := by
  unfold upto
  rw [snoc_split L k h, putAll_snoc]
theorem upto_facts (L : List Pr) : ∀ k, k ≤ L.length → (upto L k).length ≤ k ∧ Pm9.size (upto L k) ≤ Pm9.size (L.take k) ∧ (∀ x ∈ upto L k, x ∈ L) ∧ Sorted (upto L k)
  | 0, _ => by rw [upto_zero]; exact ⟨by simp, by simp [Pm9.size], (fun x hx => (by cases hx)), List.Pairwise.nil⟩
  | k + 1, h => by
    obtain ⟨h1, h2, h3, h4⟩ := upto_facts L k (by omega)
    have hk : k < L.length := by omega
    rw [upto_succ L k hk]
    have a1 := put_len L[k] (upto L k)
    have a2 := put_sz L[k] (upto L k)
    have a3 := size_drop L k hk
    refine ⟨by omega, by omega, fun x hx => ?_, put_sorted h4⟩
    rcases put_mem hx with rfl | hx
    · exact List.getElem_mem hk
    · exact h3 x hx
theorem upto_fine {L : List Pr} (hl : L.length ≤ 200) (hf : ∀ x ∈ L, x.k.size ≤ 140737488351232 ∧ x.v.size ≤ 140737488351232) {k : Nat} (hk : k ≤ L.length) : Fine (upto L k) := by
  obtain ⟨h1, _, h3, _⟩ := upto_facts L k hk
  exact ⟨by omega, fun x hx => hf x (h3 x hx)⟩
end Go.Proofs.Ytkbjmbllnnghlaa.Tw9
