/- The document's Get and Size over a row of pairs. -/
import Derived.Test.YtmnaamjoikfpbaaAh9
import Derived.Test.YtmnaamjoikfpbaaMg9
namespace Go.Proofs.Ytmnaamjoikfpbaa.Rg9
open Go Go.RowKit Go.Proofs.Ytmnaamjoikfpbaa.Pm9 Go.Proofs.Ytmnaamjoikfpbaa.Wd9 Go.Proofs.Ytmnaamjoikfpbaa.Mt9 Go.Proofs.Ytmnaamjoikfpbaa.Mm9 Go.Proofs.Ytmnaamjoikfpbaa.Mg9 Go.Proofs.Ytmnaamjoikfpbaa.Sn9 Go.Proofs.Ytmnaamjoikfpbaa.Rd9
/-- The document's mem at block q: the pairs L. -/
structure RefAt (w : World) (q : Nat) (A : Option Addr) (c : Nat) (L : List Pr) : Prop where
  ref : w.heap[q]? = some (.cells #[.slice A L.length c] 28 (0, 0))
  reads : Reads w A L
theorem RefAt.keep {B : Nat} {w w' : World} {q : Nat} {A : Option Addr} {c : Nat} {L : List Pr} (h : RefAt w q A c L) (hB : w.heap.size ≤ B) (hb : Below B w w') : RefAt w' q A c L :=
  ⟨(hb.block q (by have := lt_of_at h.ref; omega)).trans h.ref, h.reads.keep hB hb⟩
/-- Texts that a machine holds. -/
def Fine (L : List Pr) : Prop := L.length ≤ 1099511627776 ∧ ∀ x ∈ L, x.k.size ≤ 140737488351232 ∧ x.v.size ≤ 140737488351232
set_option maxRecDepth 20000 in
set_option maxHeartbeats 2000000 in
theorem rget_any {w : World} {q : Nat} {A : Option Addr} {c : Nat} {L : List Pr} (h : RefAt w q A c L) (hf : Fine L) (k : ByteArray) :
    Calls Try.prog 17 #[.pointer (some ⟨q, 0, none⟩), .string k] w fun e w' => e = .returned (gotV (Pm9.get k L)) ∧ Below w.heap.size w w' := by
  obtain ⟨W, hW⟩ : ∃ W, W = w.alloc (.cells #[.string ⟨#[]⟩, .string ⟨#[]⟩, .bool false] 39) := ⟨_, rfl⟩
  have hb : Below w.heap.size w W := by rw [hW]; exact (Below.refl w.heap.size w).alloc (Nat.le_refl _) _
  have h2 := h.keep (Nat.le_refl _) hb
  have hx : W.heap[w.heap.size]? = some (pairO zp) := by rw [hW]; exact heap_new _ _
  obtain ⟨N, hN⟩ : ∃ N, N = L.length := ⟨_, rfl⟩
  have hl1 := hf.1
  have c0 := cell_of h2.ref 0
  rw [← hN] at c0 hl1
  have r0 := cell_of hx 0
  have r1 := cell_of hx 1
  have r2 := cell_of hx 2
  have rf := free_of hx
  have rf0 := rf 0
  have rf1 := rf 1
  have rf2 := rf 2
  have HR := Lib.hid h2.reads
  have HX := Lib.hid hx
  have HB := Lib.hid hb
  have HN := Lib.hid hN
  have HW : Hid (∀ u v g, Below w.heap.size w (((W.setCell ⟨w.heap.size, 0, none⟩ u).setCell ⟨w.heap.size, 1, none⟩ v).setCell ⟨w.heap.size, 2, none⟩ g)) := Lib.hid fun u v g => ((hb.setCell (p := ⟨w.heap.size, 0, none⟩) (Nat.le_refl _) _).setCell (p := ⟨w.heap.size, 1, none⟩) (Nat.le_refl _) _).setCell (p := ⟨w.heap.size, 2, none⟩) (Nat.le_refl _) _
  clear hb h2 hx h hf rf hN
  go_enter Try.func17, Try.ntmps17
  go_wp2
  rw [← hW]
  clear hW
  go_loopw [6, 7, 8, 9, 10, 11, 12, 13, 14, 15, 16, 17, 18, 19, 20, 21, 22, 23, 24, 25] (fun i _ _ _ _ _ _ _ _ _ _ _ _ _ _ _ _ _ _ _ wr => ∃ k0 : Nat, k0 ≤ N ∧ i = .int .i64 k0 ∧ Hid (Pm9.get k (L.drop k0) = Pm9.get k L) ∧ wr = W) (fun i _ _ _ _ _ _ _ _ _ _ _ _ _ _ _ _ _ _ _ _ => N - (intOf i).toNat)
  case atStart => exact ⟨0, by omega, rfl, Lib.hid (by simp), rfl⟩
  case round =>
    obtain ⟨i, hi, rfl, hs, rfl⟩ := hrel
    by_cases hlt : i < N
    · have hil : i < L.length := by rw [← HN.out]; exact hlt
      obtain ⟨b, o, rfl, p0, p1, p2⟩ := HR.out.at_ hil
      have hd : Pm9.get k (L.drop i) = (if L[i].k.toList == k.toList then some L[i] else Pm9.get k (L.drop (i + 1))) := by
        rw [List.drop_eq_getElem_cons hil]; rfl
      rw [hs.out] at hd
      obtain ⟨x, hx⟩ : ∃ x, x = L[i] := ⟨_, rfl⟩
      rw [← hx] at hd p0 p1 p2
      clear hs hx
      cases he : x.k.toList == k.toList
      · rw [he] at hd
        have HD := Lib.hid hd
        clear hd hil
        go_wp2
        exact ⟨⟨i + 1, by omega, by go_num, Lib.hid HD.out.symm, trivial⟩, by simp [intOf]; omega⟩
      · rw [he] at hd
        have HD := Lib.hid hd
        clear hd hil
        go_wp2
        obtain ⟨W3, hW3⟩ : ∃ W3, W3 = ((wr.setCell ⟨w.heap.size, 0, none⟩ (.string x.k)).setCell ⟨w.heap.size, 1, none⟩ (.string x.v)).setCell ⟨w.heap.size, 2, none⟩ (.bool x.g) := ⟨_, rfl⟩
        have k3 : W3.heap[w.heap.size]? = some (.cells #[(.string x.k), (.string x.v), (.bool x.g)] 39 (0, 0)) := by rw [hW3]; exact setCell_heap (setCell_heap (setCell_heap HX.out 0 _) 1 _) 2 _
        have b3 : Below w.heap.size w W3 := by rw [hW3]; exact HW.out _ _ _
        rw [← hW3]
        have e0 : W3.cell? ⟨w.heap.size, 0, none⟩ = some (.string x.k) := cell_of k3 0
        have e1 : W3.cell? ⟨w.heap.size, 1, none⟩ = some (.string x.v) := cell_of k3 1
        have e2 : W3.cell? ⟨w.heap.size, 2, none⟩ = some (.bool x.g) := cell_of k3 2
        clear hW3 k3
        refine bodyPost_ret (v := .tuple #[.agg #[.string x.k, .string x.v, .bool x.g], .bool true]) (by simp [results, Try.f17, go_sem, e0, e1, e2]) rfl ?_
        exact ⟨by rw [HD.out]; rfl, b3⟩
    · obtain rfl : i = N := by omega
      have hd : Pm9.get k L = none := by rw [← hs.out, HN.out, List.drop_length]; rfl
      have HD := Lib.hid hd
      clear hd hs
      go_wp2
      obtain ⟨W3, hW3⟩ : ∃ W3, W3 = ((wr.setCell ⟨w.heap.size, 0, none⟩ (.string ⟨#[]⟩)).setCell ⟨w.heap.size, 1, none⟩ (.string ⟨#[]⟩)).setCell ⟨w.heap.size, 2, none⟩ (.bool false) := ⟨_, rfl⟩
      have k3 : W3.heap[w.heap.size]? = some (.cells #[(.string ⟨#[]⟩), (.string ⟨#[]⟩), (.bool false)] 39 (0, 0)) := by rw [hW3]; exact setCell_heap (setCell_heap (setCell_heap HX.out 0 _) 1 _) 2 _
      have b3 : Below w.heap.size w W3 := by rw [hW3]; exact HW.out _ _ _
      rw [← hW3]
      have e0 : W3.cell? ⟨w.heap.size, 0, none⟩ = some (.string ⟨#[]⟩) := cell_of k3 0
      have e1 : W3.cell? ⟨w.heap.size, 1, none⟩ = some (.string ⟨#[]⟩) := cell_of k3 1
      have e2 : W3.cell? ⟨w.heap.size, 2, none⟩ = some (.bool false) := cell_of k3 2
      clear hW3 k3
      refine bodyPost_ret (v := .tuple #[.agg #[.string ⟨#[]⟩, .string ⟨#[]⟩, .bool false], .bool false]) (by simp [results, Try.f17, go_sem, e0, e1, e2]) rfl ?_
      exact ⟨by rw [HD.out]; rfl, b3⟩
theorem size_drop (L : List Pr) (i : Nat) (h : i < L.length) : size (L.take (i + 1)) = size (L.take i) + L[i].k.size + L[i].v.size := by
  have e : L.take (i + 1) = L.take i ++ [L[i]] := by
    rw [List.take_add_one, List.getElem?_eq_getElem h]; rfl
  rw [e, size_append]
  simp only [size]; omega
theorem size_take (L : List Pr) (i : Nat) : size (L.take i) ≤ size L := by
  have h := size_append (L.take i) (L.drop i)
  rw [List.take_append_drop] at h
  omega
end Go.Proofs.Ytmnaamjoikfpbaa.Rg9

