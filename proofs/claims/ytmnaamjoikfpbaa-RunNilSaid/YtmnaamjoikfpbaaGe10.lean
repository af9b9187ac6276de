/- The contract of run.Get. -/
import Derived.Test.YtmnaamjoikfpbaaRe10
namespace Go.Proofs.Ytmnaamjoikfpbaa.Ge10
open Go Go.RowKit Go.Proofs.Ytmnaamjoikfpbaa.Dh Go.Proofs.Ytmnaamjoikfpbaa.St Go.Proofs.Ytmnaamjoikfpbaa.Fl7 Go.Proofs.Ytmnaamjoikfpbaa.Pm9 Go.Proofs.Ytmnaamjoikfpbaa.Mt9 Go.Proofs.Ytmnaamjoikfpbaa.Mg9 Go.Proofs.Ytmnaamjoikfpbaa.Fd10 Go.Proofs.Ytmnaamjoikfpbaa.Po10 Go.Proofs.Ytmnaamjoikfpbaa.So10 Go.Proofs.Ytmnaamjoikfpbaa.On10 Go.Proofs.Ytmnaamjoikfpbaa.Pc10 Go.Proofs.Ytmnaamjoikfpbaa.Re10
/-- A pair, whether there is one, and why not. -/
def answer (x : Pr) (is : Bool) (e : Int) : Ending := .returned (.tuple #[.agg #[.string x.k, .string x.v, .bool x.g], .bool is, .int .i64 e])
theorem get_nil (w : World) (key : ByteArray) : Calls Try.prog 16 #[.pointer none, .string key] w fun e w' => e = answer zp false 1 ∧ Below w.heap.size w w' := by
  unfold answer zp
  dsimp only
  go_enter Try.func16, Try.ntmps16
  go_wp2
  go_returns
  exact ⟨rfl, (Below.refl w.heap.size w).alloc (Nat.le_refl _) _⟩
set_option maxRecDepth 20000 in
set_option maxHeartbeats 4000000 in
/-- No such key. -/
theorem get_none {w : World} {B q p : Nat} {nm : ByteArray} {L : List Pr} {A : Option Addr} {c : Nat} (h : RunAt w B q p nm L A c) (hlen : L.length ≤ 1000000) (hs : Sorted L) (key : ByteArray) (hg : Pm9.get key L = none) :
    Calls Try.prog 16 #[.pointer (some ⟨q, 0, none⟩), .string key] w fun e w' => e = answer zp false 0 ∧ Below w.heap.size w w' := by
  rw [get_posn hs] at hg
  obtain ⟨W, hW⟩ : ∃ W, W = w.alloc (.cells #[.string ⟨#[]⟩, .string ⟨#[]⟩, .bool false] 39) := ⟨_, rfl⟩
  have hb0 : Below w.heap.size w W := by rw [hW]; exact (Below.refl _ w).alloc (Nat.le_refl _) _
  have hx : W.heap[w.heap.size]? = some (pairO ⟨⟨#[]⟩, ⟨#[]⟩, false⟩) := by rw [hW]; exact Wd9.heap_new w _
  have hrun := h.below hb0
  have c3 := cell_of hrun.blk 3
  obtain ⟨N, hN⟩ : ∃ N, N = L.length := ⟨_, rfl⟩
  have HPl := place_any W A c L hrun.row hlen hs key
  obtain ⟨P, hP⟩ : ∃ P, P = posn key L := ⟨_, rfl⟩
  have hPN := posn_le key L
  rw [← hN] at HPl c3 hlen hPN
  rw [← hP] at HPl hPN
  have HC := Lib.hid HPl
  have HX := Lib.hid hx
  have HB := Lib.hid hb0
  unfold answer zp
  dsimp only
  have HW := Lib.hid hW
  by_cases hlt : P < N
  · have hil : P < L.length := by omega
    have hil2 : posn key L < L.length := by rw [← hP]; exact hil
    rw [dif_pos hil2] at hg
    have hne : (L[posn key L].k.toList == key.toList) = false := by
      cases hc : L[posn key L].k.toList == key.toList
      · rfl
      · rw [hc] at hg; simp at hg
    have hcell : ∀ V, Below W.heap.size W V → ∃ b o, A = some ⟨b, o, none⟩ ∧ V.cell? ⟨b, o + P * 3, none⟩ = some (.string L[P].k) ∧ V.cell? ⟨q, 3, none⟩ = some (.slice A N c) ∧ V.heap[w.heap.size]? = some (pairO ⟨⟨#[]⟩, ⟨#[]⟩, false⟩) := fun V hV => by
      have hr2 := hrun.below hV
      obtain ⟨b, o, e, _, p0, _⟩ := spot_at hr2.row hil
      have c3' := cell_of hr2.blk 3
      rw [← hN] at c3'
      exact ⟨b, o, e, p0, c3', (hV.block _ (lt_of_at hx)).trans hx⟩
    have HCL := Lib.hid hcell
    have hne2 : (L[P].k.toList == key.toList) = false := by
      have e : L[P] = L[posn key L] := by congr 1
      rw [e]; exact hne
    obtain ⟨xk, hxk⟩ : ∃ xk, xk = L[P].k := ⟨_, rfl⟩
    rw [← hxk] at hne2 HCL
    have hne3 : (xk.toList != key.toList) = true := by rw [bne, hne2]; rfl
    have hne4 : ((P : Int) == (N : Int)) = false := by simp; omega
    clear h hs hg hrun HPl hx hb0 hcell hxk hne hP hN hil hil2
    rw [hW] at c3
    clear hW
    go_enter Try.func16, Try.ntmps16
    go_wp2_with fail
    rw [← HW.out]
    refine HC.out.mono ?_
    rintro e w2 ⟨rfl, hb2⟩
    obtain ⟨b, o, rfl, p0, d3, g2⟩ := HCL.out w2 hb2
    have HB2 := Lib.hid (HB.out.trans (hb2.mono HB.out.size))
    have fr := free_of g2
    have fr0 := fr 0
    have fr1 := fr 1
    have fr2 := fr 2
    have e0 := cell_of g2 0
    have e1 := cell_of g2 1
    have e2 := cell_of g2 2
    have HFN := Lib.hid (box3 g2 ⟨#[]⟩ ⟨#[]⟩ false)
    clear fr g2 hb2
    go_wp2
    have q0 := cell_of HFN.out 0
    have q1 := cell_of HFN.out 1
    have q2 := cell_of HFN.out 2
    refine bodyPost_ret (v := .tuple #[.agg #[.string ⟨#[]⟩, .string ⟨#[]⟩, .bool false], .bool false, .int .i64 0]) (by simp [results, Try.results16, go_sem, q0, q1, q2]) rfl ⟨rfl, ?_⟩
    exact below3 HB2.out (Nat.le_refl _) _ _ _
  · obtain rfl : P = N := by omega
    have hcell : ∀ V, Below W.heap.size W V → V.cell? ⟨q, 3, none⟩ = some (.slice A P c) ∧ V.heap[w.heap.size]? = some (pairO ⟨⟨#[]⟩, ⟨#[]⟩, false⟩) := fun V hV => by
      have hr2 := hrun.below hV
      have c3' := cell_of hr2.blk 3
      rw [← hN] at c3'
      exact ⟨c3', (hV.block _ (lt_of_at hx)).trans hx⟩
    have HCL := Lib.hid hcell
    clear h hs hg hrun HPl hx hb0 hcell hP hN
    rw [hW] at c3
    clear hW
    go_enter Try.func16, Try.ntmps16
    go_wp2_with fail
    rw [← HW.out]
    refine HC.out.mono ?_
    rintro e w2 ⟨rfl, hb2⟩
    obtain ⟨d3, g2⟩ := HCL.out w2 hb2
    have HB2 := Lib.hid (HB.out.trans (hb2.mono HB.out.size))
    have fr := free_of g2
    have fr0 := fr 0
    have fr1 := fr 1
    have fr2 := fr 2
    have e0 := cell_of g2 0
    have e1 := cell_of g2 1
    have e2 := cell_of g2 2
    have HFN := Lib.hid (box3 g2 ⟨#[]⟩ ⟨#[]⟩ false)
    clear fr g2 hb2
    go_wp2
    have q0 := cell_of HFN.out 0
    have q1 := cell_of HFN.out 1
    have q2 := cell_of HFN.out 2
    refine bodyPost_ret (v := .tuple #[.agg #[.string ⟨#[]⟩, .string ⟨#[]⟩, .bool false], .bool false, .int .i64 0]) (by simp [results, Try.results16, go_sem, q0, q1, q2]) rfl ⟨rfl, ?_⟩
    exact below3 HB2.out (Nat.le_refl _) _ _ _
theorem posn_self {L : List Pr} (hs : Sorted L) {i : Nat} (h : i < L.length) : posn L[i].k L = i := by
  have h1 := posn_lt h hs (k := L[i].k)
  rw [lt_irrefl] at h1
  have h2 : ¬ i < posn L[i].k L := by simpa using h1.symm
  cases i with
  | zero => omega
  | succ j =>
    have h3 := posn_lt (show j < L.length by omega) hs (k := L[j + 1].k)
    have h4 : lt L[j].k L[j + 1].k = true := List.pairwise_iff_getElem.1 hs _ _ (by omega) h (by omega)
    rw [h4] at h3
    have h5 : j < posn L[j + 1].k L := by simpa using h3.symm
    omega
set_option maxRecDepth 20000 in
set_option maxHeartbeats 4000000 in
/-- The key of pair i. -/
theorem get_some {w : World} {S : Nat → Prop} {B q p : Nat} {nm : ByteArray} {L : List Pr} {A : Option Addr} {c : Nat} {D : St} {Bt : List UInt8} (h : RunAt w B q p nm L A c) (hd : FileAt w S p D nm Bt) (hL : (rb L).length ≤ 16777216) (hlen : L.length ≤ 1000000) (hs : Sorted L) (i : Nat) (hi : i < L.length) (hm : may L[i] = true) :
    Calls Try.prog 16 #[.pointer (some ⟨q, 0, none⟩), .string L[i].k] w fun e w' => e = answer (got Bt L i).1 ((got Bt L i).2 == 0) (got Bt L i).2 ∧ Below w.heap.size w w' := by
  obtain ⟨W, hW⟩ : ∃ W, W = w.alloc (.cells #[.string ⟨#[]⟩, .string ⟨#[]⟩, .bool false] 39) := ⟨_, rfl⟩
  have hb0 : Below w.heap.size w W := by rw [hW]; exact (Below.refl _ w).alloc (Nat.le_refl _) _
  have hx : W.heap[w.heap.size]? = some (pairO ⟨⟨#[]⟩, ⟨#[]⟩, false⟩) := by rw [hW]; exact Wd9.heap_new w _
  have hrun := h.below hb0
  have hfil := hd.below hb0
  have c3 := cell_of hrun.blk 3
  obtain ⟨N, hN⟩ : ∃ N, N = L.length := ⟨_, rfl⟩
  have HPl := place_any W A c L hrun.row hlen hs L[i].k
  rw [posn_self hs hi] at HPl
  have hRd : ∀ V, Below W.heap.size W V → Calls Try.prog 36 #[.pointer (some ⟨q, 0, none⟩), .agg #[.string L[i].k, .int .i64 (plc L i : Nat), .string (bs (fr (tx L[i])))]] V fun e w' =>
      e = .returned (.tuple #[.agg #[.string (got Bt L i).1.k, .string (got Bt L i).1.v, .bool (got Bt L i).1.g], .int .i64 (got Bt L i).2]) ∧ Below V.heap.size V w' := fun V hV => read_any (hrun.below hV) (hfil.below hV) hL i hi hm
  have hcell : ∀ V, Below W.heap.size W V → ∃ b o, A = some ⟨b, o, none⟩ ∧ V.cell? ⟨b, o + i * 3, none⟩ = some (.string L[i].k) ∧ V.cell? ⟨b, o + i * 3 + 1, none⟩ = some (.int .i64 (plc L i : Nat)) ∧ V.cell? ⟨b, o + i * 3 + 2, none⟩ = some (.string (bs (fr (tx L[i])))) ∧
      V.cell? ⟨q, 3, none⟩ = some (.slice A N c) ∧ V.heap[w.heap.size]? = some (pairO ⟨⟨#[]⟩, ⟨#[]⟩, false⟩) := fun V hV => by
    have hr2 := hrun.below hV
    obtain ⟨b, o, e, _, p0, p1, p2⟩ := spot_at hr2.row hi
    have c3' := cell_of hr2.blk 3
    rw [← hN] at c3'
    exact ⟨b, o, e, p0, p1, p2, c3', (hV.block _ (lt_of_at hx)).trans hx⟩
  rw [← hN] at HPl c3 hlen hi
  obtain ⟨xk, hxk⟩ : ∃ xk, xk = L[i].k := ⟨_, rfl⟩
  obtain ⟨O, hO⟩ : ∃ O : Int, O = (plc L i : Nat) := ⟨_, rfl⟩
  obtain ⟨f, hf⟩ : ∃ f, f = bs (fr (tx L[i])) := ⟨_, rfl⟩
  rw [← hxk] at HPl hcell hRd ⊢
  rw [← hO, ← hf] at hcell hRd
  obtain ⟨y, hy⟩ : ∃ y, y = (got Bt L i).1 := ⟨_, rfl⟩
  obtain ⟨er, her⟩ : ∃ er, er = (got Bt L i).2 := ⟨_, rfl⟩
  rw [← hy, ← her] at hRd ⊢
  have HC := Lib.hid HPl
  have HB := Lib.hid hb0
  have HW := Lib.hid hW
  have HCL := Lib.hid hcell
  have HRD := Lib.hid hRd
  unfold answer
  have hne4 : ((i : Int) == (N : Int)) = false := by simp; omega
  have hne5 : (xk.toList != xk.toList) = false := by simp
  have hi1 : (0 : Int) ≤ (i : Int) := by omega
  have hi2 : (i : Int) < (N : Int) := by omega
  obtain ⟨yk, yv, yg⟩ := y
  dsimp only at *
  clear h hd hs hm hrun hfil HPl hx hb0 hcell hRd hxk hO hf hy her hN hL
  rw [hW] at c3
  clear hW
  go_enter Try.func16, Try.ntmps16
  go_wp2_with fail
  rw [← HW.out]
  refine HC.out.mono ?_
  rintro e w2 ⟨rfl, hb2⟩
  obtain ⟨b, o, rfl, p0, p1, p2, d3, g2⟩ := HCL.out w2 hb2
  have HRW := Lib.hid (HRD.out w2 hb2)
  have HB2 := Lib.hid (HB.out.trans (hb2.mono HB.out.size))
  have HG2 := Lib.hid g2
  clear g2 hb2
  go_wp2_with fail
  refine HRW.out.mono ?_
  rintro e w3 ⟨rfl, hb3⟩
  have g3 := (hb3.block _ (lt_of_at HG2.out)).trans HG2.out
  have fr := free_of g3
  have fr0 := fr 0
  have fr1 := fr 1
  have fr2 := fr 2
  have e0 := cell_of g3 0
  have e1 := cell_of g3 1
  have e2 := cell_of g3 2
  have hbx := box3 g3 yk yv yg
  have k0 := cell_of hbx 0
  have k1 := cell_of hbx 1
  have k2 := cell_of hbx 2
  have kr := free_of hbx
  have kr0 := kr 0
  have kr1 := kr 1
  have kr2 := kr 2
  have HFN := Lib.hid (box3 hbx yk yv yg)
  have HB3 := Lib.hid (below3 (below3 (HB2.out.trans (hb3.mono HB2.out.size)) (Nat.le_refl _) (.string yk) (.string yv) (.bool yg)) (Nat.le_refl _) (.string yk) (.string yv) (.bool yg))
  clear fr kr g3 hbx hb3 p0 p1 p2 d3
  go_wp2
  have q0 := cell_of HFN.out 0
  have q1 := cell_of HFN.out 1
  have q2 := cell_of HFN.out 2
  refine bodyPost_ret (v := .tuple #[.agg #[.string yk, .string yv, .bool yg], .bool (er == 0), .int .i64 er]) (by simp [results, Try.results16, go_sem, q0, q1, q2]) rfl ⟨rfl, ?_⟩
  exact HB3.out
end Go.Proofs.Ytmnaamjoikfpbaa.Ge10
