/- The contract of run.read: the pair that stands at a spot, if its frame is still what it was. -/
import Derived.Test.YtmnaamjoikfpbaaPc10
namespace Go.Proofs.Ytmnaamjoikfpbaa.Re10
open Go Go.RowKit Go.Proofs.Ytmnaamjoikfpbaa.Dh Go.Proofs.Ytmnaamjoikfpbaa.Fm Go.Proofs.Ytmnaamjoikfpbaa.Cl Go.Proofs.Ytmnaamjoikfpbaa.Nm Go.Proofs.Ytmnaamjoikfpbaa.St Go.Proofs.Ytmnaamjoikfpbaa.Fl7 Go.Proofs.Ytmnaamjoikfpbaa.Pm9 Go.Proofs.Ytmnaamjoikfpbaa.Mt9 Go.Proofs.Ytmnaamjoikfpbaa.Mg9 Go.Proofs.Ytmnaamjoikfpbaa.Fd10 Go.Proofs.Ytmnaamjoikfpbaa.Po10 Go.Proofs.Ytmnaamjoikfpbaa.So10 Go.Proofs.Ytmnaamjoikfpbaa.Sz10 Go.Proofs.Ytmnaamjoikfpbaa.On10 Go.Proofs.Ytmnaamjoikfpbaa.Pc10
/-- A disk that goes on, and has these bytes in that file. -/
structure FileAt (w : World) (S : Nat → Prop) (p : Nat) (D : St) (nm : ByteArray) (Bt : List UInt8) : Prop where
  full : Full w S p D
  still : D.still = false
  name : nameOk nm = true
  size : nm.size ≤ maxLen
  file : get D.now nm = some Bt
theorem FileAt.below {w w' : World} {S : Nat → Prop} {p : Nat} {D : St} {nm : ByteArray} {Bt : List UInt8} (h : FileAt w S p D nm Bt) (hb : Below w.heap.size w w') : FileAt w' S p D nm Bt := ⟨full_below h.full hb, h.still, h.name, h.size, h.file⟩
theorem FileAt.read {w : World} {S : Nat → Prop} {p : Nat} {D : St} {nm : ByteArray} {Bt : List UInt8} (h : FileAt w S p D nm Bt) (o n : Nat) : stRead D nm o n = ((Bt.drop o).take n, 0) := by
  unfold stRead
  rw [if_neg (by rw [h.still]; simp), if_neg (by rw [h.name]; simp), if_neg (by omega), h.file]
  rfl
/-- What is read at pair i's spot. -/
def got (Bt : List UInt8) (L : List Pr) (i : Nat) : Pr × Int := if fine Bt L i then (L.getD i zp, 0) else (zp, 71)
theorem got_fine {Bt : List UInt8} {L : List Pr} {i : Nat} (h : i < L.length) (hf : fine Bt L i = true) : got Bt L i = (L[i], 0) := by
  unfold got; rw [hf]; simp [List.getD, List.getElem?_eq_getElem h]
theorem got_bad {Bt : List UInt8} {L : List Pr} {i : Nat} (hf : fine Bt L i = false) : got Bt L i = (zp, 71) := by
  unfold got; rw [hf]; rfl
theorem bs_ne {l m : List UInt8} (h : l ≠ m) : ((bs l).toList != (bs m).toList) = true := by
  rw [ByteArray.toList_eq, ByteArray.toList_eq]; simpa [bs] using h
abbrev spotO (k : ByteArray) (o : Int) (f : ByteArray) : Obj := .cells #[.string k, .int .i64 o, .string f] 84 (0, 0)
set_option maxRecDepth 20000 in
set_option maxHeartbeats 4000000 in
theorem read_any {w : World} {S : Nat → Prop} {B q p : Nat} {nm : ByteArray} {L : List Pr} {A : Option Addr} {c : Nat} {D : St} {Bt : List UInt8} (h : RunAt w B q p nm L A c) (hd : FileAt w S p D nm Bt) (hL : (rb L).length ≤ 16777216) (i : Nat) (hi : i < L.length) (hm : may L[i] = true) :
    Calls Try.prog 36 #[.pointer (some ⟨q, 0, none⟩), .agg #[.string L[i].k, .int .i64 (plc L i : Nat), .string (bs (fr (tx L[i])))]] w fun e w' =>
      e = .returned (.tuple #[.agg #[.string (got Bt L i).1.k, .string (got Bt L i).1.v, .bool (got Bt L i).1.g], .int .i64 (got Bt L i).2]) ∧ Below w.heap.size w w' := by
  obtain ⟨hcut, hle⟩ := rb_cut L i hi
  have htail := fr_tail (tx L[i])
  have hfi := fine_iff (B := Bt) hi
  have hgf := got_fine (Bt := Bt) hi
  have hgb := got_bad (Bt := Bt) (L := L) (i := i)
  have hPc := fun W => pair_any W L[i] hm
  have hfl := fr_len (tx L[i])
  have hrd := hd.read (plc L i) (fr (tx L[i])).length
  obtain ⟨x, hx⟩ : ∃ x, x = L[i] := ⟨_, rfl⟩
  obtain ⟨F, hF⟩ : ∃ F, F = fr (tx x) := ⟨_, rfl⟩
  rw [← hx] at htail hfi hgf hPc hfl hrd hle ⊢
  rw [← hF] at htail hfi hfl hrd ⊢
  obtain ⟨O, hO⟩ : ∃ O, O = plc L i := ⟨_, rfl⟩
  rw [← hO] at hle hfi hrd ⊢
  obtain ⟨xk, xv, xg⟩ := x
  dsimp only at *
  -- the two boxes of the call's own
  obtain ⟨W, hW⟩ : ∃ W, W = (w.alloc (spotO xk (O : Int) (bs F))).alloc (pairO ⟨⟨#[]⟩, ⟨#[]⟩, false⟩) := ⟨_, rfl⟩
  have hb0 : Below w.heap.size w W := by rw [hW]; exact ((Below.refl _ w).alloc (Nat.le_refl _) _).alloc (by rw [Wd9.size_alloc]; omega) _
  have hs1 : W.heap[w.heap.size]? = some (spotO xk (O : Int) (bs F)) := by rw [hW, Wd9.heap_alloc _ _ _ (by rw [Wd9.size_alloc]; omega)]; exact Wd9.heap_new w _
  have hs2 : W.heap[w.heap.size + 1]? = some (pairO ⟨⟨#[]⟩, ⟨#[]⟩, false⟩) := by
    rw [hW]
    have := Wd9.heap_new (w.alloc (spotO xk (O : Int) (bs F))) (pairO ⟨⟨#[]⟩, ⟨#[]⟩, false⟩)
    rw [Wd9.size_alloc] at this; exact this
  have HK : Hid (∀ V, Below W.heap.size W V → V.cell? ⟨q, 0, none⟩ = some (.pointer (some ⟨p, 0, none⟩)) ∧ V.cell? ⟨q, 1, none⟩ = some (.string nm) ∧ V.cell? ⟨w.heap.size, 1, none⟩ = some (.int .i64 (O : Int)) ∧ V.cell? ⟨w.heap.size, 2, none⟩ = some (.string (bs F))) := Lib.hid fun V hV => by
    have hr := (h.below hb0).below hV
    have h1 := (hV.block _ (lt_of_at hs1)).trans hs1
    exact ⟨cell_of hr.blk 0, cell_of hr.blk 1, cell_of h1 1, cell_of h1 2⟩
  have HS2 := Lib.hid hs2
  have HB0 := Lib.hid hb0
  have HRD : Hid (∀ V, Below W.heap.size W V → Calls Try.prog 31 #[.pointer (some ⟨p, 0, none⟩), .string nm, .int .i64 (O : Int), .int .i64 ((bs F).size : Int)] V fun e w' => e = .returned (.tuple #[.string (bs ((Bt.drop O).take F.length)), .int .i64 0]) ∧ Below V.heap.size V w') := Lib.hid fun V hV => by
    have := Rp.read_at ((hd.below hb0).below hV).full nm (O : Int) ((bs F).size : Int) hd.size (by omega) (by rw [bs_size]; omega)
    rw [bs_size, hrd] at this
    rw [bs_size]
    exact this.mono fun e w' y => ⟨y.1, by rw [y.2]; exact (Below.refl _ V).alloc (Nat.le_refl _) _⟩
  obtain ⟨R, hR⟩ : ∃ R, R = (Bt.drop O).take F.length := ⟨_, rfl⟩
  rw [← hR] at HRD hfi
  have c0 := (HK.out W (Below.refl _ _)).1
  have c1 := (HK.out W (Below.refl _ _)).2.1
  have c2 := (HK.out W (Below.refl _ _)).2.2.1
  have c3 := (HK.out W (Below.refl _ _)).2.2.2
  have HX0 : Hid (Below W.heap.size W W.drew) := Lib.hid (Below.refl _ _).drew
  have hz12 : (12 : Int) ≤ ((bs F).size : Int) := by rw [bs_size]; omega
  have HP := Lib.hid hPc
  rw [hW] at c0 c1 c2 c3
  have HW : Hid (W = (w.alloc (.cells #[.string xk, .int .i64 (O : Int), .string (bs F)] 84)).alloc (.cells #[.string ⟨#[]⟩, .string ⟨#[]⟩, .bool false] 39)) := Lib.hid hW
  have hne := fun h : R ≠ F => bs_ne h
  obtain ⟨f, hf⟩ : ∃ f, f = bs F := ⟨_, rfl⟩
  have hRF : R = F → bs R = f := fun h => by rw [h, hf]
  rw [← hf] at htail hne HRD HK c3 hz12 HW ⊢
  obtain ⟨tt, htt⟩ : ∃ tt, tt = bs (tx ⟨xk, xv, xg⟩) := ⟨_, rfl⟩
  rw [← htt] at htail HP
  cases hfx : fine Bt L i
  · have hgb := hgb hfx
    have hn : R ≠ F := fun e => by rw [hfi.2 e] at hfx; cases hfx
    have hne2 := hne hn
    clear hne
    rw [hgb]
    obtain ⟨r, hr⟩ : ∃ r, r = bs R := ⟨_, rfl⟩
    rw [← hr] at hne2 HRD
    have hne1 : (r.toList == f.toList) = false := by simpa [bne] using hne2
    have hne3 : ¬ r.toList = f.toList := by simpa using hne1
    clear hr hn hfx hgb hgf hfi hRF hf htt hR hd h hi hm hle hcut hPc hfl hrd hx hF hO hb0 hs1 hs2 hW htail hL HP
    dsimp only [zp]
    go_enter Try.func36, Try.ntmps36
    go_wp2
    rw [← HW.out]
    go_region_held3 (fun V => V.cell? ⟨q, 0, none⟩ = some (.pointer (some ⟨p, 0, none⟩)) ∧ V.cell? ⟨q, 1, none⟩ = some (.string nm) ∧ V.cell? ⟨w.heap.size, 1, none⟩ = some (.int .i64 (O : Int)) ∧ V.cell? ⟨w.heap.size, 2, none⟩ = some (.string f)) (first | exact HK.out _ (Hid.out (by assumption)) | go_keep) (first
      | ((with_reducible refine (HRD.out _ (Hid.out HX0)).mono ?_); rintro e V1 ⟨rfl, hb1⟩; have HX1 := By10.chain HX0 hb1; clear hb1))
    have g2 := (HX1.out.block _ (lt_of_at HS2.out)).trans HS2.out
    obtain ⟨d0, d1, d2, d3⟩ := HK.out V1 HX1.out
    have fr := free_of g2
    have fr0 := fr 0
    have fr1 := fr 1
    have fr2 := fr 2
    have e0 := cell_of g2 0
    have e1 := cell_of g2 1
    have e2 := cell_of g2 2
    have HFN := Lib.hid (box3 g2 ⟨#[]⟩ ⟨#[]⟩ false)
    clear fr g2
    go_wp2
    have q0 := cell_of HFN.out 0
    have q1 := cell_of HFN.out 1
    have q2 := cell_of HFN.out 2
    refine bodyPost_ret (v := .tuple #[.agg #[.string ⟨#[]⟩, .string ⟨#[]⟩, .bool false], .int .i64 71]) (by simp [results, Try.results36, go_sem, q0, q1, q2]) rfl ⟨rfl, ?_⟩
    exact below3 (HB0.out.trans (HX1.out.mono HB0.out.size)) (by omega) _ _ _
  · have hgf := hgf hfx
    have hRe : R = F := hfi.1 hfx
    have hrf := hRF hRe
    rw [hgf]
    rw [hrf] at HRD
    have hne2 : (f.toList != f.toList) = false := by simp
    clear hne hRe hfx hgb hgf hfi hRF hf htt hR hd h hi hm hle hcut hPc hfl hrd hx hF hO hb0 hs1 hs2 hW hL hrf
    go_enter Try.func36, Try.ntmps36
    go_wp2
    rw [← HW.out]
    go_region_held3 (fun V => V.cell? ⟨q, 0, none⟩ = some (.pointer (some ⟨p, 0, none⟩)) ∧ V.cell? ⟨q, 1, none⟩ = some (.string nm) ∧ V.cell? ⟨w.heap.size, 1, none⟩ = some (.int .i64 (O : Int)) ∧ V.cell? ⟨w.heap.size, 2, none⟩ = some (.string f)) (first | exact HK.out _ (Hid.out (by assumption)) | go_keep) (first
      | ((with_reducible refine (HRD.out _ (Hid.out HX0)).mono ?_); rintro e V1 ⟨rfl, hb1⟩; have HX1 := By10.chain HX0 hb1; clear hb1))
    have g2 := (HX1.out.block _ (lt_of_at HS2.out)).trans HS2.out
    have HG2 := Lib.hid g2
    obtain ⟨d0, d1, d2, d3⟩ := HK.out V1 HX1.out
    have HV1 := Lib.hid (HB0.out.trans (HX1.out.mono HB0.out.size))
    clear g2
    go_wp2_with fail
    refine (HP.out V1).mono ?_
    rintro e V2 ⟨rfl, hb2⟩
    obtain ⟨V3, hV3⟩ : ∃ V3, V3 = V2.alloc (.cells #[.string xk, .string xv, .bool xg] 39) := ⟨_, rfl⟩
    have g3 : V3.heap[w.heap.size + 1]? = some (pairO ⟨⟨#[]⟩, ⟨#[]⟩, false⟩) := by
      have h1 := (hb2.block _ (lt_of_at HG2.out)).trans HG2.out
      rw [hV3, Wd9.heap_alloc _ _ _ (lt_of_at h1)]; exact h1
    have g4 : V3.heap[V2.heap.size]? = some (pairO ⟨xk, xv, xg⟩) := by rw [hV3]; exact Wd9.heap_new V2 _
    have hb3 : Below w.heap.size w V3 := by
      have := HV1.out.trans (hb2.mono HV1.out.size)
      rw [hV3]; exact this.alloc this.size _
    have fr := free_of g3
    have fr0 := fr 0
    have fr1 := fr 1
    have fr2 := fr 2
    have e0 := cell_of g3 0
    have e1 := cell_of g3 1
    have e2 := cell_of g3 2
    have k0 := cell_of g4 0
    have k1 := cell_of g4 1
    have k2 := cell_of g4 2
    have HFN := Lib.hid (box3 g3 xk xv xg)
    have HB3 := Lib.hid hb3
    rw [hV3] at fr0 fr1 fr2 e0 e1 e2 k0 k1 k2
    have HV3 := Lib.hid hV3
    clear fr g3 g4 hb3 hV3 hb2 d0 d1 d2 d3
    go_wp2
    rw [← HV3.out]
    have q0 := cell_of HFN.out 0
    have q1 := cell_of HFN.out 1
    have q2 := cell_of HFN.out 2
    refine bodyPost_ret (v := .tuple #[.agg #[.string xk, .string xv, .bool xg], .int .i64 0]) (by simp [results, Try.results36, go_sem, q0, q1, q2]) rfl ⟨rfl, ?_⟩
    exact below3 HB3.out (by omega) _ _ _
end Go.Proofs.Ytmnaamjoikfpbaa.Re10
