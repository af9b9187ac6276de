/- The document's Put. -/
import Derived.Test.YtmnaamjoikfpbaaRp9
namespace Go.Proofs.Ytmnaamjoikfpbaa.Rq9
open Go Go.RowKit Go.Proofs.Ytmnaamjoikfpbaa.Pm9 Go.Proofs.Ytmnaamjoikfpbaa.Wd9 Go.Proofs.Ytmnaamjoikfpbaa.Mt9 Go.Proofs.Ytmnaamjoikfpbaa.Mm9 Go.Proofs.Ytmnaamjoikfpbaa.Sn9 Go.Proofs.Ytmnaamjoikfpbaa.Rd9 Go.Proofs.Ytmnaamjoikfpbaa.Ah9 Go.Proofs.Ytmnaamjoikfpbaa.Rg9 Go.Proofs.Ytmnaamjoikfpbaa.Rp9
/-- What is there when x is put, pair by pair; d: x is there already. -/
def rput (x : Pr) : Bool → List Pr → List Pr
  | d, [] => if d then [] else [x]
  | d, q :: l => (if d then [] else if lt q.k x.k then [] else [x]) ++ ((if q.k.toList == x.k.toList then [] else [q]) ++ rput x (d || !lt q.k x.k) l)
theorem rput_done {x : Pr} : ∀ {l : List Pr}, (∀ q ∈ l, lt x.k q.k = true) → rput x true l = l
  | [], _ => rfl
  | q :: l, h => by
    have h1 := h q List.mem_cons_self
    have he : (q.k.toList == x.k.toList) = false := by
      cases hc : q.k.toList == x.k.toList
      · rfl
      · exact absurd (bytes_ext (by simpa using hc)) (lt_ne h1).symm
    simp only [rput, if_true, he, Bool.false_eq_true, if_false, Bool.true_or, List.nil_append]
    rw [rput_done fun y hy => h y (List.mem_cons_of_mem _ hy)]; rfl
theorem rput_ins {x : Pr} : ∀ {l : List Pr}, Sorted l → rput x false l = ins x l
  | [], _ => rfl
  | q :: l, h => by
    cases h1 : lt x.k q.k
    · cases h2 : lt q.k x.k
      · have e := lt_total h1 h2
        have he : (q.k.toList == x.k.toList) = true := by rw [e]; simp
        simp only [rput, Bool.false_eq_true, if_false, h2, he, if_true, Bool.not_false, Bool.or_true, List.nil_append]
        rw [rput_done fun y hy => by rw [e]; exact h.head y hy, ins_here e]; rfl
      · have he : (q.k.toList == x.k.toList) = false := by
          cases hc : q.k.toList == x.k.toList
          · rfl
          · exact absurd (bytes_ext (by simpa using hc)) (lt_ne h2)
        simp only [rput, Bool.false_eq_true, if_false, h2, he, if_true, Bool.not_true, Bool.or_self, List.nil_append]
        rw [rput_ins h.tail]
        show _ = (if lt x.k q.k = true then _ else if lt q.k x.k = true then _ else _)
        rw [h1, h2]; rfl
    · have h2 := lt_asymm h1
      have he : (q.k.toList == x.k.toList) = false := by
        cases hc : q.k.toList == x.k.toList
        · rfl
        · exact absurd (bytes_ext (by simpa using hc)) (lt_ne h1).symm
      simp only [rput, Bool.false_eq_true, if_false, h2, he, Bool.not_false, Bool.or_true]
      rw [rput_done fun y hy => lt_trans h1 (h.head y hy)]
      show _ = (if lt x.k q.k = true then _ else _)
      rw [h1]; rfl
theorem rput_len (x : Pr) : ∀ (d : Bool) (l : List Pr), (rput x d l).length ≤ l.length + 1 + l.length
  | d, [] => by cases d <;> simp [rput]
  | d, q :: l => by
    have := rput_len x (d || !lt q.k x.k) l
    simp only [rput, List.length_append, List.length_cons]
    have h1 : (if d then ([] : List Pr) else if lt q.k x.k then [] else [x]).length ≤ 1 := by cases d <;> cases lt q.k x.k <;> simp
    have h2 : (if q.k.toList == x.k.toList then ([] : List Pr) else [q]).length ≤ 1 := by cases q.k.toList == x.k.toList <;> simp
    omega
/-- What Put leaves of the document's mem. -/
def RefTo (w : World) (q : Nat) (A : Option Addr) (L0 L : List Pr) (w' : World) : Prop :=
  ∃ A' c', RefAt w' q A' c' L ∧ Tread (· = q) w w' ∧ ((A' = A ∧ L = L0) ∨ ∀ a, A' = some a → w.heap.size ≤ a.block)
theorem ref_same {w w' : World} {q : Nat} {A : Option Addr} {c : Nat} {L : List Pr} (h : RefAt w q A c L) (hb : Below w.heap.size w w') : RefTo w q A L L w' := ⟨A, c, h.keep (Nat.le_refl _) hb, Tread.of_below hb, .inl ⟨rfl, rfl⟩⟩
theorem ref_new {w W : World} {q : Nat} {A B : Option Addr} {c c' n0 : Nat} {L M : List Pr} (h : RefAt w q A c L) (hb : Below w.heap.size w W) (hn : w.heap.size ≤ n0) (hr : Row9 n0 M (.slice B M.length c') W) : RefTo w q A L M (W.setCell ⟨q, 0, none⟩ (.slice B M.length c')) := by
  have hq := lt_of_at h.ref
  have hr0 := (hb.block q hq).trans h.ref
  refine ⟨B, c', ⟨setCell_heap hr0 0 _, fun hne => ?_⟩, tread_join (Tread.of_below hb) (Tread.setCell _ _ _ (.inl rfl)), .inr fun a ha => ?_⟩
  · obtain ⟨b, o, e, h1, h2⟩ := reads_of_own hr hne
    have hb0 := hr.own_lt b (by rw [e]; rcases hr.2 with ⟨hv, h0⟩ | ⟨g, cap, cur, hv, _⟩
                                · exact absurd (List.length_pos_iff.2 hne) (by omega)
                                · injection hv with hv; rw [e] at hv; injection hv with hv; injection hv with hv _; subst hv; rw [‹o = 0›]; rfl)
    have hbq : b ≠ q := by omega
    refine ⟨b, o, e, by rw [setCell_size]; exact h1, fun k hk => ?_⟩
    have hc : ∀ i, (W.setCell ⟨q, 0, none⟩ (.slice B M.length c')).cell? ⟨b, i, none⟩ = W.cell? ⟨b, i, none⟩ := fun i => by
      have := setCell_ne W ⟨q, 0, none⟩ (.slice B M.length c') b hbq
      simp [World.cell?, this]
    obtain ⟨x0, x1, x2⟩ := h2 k hk
    exact ⟨(hc _).trans x0, (hc _).trans x1, (hc _).trans x2⟩
  · rcases hr.2 with ⟨hv, h0⟩ | ⟨g, cap, cur, hv, hg, _⟩
    · injection hv with hv; rw [hv] at ha; cases ha
    · injection hv with hv; rw [hv] at ha; cases ha; exact Nat.le_trans hn hg
/-- What is known in each world of the loop: the pair, the row's cell, the box. -/
def Known (W : World) (q : Nat) (L : List Pr) (A : Option Addr) (N c bx : Nat) (x : Pr) : Prop :=
  W.cell? ⟨q, 0, none⟩ = some (.slice A N c) ∧ W.cell? ⟨bx, 0, none⟩ = some (.string x.k) ∧ W.cell? ⟨bx, 1, none⟩ = some (.string x.v) ∧ W.cell? ⟨bx, 2, none⟩ = some (.bool x.g) ∧ Reads W A L
theorem room_for (n : Nat) (h : n ≤ 2199023255552 + 1) : n + 1 ≤ maxLen ∧ (n + 1) * 40 ≤ 140737488355328 := ⟨by unfold maxLen; omega, by omega⟩
theorem rput_cons (x y : Pr) (d : Bool) (l : List Pr) : rput x d (y :: l) = (if d then [] else if lt y.k x.k then [] else [x]) ++ ((if y.k.toList == x.k.toList then [] else [y]) ++ rput x (d || !lt y.k x.k) l) := rfl
theorem below_dn {n1 : Nat} {w V : World} (h : Below n1 w V) (n : Nat) : Below n1 w (V.drewN n) := by
  induction n generalizing V with
  | zero => exact h
  | succ n ih => exact (ih h).drew
theorem row_dn {n1 : Nat} {m : List Pr} {v : Value} {V : World} (h : Row9 n1 m v V) (n : Nat) : Row9 n1 m v (V.drewN n) := h.keep (below_dn (Below.refl _ _) n)
/-- One append. -/
theorem put_step {n1 : Nat} {W0 W : World} {m : List Pr} {v : Value} (y : Pr) (hrow : Row9 n1 m v W) (hB : Below n1 W0 W) (hn : n1 ≤ W0.heap.size) :
    (W.alloc (pairO y)).ownsRow n1 39 3 v m.length (cellsP m) ∧ (∀ j u, (cells3 y)[j]? = some u → (W.alloc (pairO y)).cell? ((⟨W.heap.size, 0, none⟩ : Addr).add j) = some u) ∧ n1 ≤ (W.alloc (pairO y)).heap.size :=
  ⟨hrow.alloc _, news3 W y, by have := hB.size; rw [size_alloc]; omega⟩
set_option maxRecDepth 20000 in
set_option maxHeartbeats 8000000 in
theorem rput_loop {w : World} {q : Nat} {A : Option Addr} {c : Nat} {L : List Pr} (h : RefAt w q A c L) (hf : Fine L) (hs : Sorted L) (x : Pr) (hk : x.k.size ≤ 140737488351232) (hv : x.v.size ≤ 140737488351232) :
    Calls Try.prog 23 #[.pointer (some ⟨q, 0, none⟩), .agg #[.string x.k, .string x.v, .bool x.g]] w fun e w' => e = .returned (.int .i64 (erg (may x))) ∧ RefTo w q A L (Pm9.put x L) w' := by
  obtain ⟨i0, hi, hz0, hz1, hz2⟩ := info_parts infoP
  obtain ⟨W, hW⟩ : ∃ W, W = w.alloc (.cells #[.string x.k, .string x.v, .bool x.g] 39) := ⟨_, rfl⟩
  have hb : Below w.heap.size w W := by rw [hW]; exact (Below.refl w.heap.size w).alloc (Nat.le_refl _) _
  have hbox : W.heap[w.heap.size]? = some (pairO x) := by rw [hW]; exact heap_new _ _
  have hsz : W.heap.size = w.heap.size + 1 := by rw [hW, size_alloc]
  have HM := Lib.hid (may_any W x hk hv)
  have HB := Lib.hid hb
  have H := Lib.hid h
  have b0 := cell_of hbox 0
  have b1 := cell_of hbox 1
  have b2 := cell_of hbox 2
  have HBX := Lib.hid hbox
  cases hmay : may x
  · rw [hmay] at HM
    have hput : Pm9.put x L = L := by unfold Pm9.put; rw [hmay]; rfl
    rw [hput]
    rw [hW] at b0 b1 b2
    have HW := Lib.hid hW
    clear hput hmay hb hbox h hW
    go_enter Try.func23, Try.ntmps23
    go_wp2_with (go_at_call 42; rw [← HW.out]; (with_reducible refine HM.out.mono ?_); rintro e w2 ⟨rfl, hb2⟩)
    go_ret
    exact ⟨rfl, ref_same H.out (HB.out.trans (hb2.mono HB.out.size))⟩
  · rw [hmay] at HM
    have hput : Pm9.put x L = rput x false L := by unfold Pm9.put; rw [hmay, rput_ins hs]; rfl
    rw [hput]
    rw [hW] at b0 b1 b2
    have HW := Lib.hid hW
    obtain ⟨N, hN⟩ : ∃ N, N = L.length := ⟨_, rfl⟩
    have hl1 := hf.1
    rw [← hN] at hl1
    have HN := Lib.hid hN
    have HF := Lib.hid hf.2
    clear hput hmay hb hbox h hW hf hN hs
    go_enter Try.func23, Try.ntmps23
    go_wp2_with (go_at_call 42; rw [← HW.out]; (with_reducible refine HM.out.mono ?_); rintro e w2 ⟨rfl, hb2⟩; have HB2 := Lib.hid (HB.out.trans (hb2.mono HB.out.size)); have HX2 := Lib.hid ((hb2.block w.heap.size (lt_of_at HBX.out)).trans HBX.out); have hs2 := hb2.size; clear hb2)
    obtain ⟨n1, hn1⟩ : ∃ n1, n1 = w2.heap.size := ⟨_, rfl⟩
    have hn2 : w.heap.size + 1 ≤ n1 := by omega
    have HKN : Hid (∀ V, Below n1 w2 V → Known V q L A N c w.heap.size x) := Lib.hid fun V hV => by
      have hr := (H.out.keep (Nat.le_refl _) HB2.out).keep (B := n1) (by omega) hV
      have hx := (hV.block w.heap.size (by omega)).trans HX2.out
      have c0 := cell_of hr.ref 0
      rw [← HN.out] at c0
      exact ⟨c0, cell_of hx 0, cell_of hx 1, cell_of hx 2, hr.reads⟩
    have HN1 := Lib.hid hn1
    clear hs2 hsz hn1 b0 b1 b2
    go_loopw [5, 6, 7, 11, 12, 13, 14, 15, 16, 17, 18, 19, 20, 21, 22, 23, 24, 25, 26, 27, 28, 29, 30, 31, 32, 33, 34, 35, 36, 37, 38, 39, 40, 41, 42, 43, 44, 45, 46, 47, 48, 49, 50, 51, 52, 53, 54, 55, 56, 57, 58, 59, 60] (fun v d i _ _ _ _ _ _ _ _ _ _ _ _ _ _ _ _ _ _ _ _ _ _ _ _ _ _ _ _ _ _ _ _ _ _ _ _ _ _ _ _ _ _ _ _ _ _ _ _ _ _ wr => ∃ (k : Nat) (m : List Pr) (b : Bool), k ≤ N ∧ i = .int .i64 k ∧ d = .bool b ∧ m.length ≤ 2 * k ∧ Hid (m ++ rput x b (L.drop k) = rput x false L) ∧ Hid (Row9 n1 m v wr) ∧ Hid (Below n1 w2 wr)) (fun _ _ i _ _ _ _ _ _ _ _ _ _ _ _ _ _ _ _ _ _ _ _ _ _ _ _ _ _ _ _ _ _ _ _ _ _ _ _ _ _ _ _ _ _ _ _ _ _ _ _ _ _ _ => N - (intOf i).toNat)
    case atStart => exact ⟨0, [], false, by omega, rfl, rfl, by simp, Lib.hid (by simp), Lib.hid (row_nil _ _), Lib.hid (Below.refl _ _)⟩
    case round =>
      obtain ⟨k, m, b, hkN, rfl, rfl, hml, hm, hrow, hB⟩ := hrel
      obtain ⟨c0, b0, b1, b2, hrd⟩ := HKN.out _ hB.out
      obtain ⟨A1, c1, rfl⟩ := hrow.out.shape
      have H63 := Lib.hid (room_for m.length (by omega)).1
      have HBY := Lib.hid (room_for m.length (by omega)).2
      by_cases hlt : k < N
      · have hil : k < L.length := by rw [← HN.out]; exact hlt
        have hds := List.drop_eq_getElem_cons hil
        have hys := HF.out _ (List.getElem_mem hil)
        obtain ⟨bb, o, rfl, p0, p1, p2⟩ := hrd.at_ hil
        have HT : Hid (∀ V, Below n1 w2 V → Three V bb (o + k * 3) L[k]) := Lib.hid fun V hV => by
          obtain ⟨_, _, _, _, hr2⟩ := HKN.out V hV
          obtain ⟨b3, o3, e3, f3⟩ := hr2.at_ hil
          cases e3
          exact f3
        obtain ⟨y, hy⟩ : ∃ y, y = L[k] := ⟨_, rfl⟩
        rw [← hy] at hds p0 p1 p2 hys HT
        have hm2 := hm.out
        rw [hds] at hm2
        have HA := Lib.hid (fun V => ahead_any V y.k x.k hys.1 hk)
        clear hds hy hil hrd hm
        cases b
        · cases hl : lt y.k x.k
          · skip
            cases he : y.k.toList == x.k.toList
            · have he2 : (y.k.toList != x.k.toList) = true := by simp [bne, he]
              have HFN : Hid ((m ++ [x]) ++ [y] ++ rput x true (L.drop (k + 1)) = rput x false L) := Lib.hid (by rw [← hm2, rput_cons, he]; simp [hl])
              clear hm2
              have hnw : n1 ≤ wr.heap.size := by have := hB.out.size; have := HN1.out; omega
              have HL : Hid (∀ V, Calls Try.prog 43 #[.string y.k, .string x.k] V fun e w' => e = .returned (.bool false) ∧ Below V.heap.size V w') := Lib.hid fun V => by have := HA.out V; rwa [hl] at this
              clear HA
              go_wp2
              go_region_held3 (fun V => V.cell? ⟨q, 0, none⟩ = some (.slice (some ⟨bb, o, none⟩) N c) ∧ V.cell? ⟨bb, o + k * 3, none⟩ = some (.string y.k) ∧ V.cell? ⟨w.heap.size, 0, none⟩ = some (.string x.k)) (go_keep) (first
                | (go_at_call 43; (with_reducible refine (HL.out _).mono ?_); rintro e V1 ⟨rfl, hb1⟩
                   have hBV1 : Below n1 w2 V1 := hB.out.drew.trans (Below.mono hb1 hnw)
                   have hrV1 : Row9 n1 m (.slice A1 m.length c1) V1 := (row_dn hrow.out 1).keep hb1
                   clear c0 b0 b1 b2 p0 p1 p2
                   obtain ⟨c0, b0, b1, b2, _⟩ := HKN.out _ hBV1
                   obtain ⟨p0, p1, p2⟩ := HT.out _ hBV1
                   have HV1 := Lib.hid (And.intro hBV1 hrV1)
                   clear hb1 hBV1 hrV1))
              obtain ⟨hBV1, hrV1⟩ := HV1.out
              have ha := put_step x hrV1 hBV1 (Nat.le_of_eq HN1.out)
              have HO := Lib.hid ha.1
              have HC := Lib.hid ha.2.1
              have HBS := Lib.hid ha.2.2
              have HRV := Lib.hid (And.intro hrV1 hBV1)
              clear ha
              go_wp2_with (at_builtin; refine wpList_append_own_at _ rfl _ _ 22 rfl n1 39 i0 _ 3 40 Try.underlying22 hi hz0 hz1 hz2 rfl (by decide) _ _ _ rfl HO.out ⟨V1.heap.size, 0, none⟩ 1 1 (cells3 x) rfl rfl HC.out (one3 x) H63.out HBY.out HBS.out ?_; intro vu1 u1 r1 r2 r3 r4; obtain ⟨Au1, cu1, rfl, o1, o2⟩ := app_ok HRV.out.1 HRV.out.2 (by have := HRV.out.2.size; have := HN1.out; omega) r1 r2; obtain ⟨c0, b0, b1, b2, _⟩ := HKN.out _ o2; obtain ⟨p0, p1, p2⟩ := HT.out _ o2; have HQu1 := Lib.hid (And.intro o1 o2); clear o1 o2 r1 r2 r3 r4 HO HC HBS)
              have hlen : (m ++ [x]).length = m.length + 1 := by simp
              have H64 := Lib.hid (room_for (m ++ [x]).length (by rw [hlen]; omega)).1
              have HBZ := Lib.hid (room_for (m ++ [x]).length (by rw [hlen]; omega)).2
              have HQx : Hid (Row9 n1 (m ++ [x]) (.slice Au1 (m ++ [x]).length cu1) u1) := Lib.hid (by rw [hlen]; exact HQu1.out.1)
              rw [← hlen]
              clear hlen
              go_quiet (fail)
              rename_i nq
              obtain ⟨V2, hV2⟩ : ∃ V, V = u1.drewN nq := ⟨_, rfl⟩
              have hBV2 : Below n1 w2 V2 := by rw [hV2]; exact below_dn HQu1.out.2 nq
              have hrV2 : Row9 n1 (m ++ [x]) (.slice Au1 (m ++ [x]).length cu1) V2 := by rw [hV2]; exact row_dn HQx.out nq
              rw [← hV2]
              clear c0 b0 b1 b2 p0 p1 p2
              obtain ⟨c0, b0, b1, b2, _⟩ := HKN.out _ hBV2
              obtain ⟨p0, p1, p2⟩ := HT.out _ hBV2
              clear hV2
              have ha := put_step y hrV2 hBV2 (Nat.le_of_eq HN1.out)
              have HO := Lib.hid ha.1
              have HC := Lib.hid ha.2.1
              have HBS := Lib.hid ha.2.2
              have HRV := Lib.hid (And.intro hrV2 hBV2)
              clear ha
              go_wp2_with (at_builtin; refine wpList_append_own_at _ rfl _ _ 22 rfl n1 39 i0 _ 3 40 Try.underlying22 hi hz0 hz1 hz2 rfl (by decide) _ _ _ rfl HO.out ⟨V2.heap.size, 0, none⟩ 1 1 (cells3 y) rfl rfl HC.out (one3 y) H64.out HBZ.out HBS.out ?_; intro vu2 u2 r1 r2 r3 r4; obtain ⟨Au2, cu2, rfl, o1, o2⟩ := app_ok HRV.out.1 HRV.out.2 (by have := HRV.out.2.size; have := HN1.out; omega) r1 r2; obtain ⟨c0, b0, b1, b2, _⟩ := HKN.out _ o2; obtain ⟨p0, p1, p2⟩ := HT.out _ o2; have HQu2 := Lib.hid (And.intro o1 o2); clear o1 o2 r1 r2 r3 r4 HO HC HBS)
              have hlen2 : ((m ++ [x]) ++ [y]).length = (m ++ [x]).length + 1 := by simp
              have HQy : Row9 n1 (m ++ [x] ++ [y]) (.slice Au2 (m.length + 1 + 1) cu2) u2 := by have h := HQu2.out.1; rwa [show (m ++ [x]).length = m.length + 1 by simp] at h
              exact ⟨⟨k + 1, (m ++ [x]) ++ [y], true, by omega, by go_num, rfl, by simp only [List.length_append, List.length_cons, List.length_nil]; omega, HFN, Lib.hid HQy, Lib.hid HQu2.out.2⟩, by simp [intOf]; omega⟩
            · have he2 : (y.k.toList != x.k.toList) = false := by simp [bne, he]
              have HFN : Hid ((m ++ [x]) ++ rput x true (L.drop (k + 1)) = rput x false L) := Lib.hid (by rw [← hm2, rput_cons, he]; simp [hl])
              clear hm2
              have hnw : n1 ≤ wr.heap.size := by have := hB.out.size; have := HN1.out; omega
              have HL : Hid (∀ V, Calls Try.prog 43 #[.string y.k, .string x.k] V fun e w' => e = .returned (.bool false) ∧ Below V.heap.size V w') := Lib.hid fun V => by have := HA.out V; rwa [hl] at this
              clear HA
              go_wp2
              go_region_held3 (fun V => V.cell? ⟨q, 0, none⟩ = some (.slice (some ⟨bb, o, none⟩) N c) ∧ V.cell? ⟨bb, o + k * 3, none⟩ = some (.string y.k) ∧ V.cell? ⟨w.heap.size, 0, none⟩ = some (.string x.k)) (go_keep) (first
                | (go_at_call 43; (with_reducible refine (HL.out _).mono ?_); rintro e V1 ⟨rfl, hb1⟩
                   have hBV1 : Below n1 w2 V1 := hB.out.drew.trans (Below.mono hb1 hnw)
                   have hrV1 : Row9 n1 m (.slice A1 m.length c1) V1 := (row_dn hrow.out 1).keep hb1
                   clear c0 b0 b1 b2 p0 p1 p2
                   obtain ⟨c0, b0, b1, b2, _⟩ := HKN.out _ hBV1
                   obtain ⟨p0, p1, p2⟩ := HT.out _ hBV1
                   have HV1 := Lib.hid (And.intro hBV1 hrV1)
                   clear hb1 hBV1 hrV1))
              obtain ⟨hBV1, hrV1⟩ := HV1.out
              have ha := put_step x hrV1 hBV1 (Nat.le_of_eq HN1.out)
              have HO := Lib.hid ha.1
              have HC := Lib.hid ha.2.1
              have HBS := Lib.hid ha.2.2
              have HRV := Lib.hid (And.intro hrV1 hBV1)
              clear ha
              go_wp2_with (at_builtin; refine wpList_append_own_at _ rfl _ _ 22 rfl n1 39 i0 _ 3 40 Try.underlying22 hi hz0 hz1 hz2 rfl (by decide) _ _ _ rfl HO.out ⟨V1.heap.size, 0, none⟩ 1 1 (cells3 x) rfl rfl HC.out (one3 x) H63.out HBY.out HBS.out ?_; intro vu1 u1 r1 r2 r3 r4; obtain ⟨Au1, cu1, rfl, o1, o2⟩ := app_ok HRV.out.1 HRV.out.2 (by have := HRV.out.2.size; have := HN1.out; omega) r1 r2; obtain ⟨c0, b0, b1, b2, _⟩ := HKN.out _ o2; obtain ⟨p0, p1, p2⟩ := HT.out _ o2; have HQu1 := Lib.hid (And.intro o1 o2); clear o1 o2 r1 r2 r3 r4 HO HC HBS)
              have hlen : (m ++ [x]).length = m.length + 1 := by simp
              have H64 := Lib.hid (room_for (m ++ [x]).length (by rw [hlen]; omega)).1
              have HBZ := Lib.hid (room_for (m ++ [x]).length (by rw [hlen]; omega)).2
              have HQx : Hid (Row9 n1 (m ++ [x]) (.slice Au1 (m ++ [x]).length cu1) u1) := Lib.hid (by rw [hlen]; exact HQu1.out.1)
              rw [← hlen]
              clear hlen
              go_quiet (fail)
              rename_i nq
              obtain ⟨V2, hV2⟩ : ∃ V, V = u1.drewN nq := ⟨_, rfl⟩
              have hBV2 : Below n1 w2 V2 := by rw [hV2]; exact below_dn HQu1.out.2 nq
              have hrV2 : Row9 n1 (m ++ [x]) (.slice Au1 (m ++ [x]).length cu1) V2 := by rw [hV2]; exact row_dn HQx.out nq
              rw [← hV2]
              clear c0 b0 b1 b2 p0 p1 p2
              obtain ⟨c0, b0, b1, b2, _⟩ := HKN.out _ hBV2
              obtain ⟨p0, p1, p2⟩ := HT.out _ hBV2
              clear hV2
              go_wp2
              exact ⟨⟨k + 1, (m ++ [x]), true, by omega, by go_num, rfl, by first | omega | (rw [List.length_append]; show m.length + 1 ≤ _; omega), HFN, Lib.hid hrV2, Lib.hid hBV2⟩, by simp [intOf]; omega⟩
          · skip
            cases he : y.k.toList == x.k.toList
            · have he2 : (y.k.toList != x.k.toList) = true := by simp [bne, he]
              have HFN : Hid (m ++ [y] ++ rput x false (L.drop (k + 1)) = rput x false L) := Lib.hid (by rw [← hm2, rput_cons, he]; simp [hl])
              clear hm2
              have hnw : n1 ≤ wr.heap.size := by have := hB.out.size; have := HN1.out; omega
              have HL : Hid (∀ V, Calls Try.prog 43 #[.string y.k, .string x.k] V fun e w' => e = .returned (.bool true) ∧ Below V.heap.size V w') := Lib.hid fun V => by have := HA.out V; rwa [hl] at this
              clear HA
              go_wp2
              go_region_held3 (fun V => V.cell? ⟨q, 0, none⟩ = some (.slice (some ⟨bb, o, none⟩) N c) ∧ V.cell? ⟨bb, o + k * 3, none⟩ = some (.string y.k) ∧ V.cell? ⟨w.heap.size, 0, none⟩ = some (.string x.k)) (go_keep) (first
                | (go_at_call 43; (with_reducible refine (HL.out _).mono ?_); rintro e V1 ⟨rfl, hb1⟩
                   have hBV1 : Below n1 w2 V1 := hB.out.drew.trans (Below.mono hb1 hnw)
                   have hrV1 : Row9 n1 m (.slice A1 m.length c1) V1 := (row_dn hrow.out 1).keep hb1
                   clear c0 b0 b1 b2 p0 p1 p2
                   obtain ⟨c0, b0, b1, b2, _⟩ := HKN.out _ hBV1
                   obtain ⟨p0, p1, p2⟩ := HT.out _ hBV1
                   have HV1 := Lib.hid (And.intro hBV1 hrV1)
                   clear hb1 hBV1 hrV1))
              obtain ⟨hBV1, hrV1⟩ := HV1.out
              go_wp2
              go_quiet (fail)
              rename_i nq
              obtain ⟨V2, hV2⟩ : ∃ V, V = V1.drewN nq := ⟨_, rfl⟩
              have hBV2 : Below n1 w2 V2 := by rw [hV2]; exact below_dn hBV1 nq
              have hrV2 : Row9 n1 m (.slice A1 m.length c1) V2 := by rw [hV2]; exact row_dn hrV1 nq
              rw [← hV2]
              clear c0 b0 b1 b2 p0 p1 p2
              obtain ⟨c0, b0, b1, b2, _⟩ := HKN.out _ hBV2
              obtain ⟨p0, p1, p2⟩ := HT.out _ hBV2
              clear hV2
              have ha := put_step y hrV2 hBV2 (Nat.le_of_eq HN1.out)
              have HO := Lib.hid ha.1
              have HC := Lib.hid ha.2.1
              have HBS := Lib.hid ha.2.2
              have HRV := Lib.hid (And.intro hrV2 hBV2)
              clear ha
              go_wp2_with (at_builtin; refine wpList_append_own_at _ rfl _ _ 22 rfl n1 39 i0 _ 3 40 Try.underlying22 hi hz0 hz1 hz2 rfl (by decide) _ _ _ rfl HO.out ⟨V2.heap.size, 0, none⟩ 1 1 (cells3 y) rfl rfl HC.out (one3 y) H63.out HBY.out HBS.out ?_; intro vu2 u2 r1 r2 r3 r4; obtain ⟨Au2, cu2, rfl, o1, o2⟩ := app_ok HRV.out.1 HRV.out.2 (by have := HRV.out.2.size; have := HN1.out; omega) r1 r2; obtain ⟨c0, b0, b1, b2, _⟩ := HKN.out _ o2; obtain ⟨p0, p1, p2⟩ := HT.out _ o2; have HQu2 := Lib.hid (And.intro o1 o2); clear o1 o2 r1 r2 r3 r4 HO HC HBS)
              have hlen2 : (m ++ [y]).length = m.length + 1 := by simp
              have HQy : Row9 n1 (m ++ [y]) (.slice Au2 (m.length + 1) cu2) u2 := HQu2.out.1
              exact ⟨⟨k + 1, m ++ [y], false, by omega, by go_num, rfl, by simp only [List.length_append, List.length_cons, List.length_nil]; omega, HFN, Lib.hid HQy, Lib.hid HQu2.out.2⟩, by simp [intOf]; omega⟩
            · have he2 : (y.k.toList != x.k.toList) = false := by simp [bne, he]
              have HFN : Hid (m ++ rput x false (L.drop (k + 1)) = rput x false L) := Lib.hid (by rw [← hm2, rput_cons, he]; simp [hl])
              clear hm2
              have hnw : n1 ≤ wr.heap.size := by have := hB.out.size; have := HN1.out; omega
              have HL : Hid (∀ V, Calls Try.prog 43 #[.string y.k, .string x.k] V fun e w' => e = .returned (.bool true) ∧ Below V.heap.size V w') := Lib.hid fun V => by have := HA.out V; rwa [hl] at this
              clear HA
              go_wp2
              go_region_held3 (fun V => V.cell? ⟨q, 0, none⟩ = some (.slice (some ⟨bb, o, none⟩) N c) ∧ V.cell? ⟨bb, o + k * 3, none⟩ = some (.string y.k) ∧ V.cell? ⟨w.heap.size, 0, none⟩ = some (.string x.k)) (go_keep) (first
                | (go_at_call 43; (with_reducible refine (HL.out _).mono ?_); rintro e V1 ⟨rfl, hb1⟩
                   have hBV1 : Below n1 w2 V1 := hB.out.drew.trans (Below.mono hb1 hnw)
                   have hrV1 : Row9 n1 m (.slice A1 m.length c1) V1 := (row_dn hrow.out 1).keep hb1
                   clear c0 b0 b1 b2 p0 p1 p2
                   obtain ⟨c0, b0, b1, b2, _⟩ := HKN.out _ hBV1
                   obtain ⟨p0, p1, p2⟩ := HT.out _ hBV1
                   have HV1 := Lib.hid (And.intro hBV1 hrV1)
                   clear hb1 hBV1 hrV1))
              obtain ⟨hBV1, hrV1⟩ := HV1.out
              go_wp2
              go_quiet (fail)
              rename_i nq
              obtain ⟨V2, hV2⟩ : ∃ V, V = V1.drewN nq := ⟨_, rfl⟩
              have hBV2 : Below n1 w2 V2 := by rw [hV2]; exact below_dn hBV1 nq
              have hrV2 : Row9 n1 m (.slice A1 m.length c1) V2 := by rw [hV2]; exact row_dn hrV1 nq
              rw [← hV2]
              clear c0 b0 b1 b2 p0 p1 p2
              obtain ⟨c0, b0, b1, b2, _⟩ := HKN.out _ hBV2
              obtain ⟨p0, p1, p2⟩ := HT.out _ hBV2
              clear hV2
              go_wp2
              exact ⟨⟨k + 1, m, false, by omega, by go_num, rfl, by first | omega | (rw [List.length_append]; show m.length + 1 ≤ _; omega), HFN, Lib.hid hrV2, Lib.hid hBV2⟩, by simp [intOf]; omega⟩
        · skip
          cases he : y.k.toList == x.k.toList
          · have he2 : (y.k.toList != x.k.toList) = true := by simp [bne, he]
            have HFN : Hid (m ++ [y] ++ rput x true (L.drop (k + 1)) = rput x false L) := Lib.hid (by rw [← hm2, rput_cons, he]; simp)
            clear hm2
            have hnw : n1 ≤ wr.heap.size := by have := hB.out.size; have := HN1.out; omega
            go_wp2
            go_quiet (fail)
            rename_i nq
            obtain ⟨V1, hV1⟩ : ∃ V, V = wr.drewN nq := ⟨_, rfl⟩
            have hBV1 : Below n1 w2 V1 := by rw [hV1]; exact below_dn hB.out nq
            have hrV1 : Row9 n1 m (.slice A1 m.length c1) V1 := by rw [hV1]; exact row_dn hrow.out nq
            rw [← hV1]
            clear c0 b0 b1 b2 p0 p1 p2
            obtain ⟨c0, b0, b1, b2, _⟩ := HKN.out _ hBV1
            obtain ⟨p0, p1, p2⟩ := HT.out _ hBV1
            clear hV1
            go_wp2
            go_quiet (fail)
            rename_i nq
            obtain ⟨V2, hV2⟩ : ∃ V, V = V1.drewN nq := ⟨_, rfl⟩
            have hBV2 : Below n1 w2 V2 := by rw [hV2]; exact below_dn hBV1 nq
            have hrV2 : Row9 n1 m (.slice A1 m.length c1) V2 := by rw [hV2]; exact row_dn hrV1 nq
            rw [← hV2]
            clear c0 b0 b1 b2 p0 p1 p2
            obtain ⟨c0, b0, b1, b2, _⟩ := HKN.out _ hBV2
            obtain ⟨p0, p1, p2⟩ := HT.out _ hBV2
            clear hV2
            have ha := put_step y hrV2 hBV2 (Nat.le_of_eq HN1.out)
            have HO := Lib.hid ha.1
            have HC := Lib.hid ha.2.1
            have HBS := Lib.hid ha.2.2
            have HRV := Lib.hid (And.intro hrV2 hBV2)
            clear ha
            go_wp2_with (at_builtin; refine wpList_append_own_at _ rfl _ _ 22 rfl n1 39 i0 _ 3 40 Try.underlying22 hi hz0 hz1 hz2 rfl (by decide) _ _ _ rfl HO.out ⟨V2.heap.size, 0, none⟩ 1 1 (cells3 y) rfl rfl HC.out (one3 y) H63.out HBY.out HBS.out ?_; intro vu2 u2 r1 r2 r3 r4; obtain ⟨Au2, cu2, rfl, o1, o2⟩ := app_ok HRV.out.1 HRV.out.2 (by have := HRV.out.2.size; have := HN1.out; omega) r1 r2; obtain ⟨c0, b0, b1, b2, _⟩ := HKN.out _ o2; obtain ⟨p0, p1, p2⟩ := HT.out _ o2; have HQu2 := Lib.hid (And.intro o1 o2); clear o1 o2 r1 r2 r3 r4 HO HC HBS)
            have hlen2 : (m ++ [y]).length = m.length + 1 := by simp
            have HQy : Row9 n1 (m ++ [y]) (.slice Au2 (m.length + 1) cu2) u2 := HQu2.out.1
            exact ⟨⟨k + 1, m ++ [y], true, by omega, by go_num, rfl, by simp only [List.length_append, List.length_cons, List.length_nil]; omega, HFN, Lib.hid HQy, Lib.hid HQu2.out.2⟩, by simp [intOf]; omega⟩
          · have he2 : (y.k.toList != x.k.toList) = false := by simp [bne, he]
            have HFN : Hid (m ++ rput x true (L.drop (k + 1)) = rput x false L) := Lib.hid (by rw [← hm2, rput_cons, he]; simp)
            clear hm2
            have hnw : n1 ≤ wr.heap.size := by have := hB.out.size; have := HN1.out; omega
            go_wp2
            go_quiet (fail)
            rename_i nq
            obtain ⟨V1, hV1⟩ : ∃ V, V = wr.drewN nq := ⟨_, rfl⟩
            have hBV1 : Below n1 w2 V1 := by rw [hV1]; exact below_dn hB.out nq
            have hrV1 : Row9 n1 m (.slice A1 m.length c1) V1 := by rw [hV1]; exact row_dn hrow.out nq
            rw [← hV1]
            clear c0 b0 b1 b2 p0 p1 p2
            obtain ⟨c0, b0, b1, b2, _⟩ := HKN.out _ hBV1
            obtain ⟨p0, p1, p2⟩ := HT.out _ hBV1
            clear hV1
            go_wp2
            go_quiet (fail)
            rename_i nq
            obtain ⟨V2, hV2⟩ : ∃ V, V = V1.drewN nq := ⟨_, rfl⟩
            have hBV2 : Below n1 w2 V2 := by rw [hV2]; exact below_dn hBV1 nq
            have hrV2 : Row9 n1 m (.slice A1 m.length c1) V2 := by rw [hV2]; exact row_dn hrV1 nq
            rw [← hV2]
            clear c0 b0 b1 b2 p0 p1 p2
            obtain ⟨c0, b0, b1, b2, _⟩ := HKN.out _ hBV2
            obtain ⟨p0, p1, p2⟩ := HT.out _ hBV2
            clear hV2
            go_wp2
            exact ⟨⟨k + 1, m, true, by omega, by go_num, rfl, by first | omega | (rw [List.length_append]; show m.length + 1 ≤ _; omega), HFN, Lib.hid hrV2, Lib.hid hBV2⟩, by simp [intOf]; omega⟩
      · obtain rfl : k = N := by omega
        have hm2 := hm.out
        rw [HN.out, List.drop_length] at hm2
        have HFN := Lib.hid hm2
        clear hm2 hm hrd
        cases b
        · have ha := put_step x hrow.out hB.out (Nat.le_of_eq HN1.out)
          have HO := Lib.hid ha.1
          have HC := Lib.hid ha.2.1
          have HBS := Lib.hid ha.2.2
          clear ha
          go_wp2_with (at_builtin; refine wpList_append_own_at _ rfl _ _ 22 rfl n1 39 i0 _ 3 40 Try.underlying22 hi hz0 hz1 hz2 rfl (by decide) _ _ _ rfl HO.out ⟨wr.heap.size, 0, none⟩ 1 1 (cells3 x) rfl rfl HC.out (one3 x) H63.out HBY.out HBS.out ?_; intro v3 w3 r1 r2 r3 r4; obtain ⟨A2, c2, rfl, o1, o2⟩ := app_ok hrow.out hB.out (by have := hB.out.size; have := HN1.out; omega) r1 r2; obtain ⟨g0, _, _, _, _⟩ := HKN.out _ o2; have gf : w3.frozen? ⟨q, 0, none⟩ = false := free_of ((o2.block q (by have := lt_of_at H.out.ref; omega)).trans ((HB2.out.block q (lt_of_at H.out.ref)).trans H.out.ref)) 0; have HR3 := Lib.hid (And.intro o1 o2); clear o1 o2 r1 r2 r3 r4)
          go_ret
          have e1 : m.length + 1 = (m ++ [x]).length := by simp
          refine ⟨rfl, ?_⟩
          rw [← HFN.out, e1]
          have h3 := HR3.out.1
          rw [e1] at h3
          exact ref_new H.out (HB2.out.trans (HR3.out.2.mono (by omega))) (by omega) h3
        · have gf : wr.frozen? ⟨q, 0, none⟩ = false := free_of ((hB.out.block q (by have := lt_of_at H.out.ref; omega)).trans ((HB2.out.block q (lt_of_at H.out.ref)).trans H.out.ref)) 0
          go_wp2
          go_ret
          refine ⟨rfl, ?_⟩
          have e1 : m = rput x false L := by rw [← HFN.out]; simp [rput]
          rw [← e1]
          exact ref_new H.out (HB2.out.trans (hB.out.mono (by omega))) (by omega) hrow.out
end Go.Proofs.Ytmnaamjoikfpbaa.Rq9
