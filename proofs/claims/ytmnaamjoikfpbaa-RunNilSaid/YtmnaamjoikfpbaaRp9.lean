/- The document's Scan and Put. -/
import Derived.Test.YtmnaamjoikfpbaaRg9
import Derived.Maps.AppendAt
import Derived.Deep.RegionWith
namespace Go.Proofs.Ytmnaamjoikfpbaa.Rp9
open Go Go.RowKit Go.Proofs.Ytmnaamjoikfpbaa.Pm9 Go.Proofs.Ytmnaamjoikfpbaa.Wd9 Go.Proofs.Ytmnaamjoikfpbaa.Mt9 Go.Proofs.Ytmnaamjoikfpbaa.Mm9 Go.Proofs.Ytmnaamjoikfpbaa.Sn9 Go.Proofs.Ytmnaamjoikfpbaa.Rd9 Go.Proofs.Ytmnaamjoikfpbaa.Ah9 Go.Proofs.Ytmnaamjoikfpbaa.Rg9
/-- A row of the call's own, from block n0 on. -/
def Row9 (n0 : Nat) (m : List Pr) (v : Value) (W : World) : Prop := W.ownsRow n0 39 3 v m.length (cellsP m)
theorem row_nil (n0 : Nat) (W : World) : Row9 n0 [] (.slice none 0 0) W := World.ownsRow_nil _ _ _ _
theorem Row9.shape {n0 : Nat} {m : List Pr} {v : Value} {W : World} (h : Row9 n0 m v W) : ∃ A c, v = .slice A m.length c := row_shape h
theorem Row9.keep {n0 : Nat} {m : List Pr} {v : Value} {W W' : World} (h : Row9 n0 m v W) (hb : Below W.heap.size W W') : Row9 n0 m v W' :=
  World.ownsRow.kept h (⟨hb.os, hb.tape, hb.output, hb.size, fun k hk _ => hb.block k hk⟩ : W.grownBy W' none) (by cases v.ownBlock <;> simp)
theorem Row9.alloc {n0 : Nat} {m : List Pr} {v : Value} {W : World} (h : Row9 n0 m v W) (o : Obj) : Row9 n0 m v (W.alloc o) := World.ownsRow.alloc h o
theorem Row9.own_lt {n0 : Nat} {m : List Pr} {v : Value} {W : World} (h : Row9 n0 m v W) : ∀ x, v.ownBlock = some x → n0 ≤ x := by
  intro x hx
  rcases h.2 with ⟨rfl, _⟩ | ⟨g, cap, cur, rfl, hb, _⟩
  · cases hx
  · obtain rfl : g = x := by simpa [Value.ownBlock] using hx
    exact hb
/-- Behind an append of one pair. -/
theorem app_ok {n0 : Nat} {w W w2 : World} {m : List Pr} {y : Pr} {v v2 : Value} (hown : Row9 n0 m v W) (hB : Below n0 w W) (hn : n0 ≤ W.heap.size)
    (r1 : w2.ownsRow n0 39 3 v2 (m.length + 1) (cellsP m ++ cells3 y)) (r2 : (W.alloc (pairO y)).grownBy w2 v.ownBlock) : ∃ A2 c2, v2 = .slice A2 (m.length + 1) c2 ∧ Row9 n0 (m ++ [y]) v2 w2 ∧ Below n0 w w2 := by
  have e1 : (m ++ [y]).length = m.length + 1 := by simp
  have e2 : cellsP (m ++ [y]) = cellsP m ++ cells3 y := by rw [cellsP_append]; show _ ++ (cells3 y ++ []) = _; rw [List.append_nil]
  have hr : Row9 n0 (m ++ [y]) v2 w2 := by unfold Row9; rw [e1, e2]; exact r1
  obtain ⟨A2, c2, h2⟩ := hr.shape
  exact ⟨A2, c2, by rw [h2, e1], hr, (hB.alloc hn _).grown r2 (by simp; omega) hown.own_lt⟩
theorem take_snoc (l : List Pr) (k : Nat) (h : k < l.length) : l.take (k + 1) = l.take k ++ [l[k]] := by
  rw [List.take_add_one, List.getElem?_eq_getElem h]; rfl
set_option maxRecDepth 20000 in
set_option maxHeartbeats 4000000 in
theorem rscan_any {w : World} {q : Nat} {A : Option Addr} {c : Nat} {L : List Pr} (h : RefAt w q A c L) (hf : Fine L) (a b : ByteArray) (ha : a.size ≤ 140737488351232) (hb : b.size ≤ 140737488351232) (most : Int) :
    Calls Try.prog 20 #[.pointer (some ⟨q, 0, none⟩), .string a, .string b, .int .i64 most] w (ScanTo w (scan a b most L)) := by
  obtain ⟨i0, hi, hz0, hz1, hz2⟩ := info_parts infoP
  obtain ⟨N, hN⟩ : ∃ N, N = L.length := ⟨_, rfl⟩
  have hl1 := hf.1
  rw [← hN] at hl1
  have H := Lib.hid h
  have HN := Lib.hid hN
  have HF := Lib.hid hf.2
  clear h hf hN
  go_enter Try.func20, Try.ntmps20
  go_wp2
  go_loopw [9, 10, 11, 12, 13, 14, 15, 16, 17, 18, 19, 20, 21, 22, 23, 24, 25, 26, 27, 28, 29, 30, 31, 32, 33, 34, 35, 36, 37, 38, 39, 40, 41, 42, 43, 44, 45, 46] (fun v i _ _ _ _ _ _ _ _ _ _ _ _ _ _ _ _ _ _ _ _ _ _ _ _ _ _ _ _ _ _ _ _ _ _ _ _ wr => ∃ (k : Nat) (m : List Pr), k ≤ N ∧ i = .int .i64 k ∧ Hid (m = (L.take k).filter (within a b)) ∧ (m = [] ∨ (m.length : Int) ≤ most) ∧ Hid (Row9 w.heap.size m v wr) ∧ Hid (Below w.heap.size w wr)) (fun _ i _ _ _ _ _ _ _ _ _ _ _ _ _ _ _ _ _ _ _ _ _ _ _ _ _ _ _ _ _ _ _ _ _ _ _ _ _ => N - (intOf i).toNat)
  case atStart => exact ⟨0, [], by omega, rfl, Lib.hid rfl, .inl rfl, Lib.hid (row_nil _ _), Lib.hid (Below.refl _ _)⟩
  case round =>
    obtain ⟨k, m, hk, rfl, hs, hmo, hrow, hB⟩ := hrel
    have hr := H.out.keep (Nat.le_refl _) hB.out
    have c0 := cell_of hr.ref 0
    rw [← HN.out] at c0
    obtain ⟨A1, c1, rfl⟩ := hrow.out.shape
    have hml : m.length ≤ k := by rw [hs.out]; exact Nat.le_trans (List.length_filter_le _ _) (List.length_take_le _ _)
    by_cases hlt : k < N
    · by_cases hm2 : (m.length : Int) < most
      · have hil : k < L.length := by rw [← HN.out]; exact hlt
        obtain ⟨bb, o, rfl, p0, p1, p2⟩ := hr.reads.at_ hil
        have HK : Hid (∀ W, Below w.heap.size w W → Three W bb (o + k * 3) L[k] ∧ W.cell? ⟨q, 0, none⟩ = some (.slice (some ⟨bb, o, none⟩) N c)) := Lib.hid fun W hW => by
          have hr2 := H.out.keep (Nat.le_refl _) hW
          obtain ⟨b1, o1, e1, f1⟩ := hr2.reads.at_ hil
          cases e1
          have c1 := cell_of hr2.ref 0
          rw [← HN.out] at c1
          exact ⟨f1, c1⟩
        have hts := take_snoc L k hil
        have hxs := HF.out _ (List.getElem_mem hil)
        obtain ⟨x, hx⟩ : ∃ x, x = L[k] := ⟨_, rfl⟩
        rw [← hx] at hts p0 p1 p2 hxs HK
        have HC := Lib.hid (within_any wr x a b hxs.1 ha hb)
        have HT := Lib.hid hts
        clear hx hts hr hil
        cases hw : within a b x
        · rw [hw] at HC
          have hfl : m = (L.take (k + 1)).filter (within a b) := by rw [HT.out, List.filter_append, ← hs.out, List.filter_cons, hw]; simp
          have HFL := Lib.hid hfl
          clear hw hfl
          go_wp2_with (go_at_call 39; (with_reducible refine HC.out.mono ?_); rintro e w2 ⟨rfl, hb2⟩)
          exact ⟨⟨k + 1, m, by omega, by go_num, HFL, hmo, Lib.hid (hrow.out.keep hb2), Lib.hid (hB.out.trans (hb2.mono hB.out.size))⟩, by simp [intOf]; omega⟩
        · rw [hw] at HC
          have hfl : m ++ [x] = (L.take (k + 1)).filter (within a b) := by rw [HT.out, List.filter_append, ← hs.out, List.filter_cons, hw]; simp
          have HFL := Lib.hid hfl
          have h63 : m.length + 1 ≤ maxLen := by unfold maxLen; omega
          have hby : (m.length + 1) * 40 ≤ 140737488355328 := by omega
          have H63 := Lib.hid h63
          have HBY := Lib.hid hby
          clear hw hfl h63 hby
          go_wp2_with (first
            | (go_at_call 39; (with_reducible refine HC.out.mono ?_); rintro e w2 ⟨rfl, hb2⟩
               have hB2 := hB.out.trans (hb2.mono hB.out.size)
               obtain ⟨⟨q0, q1, q2⟩, q3⟩ := HK.out _ hB2
               have hrow2 := hrow.out.keep hb2
               have HO := Lib.hid (hrow2.alloc (pairO x))
               have HN3 := Lib.hid (news3 w2 x)
               have HBS : Hid (w.heap.size ≤ (w2.alloc (pairO x)).heap.size) := Lib.hid (by have := hB2.size; simp; omega)
               have HB2 := Lib.hid hB2
               have HR2 := Lib.hid hrow2
               clear hb2 hB2 hrow2)
            | (at_builtin; refine wpList_append_own_at _ rfl _ _ 22 rfl w.heap.size 39 i0 _ 3 40 Try.underlying22 hi hz0 hz1 hz2 rfl (by decide) _ _ _ rfl HO.out ⟨w2.heap.size, 0, none⟩ 1 1 (cells3 x) rfl rfl HN3.out (one3 x) H63.out HBY.out HBS.out ?_; intro v3 w3 r1 r2 r3 r4; obtain ⟨A2, c2, rfl, o1, o2⟩ := app_ok HR2.out HB2.out HB2.out.size r1 r2; have HR3 := Lib.hid (And.intro o1 o2); clear o1 o2 r1 r2 r3 r4))
          exact ⟨⟨k + 1, m ++ [x], by omega, by go_num, HFL, .inr (by rw [List.length_append]; show ((m.length + 1 : Nat) : Int) ≤ most; omega), Lib.hid HR3.out.1, Lib.hid HR3.out.2⟩, by simp [intOf]; omega⟩
      · have hfin : scan a b most L = m := by
          unfold scan
          have e1 : L.filter (within a b) = m ++ (L.drop k).filter (within a b) := by rw [hs.out, ← List.filter_append, List.take_append_drop]
          rw [e1]
          rcases hmo with rfl | hmo
          · have : most.toNat = 0 := by simp at hm2; omega
            rw [this]; rfl
          · rw [List.take_append_of_le_length (by omega), List.take_of_length_le (by omega)]
        have HFN := Lib.hid hfin
        clear hfin hr
        go_wp2
        go_ret
        exact ⟨A1, c1, by rw [HFN.out]; rfl, by rw [HFN.out]; exact hrow.out, hB.out⟩
    · obtain rfl : k = N := by omega
      have hfin : scan a b most L = m := by
        unfold scan
        have e1 : m = L.filter (within a b) := by rw [hs.out, HN.out, List.take_length]
        rw [← e1]
        rcases hmo with rfl | hmo
        · simp
        · exact List.take_of_length_le (by omega)
      have HFN := Lib.hid hfin
      clear hfin hr
      go_wp2
      go_ret
      exact ⟨A1, c1, by rw [HFN.out]; rfl, by rw [HFN.out]; exact hrow.out, hB.out⟩
end Go.Proofs.Ytmnaamjoikfpbaa.Rp9
