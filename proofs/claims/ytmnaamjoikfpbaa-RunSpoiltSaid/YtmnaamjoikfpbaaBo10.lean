/- The contract of run.bytesOf: the bytes of a run. -/
import Derived.Test.YtmnaamjoikfpbaaBy10
import Derived.Test.YtmnaamjoikfpbaaFb2
import Derived.Test.YtmnaamjoikfpbaaRq9
import Derived.Laws.AppendOwn
namespace Go.Proofs.Ytmnaamjoikfpbaa.Bo10
open Go Go.RowKit Go.Proofs.Ytmnaamjoikfpbaa.Wm Go.Proofs.Ytmnaamjoikfpbaa.Fl7 Go.Proofs.Ytmnaamjoikfpbaa.Rs7 Go.Proofs.Ytmnaamjoikfpbaa.Pm9 Go.Proofs.Ytmnaamjoikfpbaa.Wd9 Go.Proofs.Ytmnaamjoikfpbaa.Mt9 Go.Proofs.Ytmnaamjoikfpbaa.Rd9 Go.Proofs.Ytmnaamjoikfpbaa.Fd10 Go.Proofs.Ytmnaamjoikfpbaa.By10
/-- A row of texts of the call's own. -/
def RowS (n0 : Nat) (T : List (List UInt8)) (v : Value) (W : World) : Prop := W.ownsRow n0 9 1 v T.length (Fs7.cellsS T)
theorem RowS.keep {n0 : Nat} {T : List (List UInt8)} {v : Value} {W W' : World} (h : RowS n0 T v W) (hb : Below W.heap.size W W') : RowS n0 T v W' := Fs7.own_keep h hb
theorem RowS.own_lt {n0 : Nat} {T : List (List UInt8)} {v : Value} {W : World} (h : RowS n0 T v W) : ∀ x, v.ownBlock = some x → n0 ≤ x := fun x hx => (World.ownsRow.lt h x hx).1
theorem sapp_ok {n0 : Nat} {w W w2 : World} {T : List (List UInt8)} {t : List UInt8} {v v2 : Value} (hown : RowS n0 T v W) (hB : Below n0 w W) (hn : n0 ≤ W.heap.size)
    (r1 : w2.ownsRow n0 9 1 v2 (T.length + 1) (Fs7.cellsS T ++ [.string (bs t)])) (r2 : (W.alloc (.cells #[.string (bs t)] 9)).grownBy w2 v.ownBlock) : ∃ A2 c2, v2 = .slice A2 (T.length + 1) c2 ∧ RowS n0 (T ++ [t]) v2 w2 ∧ Below n0 w w2 := by
  have e1 : (T ++ [t]).length = T.length + 1 := by simp
  have e2 : Fs7.cellsS (T ++ [t]) = Fs7.cellsS T ++ [.string (bs t)] := by simp [Fs7.cellsS]
  have hr : RowS n0 (T ++ [t]) v2 w2 := by unfold RowS; rw [e1, e2]; exact r1
  obtain ⟨A2, c2, h2⟩ := Fs7.row_shape hr
  exact ⟨A2, c2, by rw [h2, e1], hr, (hB.alloc hn _).grown r2 (by simp; omega) hown.own_lt⟩
theorem news1 (W : World) (s : ByteArray) : ∀ j u, [Value.string s][j]? = some u → (W.alloc (.cells #[.string s] 9)).cell? ((⟨W.heap.size, 0, none⟩ : Addr).add j) = some u := by
  intro j u hj
  have e : (⟨W.heap.size, 0, none⟩ : Addr).add j = ⟨W.heap.size, j, none⟩ := by cases j <;> simp [Addr.add]
  rw [e, cell_of (heap_new W (.cells #[.string s] 9)) j]
  rw [← hj]
  exact List.getElem?_toArray ..
theorem one1 (s : ByteArray) : ∀ u ∈ [Value.string s], u.oneCell' = true := by
  intro u hu
  rw [List.mem_singleton.1 hu]; rfl
theorem texts_take (L : List Pr) (k : Nat) (h : k < L.length) : (putN L.length 8 :: (L.take (k + 1)).map tx) = (putN L.length 8 :: (L.take k).map tx) ++ [tx L[k]] := by
  rw [List.take_succ_eq_append_getElem h, List.map_append]; rfl
theorem below_grown {w w' : World} (h : w.grownBy w' none) : Below w.heap.size w w' := ⟨h.os, h.tape, h.output, h.size, fun k hk => h.block k hk (by simp)⟩
theorem len_one (T : List (List UInt8)) (t : List UInt8) : (T ++ [t]).length = T.length + 1 := by simp
theorem ll_bs (T : List (List UInt8)) : ll (T.map bs) = T := by
  unfold ll
  rw [List.map_map]
  conv => rhs; rw [← List.map_id T]
  rfl
theorem size_may : ∀ L : List Pr, (∀ x ∈ L, may x = true) → Pm9.size L ≤ L.length * 262656
  | [], _ => by simp [Pm9.size]
  | x :: L, h => by
    have h1 := may_bound (h x List.mem_cons_self)
    have h2 := size_may L fun y hy => h y (List.mem_cons_of_mem _ hy)
    simp only [Pm9.size, List.length_cons]
    omega
set_option maxRecDepth 20000 in
set_option maxHeartbeats 4000000 in
theorem bytes_any (w : World) (A : Option Addr) (c : Nat) (L : List Pr) (hl : Reads w A L) (hlen : L.length ≤ 1000000) (hz : ∀ x ∈ L, may x = true) :
    Calls Try.prog 29 #[.slice A L.length c] w fun e w' => e = .returned (.string (bs (rb L))) ∧ Below w.heap.size w w' := by
  obtain ⟨i0, hi, hz0, hz1, hz2⟩ := info_parts Fs7.infoS
  obtain ⟨N, hN⟩ : ∃ N, N = L.length := ⟨_, rfl⟩
  have H := Lib.hid hl
  have HZ := Lib.hid hz
  rw [← hN] at hlen ⊢
  have HN := Lib.hid hN
  obtain ⟨w1, hmk, hown, hgr⟩ := run_make_own (P := Try.prog) w w.heap.size 74 9 i0 (.string ⟨#[]⟩) 1 Try.underlying74 hi hz0 hz1 .i64 .i64 (N + 1) (by rw [hz2]; omega) (by unfold maxLen; omega) (Nat.le_refl _)
  rw [show ((N + 1 : Nat) : Int) = 1 + (N : Int) by omega] at hmk
  have HB1 := Lib.hid (below_grown hgr)
  have HO1 : Hid (RowS w.heap.size [] (.slice (some ⟨w.heap.size, 0, none⟩) 0 (N + 1)) w1) := Lib.hid hown
  have HC := Lib.hid (count_any N w1 (by omega))
  clear hl hz hN hown hgr
  go_enter Try.func29, Try.ntmps29
  go_wp2_with (first
    | (go_at_call 49; (with_reducible refine HC.out.mono ?_); rintro e w2 ⟨rfl, hb2⟩
       have hB2 := HB1.out.trans (hb2.mono HB1.out.size)
       have hrow2 := HO1.out.keep hb2
       have HO := Lib.hid (hrow2.alloc (.cells #[.string (bs (putN N 8))] 9))
       have HN3 := Lib.hid (news1 w2 (bs (putN N 8)))
       have HBS : Hid (w.heap.size ≤ (w2.alloc (.cells #[.string (bs (putN N 8))] 9)).heap.size) := Lib.hid (by have := hB2.size; simp; omega)
       have HB2 := Lib.hid hB2
       have HR2 := Lib.hid hrow2
       clear hb2 hB2 hrow2)
    | (at_builtin; refine wpList_append_own_at _ rfl _ _ 74 rfl w.heap.size 9 i0 _ 1 16 Try.underlying74 hi hz0 hz1 hz2 rfl (by decide) _ _ _ rfl HO.out ⟨w2.heap.size, 0, none⟩ 1 1 [.string (bs (putN N 8))] rfl rfl HN3.out (one1 _) (by unfold maxLen; decide) (by decide) HBS.out ?_; intro v3 w3 r1 r2 r3 r4; obtain ⟨A2, c2, rfl, o1, o2⟩ := sapp_ok HR2.out HB2.out HB2.out.size r1 r2; have HR3 := Lib.hid (And.intro o1 o2); clear o1 o2 r1 r2 r3 r4))
  go_loopw [3, 5, 20, 21, 22, 23, 24, 25, 26, 27, 28, 29] (fun v _ i _ _ _ _ _ _ _ _ _ wr => ∃ (k : Nat) (A' : Option Addr) (c' : Nat), k ≤ N ∧ i = .int .i64 k ∧ v = .slice A' (k + 1) c' ∧ Hid (RowS w.heap.size (putN N 8 :: (L.take k).map tx) (.slice A' (k + 1) c') wr) ∧ Hid (Below w.heap.size w wr)) (fun _ _ i _ _ _ _ _ _ _ _ _ _ => N - (intOf i).toNat)
  case atStart => exact ⟨0, A2, c2, by omega, rfl, rfl, Lib.hid HR3.out.1, Lib.hid HR3.out.2⟩
  case round =>
    obtain ⟨k, A', c', hk, rfl, rfl, hrow, hB⟩ := hrel
    by_cases hlt : k < N
    · have hil : k < L.length := by rw [← HN.out]; exact hlt
      obtain ⟨b, o, rfl, p0, p1, p2⟩ := (H.out.keep (Nat.le_refl _) hB.out).at_ hil
      have htk := texts_take L k hil
      rw [← HN.out] at htk
      have hmx := HZ.out _ (List.getElem_mem hil)
      have hTl : (putN N 8 :: (L.take k).map tx).length = k + 1 := by simp; omega
      obtain ⟨x, hx⟩ : ∃ x, x = L[k] := ⟨_, rfl⟩
      rw [← hx] at p0 p1 p2 htk hmx
      obtain ⟨xk, xv, xg⟩ := x
      dsimp only at p0 p1 p2
      have HCT := Lib.hid (text_any (wr.alloc (.cells #[.string xk, .string xv, .bool xg] 39)) ⟨xk, xv, xg⟩ hmx)
      have hb1 : Below w.heap.size w (wr.alloc (.cells #[.string xk, .string xv, .bool xg] 39)) := hB.out.alloc hB.out.size _
      have HRA : Hid (RowS w.heap.size (putN N 8 :: (L.take k).map tx) (.slice A' (k + 1) c') (wr.alloc (.cells #[.string xk, .string xv, .bool xg] 39))) := Lib.hid (hrow.out.alloc _)
      have HBA := Lib.hid hb1
      have HT := Lib.hid htk
      obtain ⟨s, hs⟩ : ∃ s, s = tx ⟨xk, xv, xg⟩ := ⟨_, rfl⟩
      rw [← hs] at HCT HT
      have HTL := Lib.hid hTl
      have H63 : Hid (k + 1 + 1 ≤ maxLen) := Lib.hid (by unfold maxLen; omega)
      have HBY : Hid ((k + 1 + 1) * 16 ≤ 140737488355328) := Lib.hid (by omega)
      clear hx hs htk hmx hil hb1 hrow hB hTl
      go_wp2_with (first
        | (go_at_call 50; (with_reducible refine HCT.out.mono ?_); rintro e w5 ⟨rfl, hb2⟩
           have hB5 := HBA.out.trans (hb2.mono HBA.out.size)
           have hrow5 := HRA.out.keep hb2
           have HO := Lib.hid (hrow5.alloc (.cells #[.string (bs s)] 9))
           have HN3 := Lib.hid (news1 w5 (bs s))
           have HBS : Hid (w.heap.size ≤ (w5.alloc (.cells #[.string (bs s)] 9)).heap.size) := Lib.hid (by have := hB5.size; simp; omega)
           have HB5 := Lib.hid hB5
           have HR5 := Lib.hid hrow5
           clear hb2 hB5 hrow5
           rw [HTL.out] at HO)
        | (at_builtin; refine wpList_append_own_at _ rfl _ _ 74 rfl w.heap.size 9 i0 _ 1 16 Try.underlying74 hi hz0 hz1 hz2 rfl (by decide) _ _ _ rfl HO.out ⟨w5.heap.size, 0, none⟩ 1 1 [.string (bs s)] rfl rfl HN3.out (one1 _) H63.out HBY.out HBS.out ?_; intro v6 w6 r1 r2 r3 r4; rw [← HTL.out] at r1; obtain ⟨A3, c3, rfl, o1, o2⟩ := sapp_ok HR5.out HB5.out HB5.out.size r1 r2; have HR6 := Lib.hid (And.intro o1 o2); clear o1 o2 r1 r2 r3 r4))
      have hmin : min k L.length = k := by have := HN.out; omega
      rw [hmin]
      have hr := HR6.out.1
      rw [← HT.out, HTL.out] at hr
      exact ⟨⟨k + 1, A3, c3, by omega, by go_num, rfl, Lib.hid hr, Lib.hid HR6.out.2⟩, by simp [intOf]; omega⟩
    · obtain rfl : k = N := by omega
      have hT : (putN k 8 :: (L.take k).map tx) = texts L := by unfold texts; rw [← HN.out, List.take_of_length_le (by rw [← HN.out]; omega)]
      have hrow2 := hrow.out
      rw [hT] at hrow2
      have hTn : (texts L).length = k + 1 := by rw [texts, List.length_cons, List.length_map, HN.out]
      have hrd : Rds wr A' ((texts L).map bs) := Fs7.rds_of_own hrow2
      have hAll := Fp7.all_ok wr A' c' ((texts L).map bs) hrd (by rw [List.length_map, hTn]; omega) (by
          rw [ll_bs]
          unfold texts
          rw [Fl7.size, size_map, putN_length]
          have := size_may L HZ.out
          have := HN.out
          omega) (fun j hj => by
          rw [List.getElem_map, bs_size]
          rw [List.length_map] at hj
          have hm : (texts L)[j] ∈ texts L := List.getElem_mem hj
          generalize (texts L)[j] = y at hm ⊢
          rcases List.mem_cons.1 (show y ∈ putN L.length 8 :: L.map tx from hm) with hm | hm
          · rw [hm, putN_length]; decide
          · obtain ⟨x, hx, he⟩ := List.mem_map.1 hm
            rw [← he, tx_len]
            have := may_bound (HZ.out x hx); omega)
      rw [ll_bs, List.length_map, hTn] at hAll
      have HA := Lib.hid hAll
      clear hT hrow2 hTn hrd hAll hrow
      go_wp2_with fail
      refine HA.out.mono ?_
      rintro e w5 ⟨rfl, hb⟩
      have HB5 := Lib.hid (hB.out.trans (hb.mono hB.out.size))
      clear hb
      go_wp2
      go_ret
      exact ⟨rfl, HB5.out⟩
end Go.Proofs.Ytmnaamjoikfpbaa.Bo10
