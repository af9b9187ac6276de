/- The contract of run.pairOf at a pair's text. -/
import Derived.Test.YtmnaamjoikfpbaaBy10
import Derived.Test.YtmnaamjoikfpbaaFb1
import Derived.Test.YtmnaamjoikfpbaaFb2
import Derived.Handy
namespace Go.Proofs.Ytmnaamjoikfpbaa.Po10
open Go Go.RowKit Go.Proofs.Ytmnaamjoikfpbaa.Wm Go.Proofs.Ytmnaamjoikfpbaa.Fl7 Go.Proofs.Ytmnaamjoikfpbaa.Rs7 Go.Proofs.Ytmnaamjoikfpbaa.Pm9 Go.Proofs.Ytmnaamjoikfpbaa.Wd9 Go.Proofs.Ytmnaamjoikfpbaa.Mt9 Go.Proofs.Ytmnaamjoikfpbaa.Mm9 Go.Proofs.Ytmnaamjoikfpbaa.Rd9 Go.Proofs.Ytmnaamjoikfpbaa.Fd10 Go.Proofs.Ytmnaamjoikfpbaa.By10
/-- A pair stored in a box of one. -/
theorem box3 {W : World} {b : Nat} {x : Pr} (h : W.heap[b]? = some (pairO x)) (k v : ByteArray) (g : Bool) :
    (((W.setCell ⟨b, 0, none⟩ (.string k)).setCell ⟨b, 1, none⟩ (.string v)).setCell ⟨b, 2, none⟩ (.bool g)).heap[b]? = some (pairO ⟨k, v, g⟩) :=
  setCell_heap (setCell_heap (setCell_heap h 0 _) 1 _) 2 _
theorem below3 {n : Nat} {w W : World} {b : Nat} (h : Below n w W) (hb : n ≤ b) (x y z : Value) : Below n w (((W.setCell ⟨b, 0, none⟩ x).setCell ⟨b, 1, none⟩ y).setCell ⟨b, 2, none⟩ z) :=
  ((h.setCell (p := ⟨b, 0, none⟩) hb _).setCell (p := ⟨b, 1, none⟩) hb _).setCell (p := ⟨b, 2, none⟩) hb _
/-- The parts of a pair's text. -/
theorem parts (x : Pr) : ((bs (tx x)).extract 0 1).data.toList = putN (mk x.g) 1 ∧ ((bs (tx x)).extract 1 3).data.toList = putN x.k.size 2 ∧
    (bs (tx x)).extract 3 (bs (tx x)).size = bs (x.k.data.toList ++ x.v.data.toList) := by
  have h1 : (putN (mk x.g) 1).length = 1 := putN_length _ _
  have h2 : (putN x.k.size 2).length = 2 := putN_length _ _
  refine ⟨?_, ?_, ?_⟩
  · rw [Ff7.ex_list, bs_list]; unfold tx
    rw [List.drop_zero, List.take_append_of_le_length (by omega), List.take_of_length_le (by omega)]
  · rw [Ff7.ex_list, bs_list]; unfold tx
    rw [List.take_append, List.drop_append, h1, List.take_append_of_le_length (by omega), List.take_of_length_le (l := putN (mk x.g) 1) (by omega), List.drop_of_length_le (by omega), List.take_of_length_le (by omega)]
    rfl
  · rw [← bs_of ((bs (tx x)).extract 3 (bs (tx x)).size), Ff7.ex_list, bs_list, bs_size, List.take_length]
    unfold tx
    rw [List.drop_append, h1, List.drop_of_length_le (l := putN (mk x.g) 1) (by omega), List.nil_append, List.drop_append, h2, List.drop_of_length_le (l := putN x.k.size 2) (by omega)]
    rfl
theorem cut_kv (k v : ByteArray) : (bs (k.data.toList ++ v.data.toList)).extract 0 k.size = k ∧ (bs (k.data.toList ++ v.data.toList)).extract k.size (bs (k.data.toList ++ v.data.toList)).size = v := by
  have hk : k.data.toList.length = k.size := by simp
  constructor
  · rw [← bs_of ((bs (k.data.toList ++ v.data.toList)).extract 0 k.size), Ff7.ex_list, bs_list, List.drop_zero, List.take_append_of_le_length (by omega), List.take_of_length_le (by omega), bs_of]
  · rw [← bs_of ((bs (k.data.toList ++ v.data.toList)).extract k.size _), Ff7.ex_list, bs_list, bs_size, List.take_length, List.drop_append_of_le_length (by omega), List.drop_of_length_le (by omega), List.nil_append, bs_of]
set_option maxRecDepth 20000 in
set_option maxHeartbeats 2000000 in
theorem pair_any (w : World) (x : Pr) (hm : may x = true) :
    Calls Try.prog 56 #[.string (bs (tx x))] w fun e w' => e = .returned (.tuple #[.agg #[.string x.k, .string x.v, .bool x.g], .bool true]) ∧ Below w.heap.size w w' := by
  obtain ⟨hk1, hk2, hv2⟩ := may_bound hm
  obtain ⟨p1, p2, p3⟩ := parts x
  obtain ⟨c1, c2⟩ := cut_kv x.k x.v
  have hsz : (bs (tx x)).size = 3 + x.k.size + x.v.size := by rw [bs_size, tx_len]
  have hCk := fun W => Mm9.check_any W x (by omega) (by omega)
  rw [hm] at hCk
  obtain ⟨k, v, g⟩ := x
  dsimp only at *
  obtain ⟨T, hT⟩ : ∃ T, T = bs (tx ⟨k, v, g⟩) := ⟨_, rfl⟩
  rw [← hT] at p1 p2 p3 hsz ⊢
  obtain ⟨Bt, hBt⟩ : ∃ Bt, Bt = bs (k.data.toList ++ v.data.toList) := ⟨_, rfl⟩
  rw [← hBt] at p3 c1 c2
  have hBs : Bt.size = k.size + v.size := by rw [hBt, bs_size]; simp
  clear hT hBt hm
  have e1 : (T.extract 0 1).size = 1 := by rw [ByteArray.size_extract]; omega
  have e2 : (T.extract 1 3).size = 2 := by rw [ByteArray.size_extract]; omega
  have G1 := fun W => WGet.ok (T.extract 0 1) W (by omega) (by omega)
  have G2 := fun W => WGet.ok (T.extract 1 3) W (by omega) (by omega)
  rw [p1, getL_putN] at G1
  rw [p2, getL_putN, Nat.mod_eq_of_lt (by omega)] at G2
  obtain ⟨M, hM⟩ : ∃ M, M = mk g % 256 ^ 1 := ⟨_, rfl⟩
  rw [← hM] at G1
  have m1 : ¬ (M : Int) > 1 := by rw [hM]; cases g <;> decide
  have m2 : ((M : Int) == 1) = g := by rw [hM]; cases g <;> rfl
  have i1 : (1 : Int) ≤ (T.size : Int) := by omega
  have i2 : (3 : Int) ≤ (T.size : Int) := by omega
  have i3 : ¬ (T.size : Int) < 3 := by omega
  have i4 : (k.size : Int) ≤ (Bt.size : Int) := by omega
  have i5 : (0 : Int) ≤ (k.size : Int) := by omega
  have i6 : ¬ (k.size : Int) > (Bt.size : Int) := by omega
  have hw : IntKind.u64.wrap (Bt.size : Int) = (Bt.size : Int) := wrap_u64_small _ (by omega)
  have HG1 := Lib.hid G1
  have HG2 := Lib.hid G2
  have HCk := Lib.hid hCk
  have HB0 : Hid (Below w.heap.size w (w.alloc (pairO ⟨⟨#[]⟩, ⟨#[]⟩, false⟩))) := Lib.hid ((Below.refl w.heap.size w).alloc (Nat.le_refl _) _)
  clear p1 p2 G1 G2 hCk e1 e2 hsz hM hBs
  go_enter Try.func56, Try.ntmps56
  go_wp2_with fail
  refine (HG1.out _).mono ?_
  rintro e w1 ⟨rfl, rfl⟩
  go_wp2_with fail
  refine (HG2.out _).mono ?_
  rintro e w1 ⟨rfl, rfl⟩
  go_wp2_with fail
  go_region_held3 (fun _ => True) (trivial) (fail)
  have hb9 : Below w.heap.size w (((w.alloc (pairO ⟨⟨#[]⟩, ⟨#[]⟩, false⟩)).alloc (pairO ⟨k, v, g⟩)).drew) := (HB0.out.alloc HB0.out.size _).drew
  have hx9 : (((w.alloc (pairO ⟨⟨#[]⟩, ⟨#[]⟩, false⟩)).alloc (pairO ⟨k, v, g⟩)).drew).heap[w.heap.size]? = some (pairO ⟨⟨#[]⟩, ⟨#[]⟩, false⟩) := (Wd9.heap_alloc _ _ _ (by rw [Wd9.size_alloc]; omega)).trans (heap_new w _)
  have hy9 : (((w.alloc (pairO ⟨⟨#[]⟩, ⟨#[]⟩, false⟩)).alloc (pairO ⟨k, v, g⟩)).drew).heap[w.heap.size + 1]? = some (pairO ⟨k, v, g⟩) := by
    have := heap_new (w.alloc (pairO ⟨⟨#[]⟩, ⟨#[]⟩, false⟩)) (pairO ⟨k, v, g⟩)
    rw [Wd9.size_alloc] at this; exact this
  obtain ⟨W9, hW9⟩ : ∃ W9, W9 = (((w.alloc (pairO ⟨⟨#[]⟩, ⟨#[]⟩, false⟩)).alloc (pairO ⟨k, v, g⟩)).drew) := ⟨_, rfl⟩
  rw [← hW9] at hb9 hx9 hy9
  change Exit.then _ _ Exit.normal _ (((w.alloc (pairO ⟨⟨#[]⟩, ⟨#[]⟩, false⟩)).alloc (pairO ⟨k, v, g⟩)).drew)
  rw [← hW9]
  have d0 := cell_of hy9 0
  have d1 := cell_of hy9 1
  have d2 := cell_of hy9 2
  have HB9 := Lib.hid hb9
  have HX9 := Lib.hid hx9
  have HY9 := Lib.hid hy9
  clear hb9 hx9 hy9 hW9 HB0
  go_wp2_with fail
  refine (HCk.out _).mono ?_
  rintro e w2 ⟨rfl, hb2⟩
  have hx2 := (hb2.block _ (lt_of_at HX9.out)).trans HX9.out
  have hy2 := (hb2.block _ (lt_of_at HY9.out)).trans HY9.out
  have e0 := cell_of hy2 0
  have e1 := cell_of hy2 1
  have e2 := cell_of hy2 2
  have f0 := cell_of hx2 0
  have f1 := cell_of hx2 1
  have f2 := cell_of hx2 2
  have fr := free_of hx2
  have fr0 := fr 0
  have fr1 := fr 1
  have fr2 := fr 2
  have hfin := box3 hx2 k v g
  have HFN := Lib.hid hfin
  have HB2 := Lib.hid (HB9.out.trans (hb2.mono HB9.out.size))
  clear hb2 hx2 hy2 hfin fr
  dsimp only [erg, if_true]
  go_wp2
  have q0 := cell_of HFN.out 0
  have q1 := cell_of HFN.out 1
  have q2 := cell_of HFN.out 2
  refine bodyPost_ret (v := .tuple #[.agg #[.string k, .string v, .bool g], .bool true]) (by simp [results, Try.results56, go_sem, q0, q1, q2]) rfl ⟨rfl, ?_⟩
  exact below3 HB2.out (Nat.le_refl _) _ _ _
end Go.Proofs.Ytmnaamjoikfpbaa.Po10
