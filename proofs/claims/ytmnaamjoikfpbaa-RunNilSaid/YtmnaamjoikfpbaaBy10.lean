/- The contracts of run.number, countOf, textOf: the texts of a run. -/
import Derived.Test.YtmnaamjoikfpbaaFd10
import Derived.Test.YtmnaamjoikfpbaaFb1
import Derived.Test.YtmnaamjoikfpbaaFb2
import Derived.Test.YtmnaamjoikfpbaaCk10
namespace Go.Proofs.Ytmnaamjoikfpbaa.By10
open Go Go.RowKit Go.Proofs.Ytmnaamjoikfpbaa.Wm Go.Proofs.Ytmnaamjoikfpbaa.Fl7 Go.Proofs.Ytmnaamjoikfpbaa.Rs7 Go.Proofs.Ytmnaamjoikfpbaa.Pm9 Go.Proofs.Ytmnaamjoikfpbaa.Wd9 Go.Proofs.Ytmnaamjoikfpbaa.Mt9 Go.Proofs.Ytmnaamjoikfpbaa.Fd10
theorem number_any (v n : Int) (V m : Nat) (w : World) (hn : Hid (n = (m : Int))) (h1 : 1 ≤ m) (h8 : m ≤ 8) (hv : Hid (v = (V : Int))) (hV : V < 256 ^ m) :
    Calls Try.prog 60 #[.int .u64 v, .int .i64 n] w fun e w' => e = .returned (.string (bs (putN V m))) ∧ Below w.heap.size w w' := by
  have hc := WPut.ok_var v V m w h1 h8 hV hv.out
  rw [← hn.out] at hc
  have HC := Lib.hid hc
  clear hc hV h1 h8
  go_enter Try.func60, Try.ntmps60
  go_wp2_with fail
  refine HC.out.mono ?_
  rintro e w1 ⟨rfl, hb⟩
  have HB := Lib.hid hb
  clear hb
  go_wp2
  go_ret
  exact ⟨rfl, HB.out⟩
theorem count_any (N : Nat) (w : World) (h : N ≤ 140737488351232) :
    Calls Try.prog 49 #[.int .i64 (N : Int)] w fun e w' => e = .returned (.string (bs (putN N 8))) ∧ Below w.heap.size w w' := by
  have hw : IntKind.u64.wrap (N : Int) = (N : Int) := wrap_u64_small N (by omega)
  obtain ⟨v, hv⟩ : ∃ v : Int, v = (N : Int) := ⟨_, rfl⟩
  have HC := Lib.hid (number_any v 8 N 8 w (Lib.hid rfl) (by decide) (by decide) (Lib.hid hv) (by omega))
  rw [← hv] at hw ⊢
  clear hv
  go_enter Try.func49, Try.ntmps49
  go_wp2_with fail
  refine HC.out.mono ?_
  rintro e w1 ⟨rfl, hb⟩
  have HB := Lib.hid hb
  clear hb
  go_wp2
  go_ret
  exact ⟨rfl, HB.out⟩
/-- Two steps, each of which touches nothing that was there. -/
theorem chain {a b c : World} (h : Hid (Below a.heap.size a b)) (k : Below b.heap.size b c) : Hid (Below a.heap.size a c) := Lib.hid (h.out.trans (k.mono h.out.size))
theorem add_run (a b : ByteArray) (h : a.size + b.size ≤ 9223372036854775807) : ∀ W : World, (Op.stringOp .add a b).run Try.prog W = .ok (.string (a ++ b)) W := fun W => by
  unfold Op.stringOp
  go_simp
  omega
theorem join4 (a b : List UInt8) (k v : ByteArray) : (bs a ++ bs b ++ k ++ v : ByteArray) = bs (a ++ (b ++ (k.data.toList ++ v.data.toList))) := by
  rw [← bs_of (bs a ++ bs b ++ k ++ v)]
  congr 1
  simp [bs, List.append_assoc]
set_option maxRecDepth 20000 in
set_option maxHeartbeats 2000000 in
theorem text_any (w : World) (x : Pr) (hm : may x = true) :
    Calls Try.prog 50 #[.agg #[.string x.k, .string x.v, .bool x.g]] w fun e w' => e = .returned (.string (bs (tx x))) ∧ Below w.heap.size w w' := by
  obtain ⟨hk1, hk2, hv2⟩ := may_bound hm
  obtain ⟨k, v, g⟩ := x
  dsimp only at hk1 hk2 hv2 ⊢
  have hj := join4 (putN (mk g) 1) (putN k.size 2) k v
  have hw : IntKind.u64.wrap (k.size : Int) = (k.size : Int) := wrap_u64_small _ (by omega)
  obtain ⟨a, ha⟩ : ∃ a, a = bs (putN (mk g) 1) := ⟨_, rfl⟩
  obtain ⟨b, hb⟩ : ∃ b, b = bs (putN k.size 2) := ⟨_, rfl⟩
  have has : a.size = 1 := by rw [ha, bs_size, putN_length]
  have hbs : b.size = 2 := by rw [hb, bs_size, putN_length]
  have hn1 : ∀ W, Calls Try.prog 60 #[.int .u64 (if g then 1 else 0), .int .i64 1] W fun e w' => e = .returned (.string a) ∧ Below W.heap.size W w' := fun W => by
    rw [ha]; exact number_any _ 1 (mk g) 1 W (Lib.hid rfl) (by decide) (by decide) (Lib.hid (by cases g <;> rfl)) (by cases g <;> decide)
  have hn2 : ∀ W, Calls Try.prog 60 #[.int .u64 (k.size : Int), .int .i64 2] W fun e w' => e = .returned (.string b) ∧ Below W.heap.size W w' := fun W => by
    rw [hb]; exact number_any _ 2 k.size 2 W (Lib.hid rfl) (by decide) (by decide) (Lib.hid rfl) (by omega)
  rw [← ha, ← hb] at hj
  have HJ := Lib.hid hj
  have hnew := heap_new w (pairO ⟨k, v, g⟩)
  have HNW := Lib.hid hnew
  have HB0 : Hid (Below w.heap.size w (w.alloc (pairO ⟨k, v, g⟩))) := Lib.hid ((Below.refl w.heap.size w).alloc (Nat.le_refl _) _)
  have HN2 := Lib.hid hn2
  have HK : Hid (∀ W, Below (w.alloc (pairO ⟨k, v, g⟩)).heap.size (w.alloc (pairO ⟨k, v, g⟩)) W → W.cell? ⟨w.heap.size, 0, none⟩ = some (.string k) ∧ W.cell? ⟨w.heap.size, 1, none⟩ = some (.string v)) := Lib.hid fun W hW => by
    have h1 := (hW.block w.heap.size (by rw [Wd9.size_alloc]; omega)).trans hnew
    exact ⟨cell_of h1 0, cell_of h1 1⟩
  have c0 := cell_of hnew 0
  have c1 := cell_of hnew 1
  have c2 := cell_of hnew 2
  have HX0 : Hid (Below (w.alloc (pairO ⟨k, v, g⟩)).heap.size (w.alloc (pairO ⟨k, v, g⟩)) (w.alloc (pairO ⟨k, v, g⟩)).drew) := Lib.hid (Below.refl _ _).drew
  have hs1 := add_run a b (by omega)
  have hs2 := add_run (a ++ b) k (by rw [ByteArray.size_append]; omega)
  have hs3 := add_run (a ++ b ++ k) v (by rw [ByteArray.size_append, ByteArray.size_append]; omega)
  clear hj hn2 hnew ha hb hm
  cases g
  · have HN1 := Lib.hid hn1
    clear hn1
    simp only [Bool.false_eq_true, if_false] at HN1
    go_enter Try.func50, Try.ntmps50
    go_wp2
    go_region_held3 (fun V => V.cell? ⟨w.heap.size, 0, none⟩ = some (.string k) ∧ V.cell? ⟨w.heap.size, 1, none⟩ = some (.string v)) (first | exact HK.out _ (Hid.out (by assumption)) | go_keep) (first
      | ((with_reducible refine (HN1.out _).mono ?_); rintro e V1 ⟨rfl, hb1⟩; have HX1 := chain (by assumption) hb1; clear hb1)
      | ((with_reducible refine (HN2.out _).mono ?_); rintro e V1 ⟨rfl, hb1⟩; have HX2 := chain (by assumption) hb1; clear hb1))
    go_wp2
    go_ret
    have hx := HX2.out
    exact ⟨by rw [HJ.out]; rfl, HB0.out.trans (hx.mono HB0.out.size)⟩
  · have HN1 := Lib.hid hn1
    clear hn1
    simp only [if_true] at HN1
    go_enter Try.func50, Try.ntmps50
    go_wp2
    go_region_held3 (fun V => V.cell? ⟨w.heap.size, 0, none⟩ = some (.string k) ∧ V.cell? ⟨w.heap.size, 1, none⟩ = some (.string v)) (first | exact HK.out _ (Hid.out (by assumption)) | go_keep) (first
      | ((with_reducible refine (HN1.out _).mono ?_); rintro e V1 ⟨rfl, hb1⟩; have HX1 := chain (by assumption) hb1; clear hb1)
      | ((with_reducible refine (HN2.out _).mono ?_); rintro e V1 ⟨rfl, hb1⟩; have HX2 := chain (by assumption) hb1; clear hb1))
    go_wp2
    go_ret
    have hx := HX2.out
    exact ⟨by rw [HJ.out]; rfl, HB0.out.trans (hx.mono HB0.out.size)⟩
end Go.Proofs.Ytmnaamjoikfpbaa.By10
