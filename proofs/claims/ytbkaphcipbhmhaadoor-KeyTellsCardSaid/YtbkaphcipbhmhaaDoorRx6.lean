/- The contract of the document's own next (fascicleref06): the value that a key begins with (written by genx6.py). -/
import Derived.Test.YtbkaphcipbhmhaaDoorRn6
import Derived.Test.YtbkaphcipbhmhaaDoorKm6
import Derived.Test.YtbkaphcipbhmhaaDoorKr
import Derived.Test.YtbkaphcipbhmhaaDoorVk
import Derived.Handy
namespace Go.Proofs.YtbkaphcipbhmhaaDoor.Rx6
open Go Go.RowKit Go.Proofs.YtbkaphcipbhmhaaDoor.Wm Go.Proofs.YtbkaphcipbhmhaaDoor.Cm Go.Proofs.YtbkaphcipbhmhaaDoor.Vm Go.Proofs.YtbkaphcipbhmhaaDoor.Vr Go.Proofs.YtbkaphcipbhmhaaDoor.Vc Go.Proofs.YtbkaphcipbhmhaaDoor.Vk Go.Proofs.YtbkaphcipbhmhaaDoor.Kl6 Go.Proofs.YtbkaphcipbhmhaaDoor.Km6 Go.Proofs.YtbkaphcipbhmhaaDoor.Bu6 Go.Proofs.YtbkaphcipbhmhaaDoor.Kn6 Go.Proofs.YtbkaphcipbhmhaaDoor.Rn6
theorem head_at (S : ByteArray) (c : UInt8) (r : List UInt8) (h : S = bs (c :: r)) (hz : 0 < S.size) : S[0]'hz = c := by subst h; rfl
theorem tail_at (S : ByteArray) (c : UInt8) (r : List UInt8) (h : S = bs (c :: r)) : S.extract 1 S.size = bs r := by
  subst h; exact bs_drop (c :: r) 1
/-- What next answers. -/
def Next (w : World) (k n R : Int) (t : ByteArray) (d : Int) (e : Ending) (w' : World) : Prop := e = .returned (.tuple #[.agg #[.int .u8 k, .int .i64 n, .int .u64 R, .string t], .int .i64 d]) ∧ Below w.heap.size w w'
theorem cell_of {w : World} {b i : Nat} {cs : Array Value} {T : TypeId} (h : w.heap[b]? = some (.cells cs T (0, 0))) : w.cell? ⟨b, i, none⟩ = cs[i]? := by
  simp [World.cell?, h]
/-- Two blocks of the call's own, behind a call. -/
theorem two_kept {w w1 : World} {k : Int} {o : Obj} (hb : Below ((w.alloc (.cells #[.int .u8 0, .int .i64 0, .int .u64 0, .string ⟨#[]⟩] 38)).alloc o).heap.size ((w.alloc (.cells #[.int .u8 0, .int .i64 0, .int .u64 0, .string ⟨#[]⟩] 38)).alloc o) w1) (ho : o = .cells #[.int .u8 k, .int .i64 0, .int .u64 0, .string ⟨#[]⟩] 38) :
    Hid (Below w.heap.size w w1) ∧ w1.cell? ⟨w.heap.size, 0, none⟩ = some (.int .u8 0) ∧ w1.cell? ⟨w.heap.size, 1, none⟩ = some (.int .i64 0) ∧ w1.cell? ⟨w.heap.size, 2, none⟩ = some (.int .u64 0) ∧ w1.cell? ⟨w.heap.size, 3, none⟩ = some (.string ⟨#[]⟩) ∧ (∀ i, w1.frozen? ⟨w.heap.size, i, none⟩ = false) ∧ w.heap.size < w1.heap.size ∧
      w1.cell? ⟨w.heap.size + 1, 0, none⟩ = some (.int .u8 k) ∧ w1.cell? ⟨w.heap.size + 1, 1, none⟩ = some (.int .i64 0) ∧ w1.cell? ⟨w.heap.size + 1, 2, none⟩ = some (.int .u64 0) ∧ w1.cell? ⟨w.heap.size + 1, 3, none⟩ = some (.string ⟨#[]⟩) ∧ (∀ i, w1.frozen? ⟨w.heap.size + 1, i, none⟩ = false) ∧ w.heap.size + 1 < w1.heap.size := by
  subst ho
  have sz : ∀ (v : World) (o : Obj), (v.alloc o).heap.size = v.heap.size + 1 := fun v o => Array.size_push ..
  have hz := hb.size
  simp only [sz] at hz
  have e0 : w1.heap[w.heap.size]? = some (.cells #[.int .u8 0, .int .i64 0, .int .u64 0, .string ⟨#[]⟩] 38 (0, 0)) := by
    rw [hb.block _ (by simp only [sz]; omega), Below.heap_alloc _ _ _ (by simp only [sz]; omega)]
    exact heap_alloc_new w _
  have e1 : w1.heap[w.heap.size + 1]? = some (.cells #[.int .u8 k, .int .i64 0, .int .u64 0, .string ⟨#[]⟩] 38 (0, 0)) := by
    rw [hb.block _ (by simp only [sz]; omega)]
    have := heap_alloc_new (w.alloc (.cells #[.int .u8 0, .int .i64 0, .int .u64 0, .string ⟨#[]⟩] 38)) (.cells #[.int .u8 k, .int .i64 0, .int .u64 0, .string ⟨#[]⟩] 38)
    simp only [sz] at this
    exact this
  have hbw : Below w.heap.size w w1 := by
    have h : Below w.heap.size w ((w.alloc (.cells #[.int .u8 0, .int .i64 0, .int .u64 0, .string ⟨#[]⟩] 38)).alloc (.cells #[.int .u8 k, .int .i64 0, .int .u64 0, .string ⟨#[]⟩] 38)) := ((Below.refl _ _).alloc (Nat.le_refl _) _).alloc (by simp only [sz]; omega) _
    exact h.trans (hb.mono h.size)
  refine ⟨Lib.hid hbw, cell_of e0, cell_of e0, cell_of e0, cell_of e0, fun i => by simp [World.frozen?, e0], by omega, cell_of e1, cell_of e1, cell_of e1, cell_of e1, fun i => by simp [World.frozen?, e1], by omega⟩
theorem four_some {w : World} {b : Nat} {a c d e : Value} (h0 : w.cell? ⟨b, 0, none⟩ = some a) (h1 : w.cell? ⟨b, 1, none⟩ = some c) (h2 : w.cell? ⟨b, 2, none⟩ = some d) (h3 : w.cell? ⟨b, 3, none⟩ = some e) : ∀ i, i < 4 → (w.cell? ⟨b, i, none⟩).isSome = true := by
  intro i hi
  match i, hi with
  | 0, _ => rw [h0]; rfl
  | 1, _ => rw [h1]; rfl
  | 2, _ => rw [h2]; rfl
  | 3, _ => rw [h3]; rfl
theorem four_other {w : World} {b : Nat} {a c d e : Value} (h0 : w.cell? ⟨b, 0, none⟩ = some a) (h1 : w.cell? ⟨b, 1, none⟩ = some c) (h2 : w.cell? ⟨b, 2, none⟩ = some d) (h3 : w.cell? ⟨b, 3, none⟩ = some e) (v : Value) : ∀ i, i < 4 → ((w.setCell ⟨b + 1, 3, none⟩ v).cell? ⟨b, i, none⟩).isSome = true := by
  intro i hi
  rw [World.cell?_setCell_other _ _ _ _ (by simp)]
  exact four_some h0 h1 h2 h3 i hi
set_option maxRecDepth 20000 in
theorem n_zero (c : UInt8) (r : List UInt8) (w : World) (hs : r.length ≤ 90000) (hc : c.toNat = 0) : Calls Tryd.prog 27 #[.string (bs (c :: r))] w (Next w 0 0 0 ⟨#[]⟩ (-1)) := by
  obtain ⟨S, hS⟩ : ∃ S, S = bs (c :: r) := ⟨_, rfl⟩
  rw [← hS]
  have hzs : S.size = r.length + 1 := by rw [hS, bs_size]; rfl
  have hz : 0 < S.size := by omega
  have hz1 : (1 : Int) ≤ (S.size : Int) := by omega
  have hz2 : (0 : Int) < (S.size : Int) := by omega
  have h0 : ((S[0]'hz).toNat : Int) = 0 := by rw [head_at S c r hS hz, hc]; rfl
  clear hS
  go_enter Tryd.func27, Tryd.ntmps27
  go_wp2
  go_returns
  exact ⟨rfl, (Below.refl w.heap.size w).alloc (Nat.le_refl _) _⟩
set_option maxRecDepth 20000 in
theorem n_null (c : UInt8) (r : List UInt8) (w : World) (hs : r.length ≤ 90000) (hc : c.toNat = 1) : Calls Tryd.prog 27 #[.string (bs (c :: r))] w (Next w 0 0 0 ⟨#[]⟩ 1) := by
  obtain ⟨S, hS⟩ : ∃ S, S = bs (c :: r) := ⟨_, rfl⟩
  rw [← hS]
  have hzs : S.size = r.length + 1 := by rw [hS, bs_size]; rfl
  have hz : 0 < S.size := by omega
  have hz1 : (1 : Int) ≤ (S.size : Int) := by omega
  have hz2 : (0 : Int) < (S.size : Int) := by omega
  have h0 : ((S[0]'hz).toNat : Int) = 1 := by rw [head_at S c r hS hz, hc]; rfl
  clear hS
  go_enter Tryd.func27, Tryd.ntmps27
  go_wp2
  go_returns
  exact ⟨rfl, (Below.refl w.heap.size w).alloc (Nat.le_refl _) _ |>.alloc (by simp) _⟩
set_option maxRecDepth 20000 in
theorem n_bool_no (c : UInt8) (r : List UInt8) (w : World) (hs : r.length ≤ 90000) (hc : c.toNat = 2) (hr : r = []) : Calls Tryd.prog 27 #[.string (bs (c :: r))] w (Next w 1 0 0 ⟨#[]⟩ (-1)) := by
  obtain ⟨S, hS⟩ : ∃ S, S = bs (c :: r) := ⟨_, rfl⟩
  rw [← hS]
  have hzs : S.size = r.length + 1 := by rw [hS, bs_size]; rfl
  have hz : 0 < S.size := by omega
  have hz1 : (1 : Int) ≤ (S.size : Int) := by omega
  have hz2 : (0 : Int) < (S.size : Int) := by omega
  have h0 : ((S[0]'hz).toNat : Int) = 2 := by rw [head_at S c r hS hz, hc]; rfl
  have hl : (S.size : Int) < 2 := by rw [hzs, hr]; simp
  clear hS
  go_enter Tryd.func27, Tryd.ntmps27
  go_wp2
  go_returns
  exact ⟨rfl, (Below.refl w.heap.size w).alloc (Nat.le_refl _) _ |>.alloc (by simp) _⟩
set_option maxRecDepth 20000 in
theorem n_bool (c b : UInt8) (x : List UInt8) (w : World) (hc : c.toNat = 2) (q : Int) (hq : q = (b.toNat : Int)) : Calls Tryd.prog 27 #[.string (bs (c :: b :: x))] w (Next w 1 q 0 ⟨#[]⟩ 2) := by
  obtain ⟨S, hS⟩ : ∃ S, S = bs (c :: b :: x) := ⟨_, rfl⟩
  rw [← hS]
  have hzs : S.size = x.length + 2 := by rw [hS, bs_size]; rfl
  have hz : 0 < S.size := by omega
  have hz1 : (1 : Int) ≤ (S.size : Int) := by omega
  have hz2 : (0 : Int) < (S.size : Int) := by omega
  have h0 : ((S[0]'hz).toNat : Int) = 2 := by rw [head_at S c (b :: x) hS hz, hc]; rfl
  have hl : ¬ (S.size : Int) < 2 := by omega
  have hl1 : 1 < S.size := by omega
  have hb := b.toNat_lt
  have h1 : ((S[1]'hl1).toNat : Int) = q := by subst hS; exact hq.symm
  have hwr : IntKind.i64.wrap q = q := by rw [hq]; simp only [IntKind.wrap, IntKind.bits, IntKind.signed]; simp; omega
  clear hS hq hb
  go_enter Tryd.func27, Tryd.ntmps27
  go_wp2
  go_returns
  exact ⟨rfl, (Below.refl w.heap.size w).alloc (Nat.le_refl _) _ |>.alloc (by simp) _⟩
set_option maxRecDepth 20000 in
theorem n_int_no (c : UInt8) (r : List UInt8) (w : World) (hs : r.length ≤ 90000) (hc : c.toNat = 3) (hr : r.length < 8) : Calls Tryd.prog 27 #[.string (bs (c :: r))] w (Next w 2 0 0 ⟨#[]⟩ (-1)) := by
  obtain ⟨S, hS⟩ : ∃ S, S = bs (c :: r) := ⟨_, rfl⟩
  rw [← hS]
  have hzs : S.size = r.length + 1 := by rw [hS, bs_size]; rfl
  have hz : 0 < S.size := by omega
  have hz1 : (1 : Int) ≤ (S.size : Int) := by omega
  have hz2 : (0 : Int) < (S.size : Int) := by omega
  have h0 : ((S[0]'hz).toNat : Int) = 3 := by rw [head_at S c r hS hz, hc]; rfl
  have hl : (S.size : Int) < 9 := by omega
  clear hS
  go_enter Tryd.func27, Tryd.ntmps27
  go_wp2
  go_returns
  exact ⟨rfl, (Below.refl w.heap.size w).alloc (Nat.le_refl _) _ |>.alloc (by simp) _⟩
set_option maxRecDepth 20000 in
theorem n_real_no (c : UInt8) (r : List UInt8) (w : World) (hs : r.length ≤ 90000) (hc : c.toNat = 4) (hr : r.length < 8) : Calls Tryd.prog 27 #[.string (bs (c :: r))] w (Next w 3 0 0 ⟨#[]⟩ (-1)) := by
  obtain ⟨S, hS⟩ : ∃ S, S = bs (c :: r) := ⟨_, rfl⟩
  rw [← hS]
  have hzs : S.size = r.length + 1 := by rw [hS, bs_size]; rfl
  have hz : 0 < S.size := by omega
  have hz1 : (1 : Int) ≤ (S.size : Int) := by omega
  have hz2 : (0 : Int) < (S.size : Int) := by omega
  have h0 : ((S[0]'hz).toNat : Int) = 4 := by rw [head_at S c r hS hz, hc]; rfl
  have hl : (S.size : Int) < 9 := by omega
  clear hS
  go_enter Tryd.func27, Tryd.ntmps27
  go_wp2
  go_returns
  exact ⟨rfl, (Below.refl w.heap.size w).alloc (Nat.le_refl _) _ |>.alloc (by simp) _⟩
set_option maxRecDepth 20000 in
theorem n_int (c : UInt8) (r : List UInt8) (w : World) (hs : r.length ≤ 90000) (hc : c.toNat = 3) (hr : 8 ≤ r.length) (N : Nat) (hN : N = getL (r.take 8).reverse) (hNl : N < 18446744073709551616) : Calls Tryd.prog 27 #[.string (bs (c :: r))] w (Next w 2 ((N : Int) - 9223372036854775808) 0 ⟨#[]⟩ 9) := by
  obtain ⟨S, hS⟩ : ∃ S, S = bs (c :: r) := ⟨_, rfl⟩
  rw [← hS]
  have hzs : S.size = r.length + 1 := by rw [hS, bs_size]; rfl
  have hz : 0 < S.size := by omega
  have hz1 : (1 : Int) ≤ (S.size : Int) := by omega
  have hz2 : (0 : Int) < (S.size : Int) := by omega
  have h0 : ((S[0]'hz).toNat : Int) = 3 := by rw [head_at S c r hS hz, hc]; rfl
  have hl : ¬ (S.size : Int) < 9 := by omega
  have hl9 : (9 : Int) ≤ (S.size : Int) := by omega
  obtain ⟨T, hT⟩ : ∃ T, S.extract 1 9 = T := ⟨_, rfl⟩
  have hT2 : T = bs (r.take 8) := by rw [← hT, hS, bs_extract]; rfl
  have hTz : T.size = 8 := by rw [hT2, bs_size, List.length_take]; omega
  have HNm : Hid (∀ W, Calls Tryd.prog 48 #[.string T] W fun e w' => e = .returned (.int .u64 (N : Int)) ∧ W = w') := Lib.hid fun W => by
    have := number_any W T (by omega) (by omega)
    rw [hT2, bs_list, List.take_take, Nat.min_self, ← hN] at this
    rw [hT2]; exact this
  obtain ⟨q, hq1⟩ : ∃ q : Int, q = (N : Int) - 9223372036854775808 := ⟨_, rfl⟩
  have hw1 : IntKind.i64.wrap (IntKind.u64.wrap ((N : Int) - 9223372036854775808)) = q := by
    rw [hq1]; simp only [IntKind.wrap, IntKind.bits, IntKind.signed]; simp; omega
  rw [← hq1]
  clear hS hT2 hN hq1
  go_enter Tryd.func27, Tryd.ntmps27
  go_wp2_with fail
  with_reducible refine (HNm.out _).mono ?_
  rintro e w1 ⟨rfl, rfl⟩
  go_wp2
  go_returns
  exact ⟨rfl, (Below.refl w.heap.size w).alloc (Nat.le_refl _) _ |>.alloc (by simp) _⟩
set_option maxRecDepth 20000 in
theorem n_real (c : UInt8) (r : List UInt8) (w : World) (hs : r.length ≤ 90000) (hc : c.toNat = 4) (hr : 8 ≤ r.length) (N : Nat) (hN : N = getL (r.take 8).reverse) (hNl : N < 18446744073709551616) (a : Nat) (ha : a = (Rm.back N).1) (hb : (Rm.back N).2 = 0) : Calls Tryd.prog 27 #[.string (bs (c :: r))] w (Next w 3 0 (a : Int) ⟨#[]⟩ 9) := by
  obtain ⟨S, hS⟩ : ∃ S, S = bs (c :: r) := ⟨_, rfl⟩
  rw [← hS]
  have hzs : S.size = r.length + 1 := by rw [hS, bs_size]; rfl
  have hz : 0 < S.size := by omega
  have hz1 : (1 : Int) ≤ (S.size : Int) := by omega
  have hz2 : (0 : Int) < (S.size : Int) := by omega
  have h0 : ((S[0]'hz).toNat : Int) = 4 := by rw [head_at S c r hS hz, hc]; rfl
  have hl : ¬ (S.size : Int) < 9 := by omega
  have hl9 : (9 : Int) ≤ (S.size : Int) := by omega
  obtain ⟨T, hT⟩ : ∃ T, S.extract 1 9 = T := ⟨_, rfl⟩
  have hT2 : T = bs (r.take 8) := by rw [← hT, hS, bs_extract]; rfl
  have hTz : T.size = 8 := by rw [hT2, bs_size, List.length_take]; omega
  have HNm : Hid (∀ W, Calls Tryd.prog 48 #[.string T] W fun e w' => e = .returned (.int .u64 (N : Int)) ∧ W = w') := Lib.hid fun W => by
    have := number_any W T (by omega) (by omega)
    rw [hT2, bs_list, List.take_take, Nat.min_self, ← hN] at this
    rw [hT2]; exact this
  have HBk : Hid (∀ W, Calls Tryd.prog 49 #[.int .u64 (N : Int)] W fun e w' => e = .returned (.tuple #[.int .u64 (a : Int), .int .i64 0]) ∧ W = w') := Lib.hid fun W => by
    have := Kr.refback_any N W hNl
    rw [hb, ← ha] at this
    exact this
  clear hS hT2 hN ha hb
  go_enter Tryd.func27, Tryd.ntmps27
  go_wp2_with fail
  with_reducible refine (HNm.out _).mono ?_
  rintro e w1 ⟨rfl, rfl⟩
  go_wp2_with fail
  with_reducible refine (HBk.out _).mono ?_
  rintro e w2 ⟨rfl, rfl⟩
  go_wp2
  go_returns
  exact ⟨rfl, (Below.refl w.heap.size w).alloc (Nat.le_refl _) _ |>.alloc (by simp) _⟩
set_option maxRecDepth 20000 in
theorem n_real_bad (c : UInt8) (r : List UInt8) (w : World) (hs : r.length ≤ 90000) (hc : c.toNat = 4) (hr : 8 ≤ r.length) (N : Nat) (hN : N = getL (r.take 8).reverse) (hNl : N < 18446744073709551616) (a : Nat) (ha : a = (Rm.back N).1) (hb : (Rm.back N).2 = 2) : Calls Tryd.prog 27 #[.string (bs (c :: r))] w (Next w 3 0 0 ⟨#[]⟩ (-1)) := by
  obtain ⟨S, hS⟩ : ∃ S, S = bs (c :: r) := ⟨_, rfl⟩
  rw [← hS]
  have hzs : S.size = r.length + 1 := by rw [hS, bs_size]; rfl
  have hz : 0 < S.size := by omega
  have hz1 : (1 : Int) ≤ (S.size : Int) := by omega
  have hz2 : (0 : Int) < (S.size : Int) := by omega
  have h0 : ((S[0]'hz).toNat : Int) = 4 := by rw [head_at S c r hS hz, hc]; rfl
  have hl : ¬ (S.size : Int) < 9 := by omega
  have hl9 : (9 : Int) ≤ (S.size : Int) := by omega
  obtain ⟨T, hT⟩ : ∃ T, S.extract 1 9 = T := ⟨_, rfl⟩
  have hT2 : T = bs (r.take 8) := by rw [← hT, hS, bs_extract]; rfl
  have hTz : T.size = 8 := by rw [hT2, bs_size, List.length_take]; omega
  have HNm : Hid (∀ W, Calls Tryd.prog 48 #[.string T] W fun e w' => e = .returned (.int .u64 (N : Int)) ∧ W = w') := Lib.hid fun W => by
    have := number_any W T (by omega) (by omega)
    rw [hT2, bs_list, List.take_take, Nat.min_self, ← hN] at this
    rw [hT2]; exact this
  have HBk : Hid (∀ W, Calls Tryd.prog 49 #[.int .u64 (N : Int)] W fun e w' => e = .returned (.tuple #[.int .u64 (a : Int), .int .i64 2]) ∧ W = w') := Lib.hid fun W => by
    have := Kr.refback_any N W hNl
    rw [hb, ← ha] at this
    exact this
  clear hS hT2 hN ha hb
  go_enter Tryd.func27, Tryd.ntmps27
  go_wp2_with fail
  with_reducible refine (HNm.out _).mono ?_
  rintro e w1 ⟨rfl, rfl⟩
  go_wp2_with fail
  with_reducible refine (HBk.out _).mono ?_
  rintro e w2 ⟨rfl, rfl⟩
  go_wp2
  go_returns
  exact ⟨rfl, (Below.refl w.heap.size w).alloc (Nat.le_refl _) _ |>.alloc (by simp) _⟩
set_option maxRecDepth 20000 in
theorem n_other (c : UInt8) (r : List UInt8) (w : World) (hs : r.length ≤ 90000) (hc : 6 < c.toNat) (q : Int) (hq : q = (c.toNat : Int) - 1) : Calls Tryd.prog 27 #[.string (bs (c :: r))] w (Next w q 0 0 ⟨#[]⟩ (-1)) := by
  obtain ⟨S, hS⟩ : ∃ S, S = bs (c :: r) := ⟨_, rfl⟩
  rw [← hS]
  have hzs : S.size = r.length + 1 := by rw [hS, bs_size]; rfl
  have hz : 0 < S.size := by omega
  have hz1 : (1 : Int) ≤ (S.size : Int) := by omega
  have hz2 : (0 : Int) < (S.size : Int) := by omega
  obtain ⟨p, hp⟩ : ∃ p : Int, p = (c.toNat : Int) := ⟨_, rfl⟩
  have h0 : ((S[0]'hz).toNat : Int) = p := by rw [head_at S c r hS hz, hp]
  have hlt := c.toNat_lt
  have hq1 : p - 1 = q := by omega
  have hw : (p - 1) % 256 = q := by omega
  have hw' : q % 256 = q := by omega
  have hp0 : (p == 0) = false := by simpa using (by omega : ¬ p = 0)
  have q0 : (q == 0) = false := by simpa using (by omega : ¬ q = 0)
  have q1 : (q == 1) = false := by simpa using (by omega : ¬ q = 1)
  have q2 : (q == 2) = false := by simpa using (by omega : ¬ q = 2)
  have q3 : (q == 3) = false := by simpa using (by omega : ¬ q = 3)
  have q4 : (q == 4) = false := by simpa using (by omega : ¬ q = 4)
  have q5 : (q == 5) = false := by simpa using (by omega : ¬ q = 5)
  have q9 : q < 256 := by omega
  have qm : 0 ≤ q := by omega
  clear hS hc hp hlt hq
  go_enter Tryd.func27, Tryd.ntmps27
  go_wp2
  go_returns
  exact ⟨rfl, (Below.refl w.heap.size w).alloc (Nat.le_refl _) _ |>.alloc (by simp) _⟩
set_option maxRecDepth 20000 in
theorem n_text5_no (c : UInt8) (r : List UInt8) (w : World) (hs : r.length ≤ 90000) (hc : c.toNat = 5) (hu : cutR [] r = none) : Calls Tryd.prog 27 #[.string (bs (c :: r))] w (Next w 4 0 0 ⟨#[]⟩ (-1)) := by
  obtain ⟨S, hS⟩ : ∃ S, S = bs (c :: r) := ⟨_, rfl⟩
  rw [← hS]
  have hzs : S.size = r.length + 1 := by rw [hS, bs_size]; rfl
  have hz : 0 < S.size := by omega
  have hz1 : (1 : Int) ≤ (S.size : Int) := by omega
  have hz2 : (0 : Int) < (S.size : Int) := by omega
  have h0 : ((S[0]'hz).toNat : Int) = 5 := by rw [head_at S c r hS hz, hc]; rfl
  obtain ⟨T, hT⟩ : ∃ T, S.extract 1 S.size = T := ⟨_, rfl⟩
  have hT2 : T = bs r := by rw [← hT]; exact tail_at S c r hS
  have HU : Hid (∀ W, Calls Tryd.prog 50 #[.string T] W fun e w' => e = .returned (.tuple #[.string ⟨#[]⟩, .int .i64 (-1)]) ∧ Below W.heap.size W w') := Lib.hid fun W => by
    have := untext_any W T (by rw [hT2, bs_size]; omega)
    unfold unS at this
    rw [hT2, bs_list, hu] at this
    rw [hT2]; exact this
  clear hS hT2 hu hzs
  go_enter Tryd.func27, Tryd.ntmps27
  go_wp2_with fail
  with_reducible refine (HU.out _).mono ?_
  rintro e w1 ⟨rfl, hb⟩
  obtain ⟨HB, d0, d1, d2, d3, df, dl, v0, v1, v2, v3, vf, vl⟩ := two_kept hb rfl
  clear hb
  obtain ⟨hs0, hs1, hs2, hs3⟩ := reads4 (four_some d0 d1 d2 d3)
  go_wp2
  refine bodyPost_ret (v := .tuple #[.agg #[.int .u8 4, .int .i64 0, .int .u64 0, .string ⟨#[]⟩], .int .i64 (-1)]) (by simp [results, Tryd.results27, go_sem, hs0, hs1, hs2, hs3]) rfl ⟨rfl, ?_⟩
  exact (((HB.out.setCell (Nat.le_refl _) _).setCell (Nat.le_refl _) _).setCell (Nat.le_refl _) _).setCell (Nat.le_refl _) _
set_option maxRecDepth 20000 in
theorem n_text5 (c : UInt8) (r : List UInt8) (w : World) (hs : r.length ≤ 90000) (hc : c.toNat = 5) (t x : List UInt8) (hu : cutR [] r = some (t, x)) (hx : x.length ≤ r.length) (d : Int) (hd : d = 1 + ((r.length : Int) - (x.length : Int))) : Calls Tryd.prog 27 #[.string (bs (c :: r))] w (Next w 4 0 0 (bs t) d) := by
  obtain ⟨S, hS⟩ : ∃ S, S = bs (c :: r) := ⟨_, rfl⟩
  rw [← hS]
  have hzs : S.size = r.length + 1 := by rw [hS, bs_size]; rfl
  have hz : 0 < S.size := by omega
  have hz1 : (1 : Int) ≤ (S.size : Int) := by omega
  have hz2 : (0 : Int) < (S.size : Int) := by omega
  have h0 : ((S[0]'hz).toNat : Int) = 5 := by rw [head_at S c r hS hz, hc]; rfl
  obtain ⟨T, hT⟩ : ∃ T, S.extract 1 S.size = T := ⟨_, rfl⟩
  have hT2 : T = bs r := by rw [← hT]; exact tail_at S c r hS
  obtain ⟨U, hU⟩ : ∃ U, U = bs t := ⟨_, rfl⟩
  rw [← hU]
  obtain ⟨q, hq⟩ : ∃ q : Int, q = (r.length : Int) - (x.length : Int) := ⟨_, rfl⟩
  rw [← hq] at hd
  have hq0 : (0 : Int) ≤ q := by omega
  have hq1 : ¬ q < 0 := by omega
  have hq9 : q ≤ 90000 := by omega
  have HU : Hid (∀ W, Calls Tryd.prog 50 #[.string T] W fun e w' => e = .returned (.tuple #[.string U, .int .i64 q]) ∧ Below W.heap.size W w') := Lib.hid fun W => by
    have := untext_any W T (by rw [hT2, bs_size]; omega)
    unfold unS at this
    rw [hT2, bs_list, hu] at this
    rw [hT2, hU, hq]; exact this
  clear hS hT2 hu hU hq hx hzs
  have HD := Lib.hid hd
  clear hd
  go_enter Tryd.func27, Tryd.ntmps27
  go_wp2_with fail
  with_reducible refine (HU.out _).mono ?_
  rintro e w1 ⟨rfl, hb⟩
  obtain ⟨HB, d0, d1, d2, d3, df, dl, v0, v1, v2, v3, vf, vl⟩ := two_kept hb rfl
  clear hb
  obtain ⟨hs0, hs1, hs2, hs3⟩ := reads4 (w1 := w1.setCell ⟨w.heap.size + 1, 3, none⟩ (.string U)) (B := w.heap.size) (four_other d0 d1 d2 d3 _)
  go_wp2
  refine bodyPost_ret (v := .tuple #[.agg #[.int .u8 4, .int .i64 0, .int .u64 0, .string U], .int .i64 (1 + q)]) (by simp [results, Tryd.results27, go_sem, hs0, hs1, hs2, hs3]) rfl ⟨by rw [HD.out], ?_⟩
  exact ((((HB.out.setCell (by simp) _).setCell (Nat.le_refl _) _).setCell (Nat.le_refl _) _).setCell (Nat.le_refl _) _).setCell (Nat.le_refl _) _
set_option maxRecDepth 20000 in
theorem n_text6_no (c : UInt8) (r : List UInt8) (w : World) (hs : r.length ≤ 90000) (hc : c.toNat = 6) (hu : cutR [] r = none) : Calls Tryd.prog 27 #[.string (bs (c :: r))] w (Next w 5 0 0 ⟨#[]⟩ (-1)) := by
  obtain ⟨S, hS⟩ : ∃ S, S = bs (c :: r) := ⟨_, rfl⟩
  rw [← hS]
  have hzs : S.size = r.length + 1 := by rw [hS, bs_size]; rfl
  have hz : 0 < S.size := by omega
  have hz1 : (1 : Int) ≤ (S.size : Int) := by omega
  have hz2 : (0 : Int) < (S.size : Int) := by omega
  have h0 : ((S[0]'hz).toNat : Int) = 6 := by rw [head_at S c r hS hz, hc]; rfl
  obtain ⟨T, hT⟩ : ∃ T, S.extract 1 S.size = T := ⟨_, rfl⟩
  have hT2 : T = bs r := by rw [← hT]; exact tail_at S c r hS
  have HU : Hid (∀ W, Calls Tryd.prog 50 #[.string T] W fun e w' => e = .returned (.tuple #[.string ⟨#[]⟩, .int .i64 (-1)]) ∧ Below W.heap.size W w') := Lib.hid fun W => by
    have := untext_any W T (by rw [hT2, bs_size]; omega)
    unfold unS at this
    rw [hT2, bs_list, hu] at this
    rw [hT2]; exact this
  clear hS hT2 hu hzs
  go_enter Tryd.func27, Tryd.ntmps27
  go_wp2_with fail
  with_reducible refine (HU.out _).mono ?_
  rintro e w1 ⟨rfl, hb⟩
  obtain ⟨HB, d0, d1, d2, d3, df, dl, v0, v1, v2, v3, vf, vl⟩ := two_kept hb rfl
  clear hb
  obtain ⟨hs0, hs1, hs2, hs3⟩ := reads4 (four_some d0 d1 d2 d3)
  go_wp2
  refine bodyPost_ret (v := .tuple #[.agg #[.int .u8 5, .int .i64 0, .int .u64 0, .string ⟨#[]⟩], .int .i64 (-1)]) (by simp [results, Tryd.results27, go_sem, hs0, hs1, hs2, hs3]) rfl ⟨rfl, ?_⟩
  exact (((HB.out.setCell (Nat.le_refl _) _).setCell (Nat.le_refl _) _).setCell (Nat.le_refl _) _).setCell (Nat.le_refl _) _
set_option maxRecDepth 20000 in
theorem n_text6 (c : UInt8) (r : List UInt8) (w : World) (hs : r.length ≤ 90000) (hc : c.toNat = 6) (t x : List UInt8) (hu : cutR [] r = some (t, x)) (hx : x.length ≤ r.length) (d : Int) (hd : d = 1 + ((r.length : Int) - (x.length : Int))) : Calls Tryd.prog 27 #[.string (bs (c :: r))] w (Next w 5 0 0 (bs t) d) := by
  obtain ⟨S, hS⟩ : ∃ S, S = bs (c :: r) := ⟨_, rfl⟩
  rw [← hS]
  have hzs : S.size = r.length + 1 := by rw [hS, bs_size]; rfl
  have hz : 0 < S.size := by omega
  have hz1 : (1 : Int) ≤ (S.size : Int) := by omega
  have hz2 : (0 : Int) < (S.size : Int) := by omega
  have h0 : ((S[0]'hz).toNat : Int) = 6 := by rw [head_at S c r hS hz, hc]; rfl
  obtain ⟨T, hT⟩ : ∃ T, S.extract 1 S.size = T := ⟨_, rfl⟩
  have hT2 : T = bs r := by rw [← hT]; exact tail_at S c r hS
  obtain ⟨U, hU⟩ : ∃ U, U = bs t := ⟨_, rfl⟩
  rw [← hU]
  obtain ⟨q, hq⟩ : ∃ q : Int, q = (r.length : Int) - (x.length : Int) := ⟨_, rfl⟩
  rw [← hq] at hd
  have hq0 : (0 : Int) ≤ q := by omega
  have hq1 : ¬ q < 0 := by omega
  have hq9 : q ≤ 90000 := by omega
  have HU : Hid (∀ W, Calls Tryd.prog 50 #[.string T] W fun e w' => e = .returned (.tuple #[.string U, .int .i64 q]) ∧ Below W.heap.size W w') := Lib.hid fun W => by
    have := untext_any W T (by rw [hT2, bs_size]; omega)
    unfold unS at this
    rw [hT2, bs_list, hu] at this
    rw [hT2, hU, hq]; exact this
  clear hS hT2 hu hU hq hx hzs
  have HD := Lib.hid hd
  clear hd
  go_enter Tryd.func27, Tryd.ntmps27
  go_wp2_with fail
  with_reducible refine (HU.out _).mono ?_
  rintro e w1 ⟨rfl, hb⟩
  obtain ⟨HB, d0, d1, d2, d3, df, dl, v0, v1, v2, v3, vf, vl⟩ := two_kept hb rfl
  clear hb
  obtain ⟨hs0, hs1, hs2, hs3⟩ := reads4 (w1 := w1.setCell ⟨w.heap.size + 1, 3, none⟩ (.string U)) (B := w.heap.size) (four_other d0 d1 d2 d3 _)
  go_wp2
  refine bodyPost_ret (v := .tuple #[.agg #[.int .u8 5, .int .i64 0, .int .u64 0, .string U], .int .i64 (1 + q)]) (by simp [results, Tryd.results27, go_sem, hs0, hs1, hs2, hs3]) rfl ⟨by rw [HD.out], ?_⟩
  exact ((((HB.out.setCell (by simp) _).setCell (Nat.le_refl _) _).setCell (Nat.le_refl _) _).setCell (Nat.le_refl _) _).setCell (Nat.le_refl _) _
end Go.Proofs.YtbkaphcipbhmhaaDoor.Rx6
