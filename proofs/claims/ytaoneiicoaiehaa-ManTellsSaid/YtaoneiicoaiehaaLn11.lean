/- slices.Sort of a row of 64-bit numbers: the library's own contracts of bits.Len, of the next power of two and of the random numbers, laid over this program; the breaking of patterns. -/
import Derived.Test.YtaoneiicoaiehaaSx11
import Derived.Shelf.SlGeneric
import Derived.Ground.NamesProg
import Derived.Ground.SlsfProg
import Derived.Shelf.Small.Bits
import Derived.Shelf.SlSortCmp.Xorshift
namespace Go.Proofs.Ytaoneiicoaiehaa.Ln11
open Go Go.RowKit Go.Lib Go.Shelf Go.Sort Go.Proofs Go.Proofs.Ytaoneiicoaiehaa.Dh Go.Proofs.Ytaoneiicoaiehaa.Sx11
def lenLay_ren : Go.Shelf.Ren := ⟨fun | 125 => 45 | 128 => 76 | 129 => 77 | n => n, fun | 46 => 82 | 3 => 3 | 51 => 95 | 53 => 22 | 4 => 4 | 5 => 5 | 9 => 9 | n => n, fun | n => n⟩
theorem lenLay : Go.Proofs.Lays.n125 Try.prog lenLay_ren := {
  mixed := by kernel_rfl
  f125 := Try.func45.trans (congrArg some (by kernel_rfl))
  f128 := Try.func76.trans (congrArg some (by kernel_rfl))
  f129 := Try.func77.trans (congrArg some (by kernel_rfl))
  t3 := Try.underlying3
  a3 := Try.isAgg3
  z3 := Try.sizeOf3
  v3 := Try.zeroValue3
  t4 := Try.underlying4
  a4 := Try.isAgg4
  z4 := Try.sizeOf4
  v4 := Try.zeroValue4
  t5 := Try.underlying5
  a5 := Try.isAgg5
  z5 := Try.sizeOf5
  v5 := Try.zeroValue5
  t9 := Try.underlying9
  a9 := Try.isAgg9
  z9 := Try.sizeOf9
  v9 := Try.zeroValue9
  t46 := Try.underlying82
  a46 := Try.isAgg82
  z46 := Try.sizeOf82
  v46 := Try.zeroValue82
  t51 := Try.underlying95
  a51 := Try.isAgg95
  z51 := Try.sizeOf95
  v51 := Try.zeroValue95
  t53 := Try.underlying22
  a53 := Try.isAgg22
  z53 := Try.sizeOf22
  v53 := Try.zeroValue22 }
def xorLay_ren : Go.Shelf.Ren := ⟨fun | 48 => 93 | n => n, fun | 76 => 138 | 55 => 22 | 0 => 0 | 66 => 128 | 39 => 82 | n => n, fun | n => n⟩
theorem xorLay : Go.Proofs.SlLaysF0.n48 Try.prog xorLay_ren := {
  mixed := by kernel_rfl
  f48 := Try.func93.trans (congrArg some (by kernel_rfl))
  t0 := Try.underlying0
  a0 := Try.isAgg0
  z0 := Try.sizeOf0
  v0 := Try.zeroValue0
  t39 := Try.underlying82
  a39 := Try.isAgg82
  z39 := Try.sizeOf82
  v39 := Try.zeroValue82
  t55 := Try.underlying22
  a55 := Try.isAgg22
  z55 := Try.sizeOf22
  v55 := Try.zeroValue22
  t66 := Try.underlying128
  a66 := Try.isAgg128
  z66 := Try.sizeOf128
  v66 := Try.zeroValue128
  t76 := Try.underlying138
  a76 := Try.isAgg138
  z76 := Try.sizeOf138
  v76 := Try.zeroValue138 }
def powLay_ren : Go.Shelf.Ren := ⟨fun | 47 => 92 | 15 => 45 | 28 => 76 | 29 => 77 | n => n, fun | 3 => 3 | 39 => 82 | 53 => 95 | 55 => 22 | 4 => 4 | 5 => 5 | 9 => 9 | n => n, fun | n => n⟩
theorem powLay : Go.Proofs.SlLaysF0.n47 Try.prog powLay_ren := {
  mixed := by kernel_rfl
  f15 := Try.func45.trans (congrArg some (by kernel_rfl))
  f28 := Try.func76.trans (congrArg some (by kernel_rfl))
  f29 := Try.func77.trans (congrArg some (by kernel_rfl))
  f47 := Try.func92.trans (congrArg some (by kernel_rfl))
  t3 := Try.underlying3
  a3 := Try.isAgg3
  z3 := Try.sizeOf3
  v3 := Try.zeroValue3
  t4 := Try.underlying4
  a4 := Try.isAgg4
  z4 := Try.sizeOf4
  v4 := Try.zeroValue4
  t5 := Try.underlying5
  a5 := Try.isAgg5
  z5 := Try.sizeOf5
  v5 := Try.zeroValue5
  t9 := Try.underlying9
  a9 := Try.isAgg9
  z9 := Try.sizeOf9
  v9 := Try.zeroValue9
  t39 := Try.underlying82
  a39 := Try.isAgg82
  z39 := Try.sizeOf82
  v39 := Try.zeroValue82
  t53 := Try.underlying95
  a53 := Try.isAgg95
  z53 := Try.sizeOf95
  v53 := Try.zeroValue95
  t55 := Try.underlying22
  a55 := Try.isAgg22
  z55 := Try.sizeOf22
  v55 := Try.zeroValue22 }
theorem len_any (n : Nat) (hn : n < 4611686018427387904) (w : World) :
    Calls Try.prog 45 #[.int .u64 n] w fun e w' => e = .returned (.int .i64 (bitsLen n : Nat)) ∧ w' = w := by
  have h := Any.bits_Len lenLay (n : Int) w (by omega) (by omega)
  rwa [Int.toNat_natCast, bitLen_eq _ (by omega)] at h
theorem pow_any (n : Nat) (hn : n < 4611686018427387904) (w : World) :
    Calls Try.prog 92 #[.int .i64 n] w fun e w' => e = .returned (.int .u64 ((1 <<< bitsLen n : Nat) : Int)) ∧ w' = w :=
  AnyF.nextPowerOfTwo powLay n hn w
theorem xor_any (c X : Nat) (hX : X < 18446744073709551616) (w : World) (hc : w.cell? ⟨c, 0, none⟩ = some (.int .u64 X)) (hf : w.frozen? ⟨c, 0, none⟩ = false) :
    Calls Try.prog 93 #[.pointer (some ⟨c, 0, none⟩)] w fun e w' => e = .returned (.int .u64 (xorNextN X : Nat)) ∧ w' = (w.setCell ⟨c, 0, none⟩ (.int .u64 (xorNextN X : Nat))).drewN 3 :=
  AnyF.xorshift_Next xorLay c 0 X hX w hc hf
/-- With the random number's block. -/
structure Rnd (w0 w : World) (b off : Nat) (d : Array Int) (c X : Nat) : Prop where
  srt : Srt w0 w b off d
  new : w0.heap.size ≤ c
  fits : X < 18446744073709551616
  cell : w.cell? ⟨c, 0, none⟩ = some (.int .u64 (X : Int))
  free : w.frozen? ⟨c, 0, none⟩ = false
theorem Rnd.drewN {w0 w : World} {b off c X : Nat} {d : Array Int} (h : Rnd w0 w b off d c X) (n : Nat) : Rnd w0 (w.drewN n) b off d c X := ⟨h.srt.drewN n, h.new, h.fits, h.cell, h.free⟩
theorem Rnd.next {w0 w : World} {b off c X : Nat} {d : Array Int} (h : Rnd w0 w b off d c X) : Rnd w0 (w.setCell ⟨c, 0, none⟩ (.int .u64 (xorNextN X : Nat))) b off d c (xorNextN X) :=
  ⟨h.srt.store c 0 _ h.new, h.new, xorNextN_lt _ h.fits, World.cell?_setCell_same _ _ _ h.cell, by rw [World.frozen?_setCell]; exact h.free⟩
theorem Rnd.swapd {w0 w : World} {b off c X : Nat} {d : Array Int} (h : Rnd w0 w b off d c X) (i j : Nat) (hi : i < d.size) (hj : j < d.size) :
    Rnd w0 ((w.setCell ⟨b, off + i, none⟩ (.int .u64 d[j]!)).setCell ⟨b, off + j, none⟩ (.int .u64 d[i]!)).drew b off (swp d i j) c X := by
  have hne : c ≠ b := by have := h.srt.old; have := h.new; omega
  refine ⟨h.srt.swapd i j hi hj, h.new, h.fits, ?_, ?_⟩
  · show ((w.setCell ⟨b, off + i, none⟩ _).setCell ⟨b, off + j, none⟩ _).cell? _ = _
    rw [World.cell?_setCell_other _ _ _ _ (by intro e; simp only [Addr.mk.injEq] at e; exact hne e.1.symm), World.cell?_setCell_other _ _ _ _ (by intro e; simp only [Addr.mk.injEq] at e; exact hne e.1.symm)]
    exact h.cell
  · show ((w.setCell ⟨b, off + i, none⟩ _).setCell ⟨b, off + j, none⟩ _).frozen? _ = _
    rw [World.frozen?_setCell, World.frozen?_setCell]; exact h.free
set_option maxHeartbeats 16000000 in
set_option maxRecDepth 100000 in
theorem break_any {w0 w : World} {b off : Nat} {d : Array Int} (cap x l : Nat) (h : Srt w0 w b off d) (hl : 12 < l) (hy : x + l ≤ d.size) (hsz : d.size < 2305843009213693952) :
    Calls Try.prog 69 #[.slice (some ⟨b, off, none⟩) d.size cap, .int .i64 x, .int .i64 ((x : Int) + (l : Int))] w fun e w' => e = .returned (.tuple #[]) ∧ ∃ d', PermIn x (x + l) d d' ∧ Srt w0 w' b off d' := by
  have h0 : Rnd w0 (w.alloc (.cells #[.int .u64 (l : Int)] 128)) b off d w.heap.size l := ⟨h.alloc _, h.tread.size, by omega, by simp, by simp⟩
  have H0 := Lib.hid h0
  have hp := pow_any l (by omega) (w.alloc (.cells #[.int .u64 (l : Int)] 128))
  have hM2 := two_pow_bitsLen_le (n := l) (by omega)
  obtain ⟨M, hM⟩ : ∃ M, M = 1 <<< bitsLen l := ⟨_, rfl⟩
  rw [← hM] at hp
  have hM0 : 0 < M := by rw [hM, Nat.one_shiftLeft]; exact Nat.two_pow_pos _
  have hM3 : M ≤ 2 * l := by rw [hM, Nat.one_shiftLeft]; exact hM2
  have HP := Lib.hid hp
  clear h0 hp hM2 hM h
  go_enter Try.func69, Try.ntmps69
  go_wp2_with fail
  have e : (x : Int) + (l : Int) - (x : Int) = (l : Int) := by omega
  rw [e]
  clear e
  refine HP.out.mono ?_
  rintro e w1 ⟨rfl, rfl⟩
  clear HP
  go_wp2_with fail
  generalize w.alloc (.cells #[.int .u64 (l : Int)] 128) = wq at H0 ⊢
  obtain ⟨c, hc⟩ : ∃ c, c = w.heap.size := ⟨_, rfl⟩
  rw [← hc] at H0 ⊢
  clear hc
  obtain ⟨q, hq⟩ : ∃ q, q = x + l / 4 * 2 - 1 := ⟨_, rfl⟩
  have hq1 : x + 1 ≤ q := by omega
  have hq2 : q + 3 ≤ x + l := by omega
  have eq1 : (x : Int) + (l : Int) / 4 * 2 - 1 = (q : Int) := by omega
  have eq2 : (x : Int) + (l : Int) / 4 * 2 + 1 = (q : Int) + 2 := by omega
  have EQ2 := Lib.hid eq2
  rw [eq1]
  clear eq1 eq2 hq
  go_loopg [9, 10] 3 (fun g1 vi _ wr => ∃ (i X : Nat) (dk : Array Int), vi = .int .i64 (i : Int) ∧ q ≤ i ∧ i ≤ q + 3 ∧ q + 3 - i ≤ g1 ∧ Hid (Rnd w0 wr b off dk c X) ∧ Hid (PermIn x (x + l) d dk))
  case atStart => exact ⟨q, l, d, rfl, by omega, by omega, by omega, H0, Lib.hid (permIn_refl _ _ _)⟩
  case round =>
    clear H0
    obtain ⟨i, X, dk, rfl, hi, hi2, hg, HK, HP⟩ := hrel
    have hsk := HP.out.1
    by_cases hi3 : i < q + 3
    · have hr := xor_any c X HK.out.fits wr HK.out.cell HK.out.free
      have hk2 := HK.out.next.drewN 3
      obtain ⟨r, hrr⟩ : ∃ r, r = xorNextN X := ⟨_, rfl⟩
      rw [← hrr] at hr hk2
      generalize (wr.setCell ⟨c, 0, none⟩ (.int .u64 (r : Nat))).drewN 3 = wn at hr hk2
      have HR := Lib.hid hr
      have hb := bits_and_u64_nat r (M - 1) hk2.fits (by omega)
      have hb2 : ((M - 1 : Nat) : Int) = (M : Int) - 1 := by omega
      rw [hb2] at hb
      have ho : r &&& (M - 1) ≤ M - 1 := Nat.and_le_right
      obtain ⟨o, hoo⟩ : ∃ o, o = r &&& (M - 1) := ⟨_, rfl⟩
      rw [← hoo] at hb ho
      have HK2 := Lib.hid hk2
      clear hr hk2 hrr hoo HK hb2
      have hgd : (i : Int) ≤ (x : Int) + (l : Int) / 4 * 2 + 1 := by have := EQ2.out; omega
      go_wp2_with fail
      refine HR.out.mono ?_
      rintro e w1 ⟨rfl, rfl⟩
      clear HR
      have hfam := HK2.out.srt.fam
      obtain ⟨G, hG, hcw, hfw⟩ := hfam
      rw [hsk] at hcw hfw
      have HG := Lib.hid hG
      clear hG
      by_cases hol : o < l
      · obtain ⟨u, hu⟩ := HK2.out.srt.again i (x + o) (by omega) (by omega) (.int .u64 (G (x + o)))
        have hsw := HK2.out.swapd i (x + o) (by omega) (by omega)
        rw [← HG.out, ← HG.out] at hsw
        have HSW := Lib.hid hsw
        clear hsw
        go_wp2_with fail
        go_region
        all_goals go_wp2
        go_roundg (q + 3 - (i + 1))
        case measure => omega
        case rel => exact ⟨i + 1, r, _, by go_num, by omega, by omega, Nat.le_refl _, HSW, Lib.hid (permIn_trans _ _ _ _ _ HP.out (swp_permIn _ _ _ i (x + o) (by omega) (by omega) (by omega) (by omega) (by omega)))⟩
      · obtain ⟨p, rfl⟩ : ∃ p, o = l + p := ⟨o - l, by omega⟩
        obtain ⟨u, hu⟩ := HK2.out.srt.again i (x + p) (by omega) (by omega) (.int .u64 (G (x + p)))
        have hsw := HK2.out.swapd i (x + p) (by omega) (by omega)
        rw [← HG.out, ← HG.out] at hsw
        have HSW := Lib.hid hsw
        clear hsw
        go_wp2_with fail
        have ep : (l : Int) + (p : Int) - (l : Int) = (p : Int) := by omega
        rw [ep]
        clear ep
        go_region
        all_goals go_wp2
        go_roundg (q + 3 - (i + 1))
        case measure => omega
        case rel => exact ⟨i + 1, r, _, by go_num, by omega, by omega, Nat.le_refl _, HSW, Lib.hid (permIn_trans _ _ _ _ _ HP.out (swp_permIn _ _ _ i (x + p) (by omega) (by omega) (by omega) (by omega) (by omega)))⟩
    · have hgd : decide ((i : Int) ≤ (x : Int) + (l : Int) / 4 * 2 + 1) = false := decide_eq_false (by have := EQ2.out; omega)
      go_wp2
      go_end0
      exact ⟨rfl, dk, HP.out, HK.out.srt⟩
end Go.Proofs.Ytaoneiicoaiehaa.Ln11
