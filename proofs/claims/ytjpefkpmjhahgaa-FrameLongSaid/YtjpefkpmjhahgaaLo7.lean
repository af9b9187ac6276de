/- FrameLong's ways: a text next to the bound. -/
import Derived.Test.YtjpefkpmjhahgaaTo7
namespace Go.Proofs.Ytjpefkpmjhahgaa.Lo7
open Go Go.RowKit Go.Proofs Go.Proofs.Ytjpefkpmjhahgaa.Wm Go.Proofs.Ytjpefkpmjhahgaa.Fl7 Go.Proofs.Ytjpefkpmjhahgaa.Rs7 Go.Proofs.Ytjpefkpmjhahgaa.Fp7 Go.Proofs.Ytjpefkpmjhahgaa.Fs7 Go.Proofs.Ytjpefkpmjhahgaa.Lw7 Go.Proofs.Ytjpefkpmjhahgaa.Al7 Go.Proofs.Ytjpefkpmjhahgaa.To7
/-- A text of N zero bytes. -/
def zeros (N : Nat) : List UInt8 := List.replicate N 0
theorem zeros_len (N : Nat) : (zeros N).length = N := by simp [zeros]
theorem zeros_run (N : Nat) (w wr : World) (hrow : wr.rowIs w.heap.size 5 N (fun _ => .int .u8 0)) :
    (convert 38 9 (.slice (some ⟨w.heap.size, 0, none⟩) N N)).run Try.prog wr = .ok (.string (bs (zeros N))) wr :=
  WPut.run_string_row (P := Try.prog) wr 38 9 5 w.heap.size N N 5 (zeros N) _ WPut.undL WPut.undE WPut.undS (zeros_len N) hrow (fun j hj => by
    have : (zeros N)[j] = 0 := by simp [zeros]
    rw [this]; rfl)
set_option maxRecDepth 40000 in
set_option maxHeartbeats 4000000 in
/-- A text that is not too long. -/
theorem walk_ok (o R : Int) (N : Nat) (w : World) (hR : o.tmod 2 = R) (hN : 4194304 + R = (N : Int)) (hN2 : N ≤ 4194304) (hN3 : 4194303 ≤ N) (hw : IntKind.i8.wrap R = R) (hw2 : wrap64 R = R) (hw3 : IntKind.i64.wrap R = R) :
    Calls Try.prog 6 #[.int .i8 o] w fun e w' => e = .returned (.bool true) ∧ Below w.heap.size w w' := by
  have HA := q_alive
  obtain ⟨s, hs⟩ : ∃ s, s = bs (zeros N) := ⟨_, rfl⟩
  have hss : s.size = N := by rw [hs, bs_size, zeros_len]
  have hmk := fun W => run_make_row' (P := Try.prog) 38 5 (.int .u8 0) 1 WPut.undL WPut.infoE rfl .i64 .i64 N (by omega) (by omega) W
  have hcv := zeros_run N w _ (World.rowIs_made w (.int .u8 0) N 5)
  rw [← hs] at hcv
  have hsl : s.data.toList = zeros N := by rw [hs]; rfl
  have hp := fun W => Fp7.put_ok s W (by omega)
  obtain ⟨b, hb⟩ : ∃ b, b = bs (fr s.data.toList) := ⟨_, rfl⟩
  rw [← hb] at hp
  have HP := Lib.hid hp
  have hbl : b.data.toList = frs [zeros N] := by rw [hb, hsl, frs_one]; rfl
  have hbs : b.size = 12 + N := by rw [hb, bs_size, fr_len, hsl, zeros_len]
  have hsc : scan b.data.toList = ([zeros N], 12 + N, 0) := by
    rw [hbl, scan_all _ (by intro x hx; have : x = zeros N := by simpa using hx
                            rw [this, zeros_len]; omega)]
    simp only [size, zeros_len]; rfl
  have HS := sc_of b _ _ _ hsc (by omega)
  have e1 : ([zeros N].map bs) = [s] := by rw [hs]; rfl
  rw [e1] at HS
  have e2 : [zeros N].length = 1 := rfl
  rw [e2] at HS
  have hz1 : decide ((4194304 : Int) < (N : Int)) = false := decide_eq_false (by omega)
  have hz2 : ((b.size : Nat) : Int) = (N : Int) + 12 := by omega
  clear hs hp hb hbl hsc e1 e2 hsl
  go_enter Try.func6, Try.ntmps6
  go_wp2_with fail
  refine (HP.out _).mono ?_
  rintro e w1 ⟨rfl, hb1⟩
  have HB1 := Lib.hid (((Below.refl w.heap.size w).alloc (Nat.le_refl _) (.cells (madeCells #[.int .u8 0] N) 5)).trans (hb1.mono (by simp)))
  clear hb1 HP hmk hcv
  go_wp2_with fail
  refine (HS.out w1).mono ?_
  rintro e w2 ⟨A, c, rfl, hr, hb2⟩
  have HB2 := Lib.hid (HB1.out.trans (hb2.mono HB1.out.size))
  obtain ⟨b0, o0, rfl, p0⟩ := hr.at_ (k := 0) (by simp)
  have p1 : w2.cell? ⟨b0, o0, none⟩ = some (.string s) := p0
  have hxx : (s.toList == s.toList) = true := beq_self_eq_true _
  clear hb2 hr HB1 HS p0
  go_wp2_with fail
  refine (HA.out _).mono ?_
  rintro e w3 ⟨rfl, hb3⟩
  have HB3 := Lib.hid (HB2.out.trans (hb3.mono HB2.out.size))
  clear hb3 HB2
  go_wp2
  go_ret
  exact ⟨rfl, HB3.out⟩
set_option maxRecDepth 40000 in
set_option maxHeartbeats 4000000 in
/-- A text that is too long. -/
theorem walk_long (o R : Int) (N : Nat) (w : World) (hR : o.tmod 2 = R) (hN : 4194304 + R = (N : Int)) (hN2 : N = 4194305) (hw : IntKind.i8.wrap R = R) (hw2 : wrap64 R = R) (hw3 : IntKind.i64.wrap R = R) :
    Calls Try.prog 6 #[.int .i8 o] w fun e w' => e = .returned (.bool true) ∧ Below w.heap.size w w' := by
  have HA := q_alive
  obtain ⟨s, hs⟩ : ∃ s, s = bs (zeros N) := ⟨_, rfl⟩
  have hss : s.size = N := by rw [hs, bs_size, zeros_len]
  have hmk := fun W => run_make_row' (P := Try.prog) 38 5 (.int .u8 0) 1 WPut.undL WPut.infoE rfl .i64 .i64 N (by omega) (by omega) W
  have hcv := zeros_run N w _ (World.rowIs_made w (.int .u8 0) N 5)
  rw [← hs] at hcv
  have hp := fun W => Fp7.put_long s W (by omega) (by omega)
  have HP := Lib.hid hp
  have hl := fun (W : World) => Fp7.all_long (W.alloc (.cells #[.string ⟨#[97]⟩, .string s] 9)) (some ⟨W.heap.size, 0, none⟩) 2 [⟨#[97]⟩, s] (rds_two W _ _) (by simp) (by
    have h1 : s.data.toList.length = s.size := by simp
    have h2 : (ByteArray.mk #[97]).data.toList.length = 1 := rfl
    show 12 + (ByteArray.mk #[97]).data.toList.length + (12 + s.data.toList.length + 0) ≤ _
    rw [h1, h2]
    omega) 1 (by simp) (by show 4194304 < s.size; omega) (fun k hk h1 => by
    have h0 : k = 0 := by omega
    subst h0; show 1 ≤ 4194304; omega)
  have HL := Lib.hid hl
  have hz1 : decide ((4194304 : Int) < (N : Int)) = true := decide_eq_true (by omega)
  have hN3 : N ≤ 4194305 := by omega
  have hN4 : 4194305 ≤ N := by omega
  clear hs hp hl hN2
  go_enter Try.func6, Try.ntmps6
  go_wp2_with fail
  refine (HP.out _).mono ?_
  rintro e w1 ⟨rfl, hb1⟩
  have HB1 := Lib.hid (((Below.refl w.heap.size w).alloc (Nat.le_refl _) (.cells (madeCells #[.int .u8 0] N) 5)).trans (hb1.mono (by simp)))
  clear hb1 HP hmk hcv
  go_wp2_with fail
  refine (HL.out w1).mono ?_
  rintro e w2 ⟨rfl, hb2⟩
  have hb2' : Below w1.heap.size w1 w2 := by rw [hb2]; exact (Below.refl _ _).alloc (Nat.le_refl _) _
  have HB2 := Lib.hid (HB1.out.trans (hb2'.mono HB1.out.size))
  clear hb2 hb2' HB1 HL
  go_wp2_with fail
  refine (HA.out _).mono ?_
  rintro e w3 ⟨rfl, hb3⟩
  have HB3 := Lib.hid (HB2.out.trans (hb3.mono HB2.out.size))
  clear hb3 HB2
  go_wp2
  go_ret
  exact ⟨rfl, HB3.out⟩
theorem walk (w : World) (o : Int) (_ho : -128 ≤ o ∧ o ≤ 127) :
    Calls Try.prog 6 #[.int .i8 o] w fun e w' => e = .returned (.bool true) ∧ Below w.heap.size w w' := by
  have hr : o.tmod 2 = -1 ∨ o.tmod 2 = 0 ∨ o.tmod 2 = 1 := by
    have h1 := Int.tmod_lt_of_pos o (show (0 : Int) < 2 by omega)
    rcases Int.le_total 0 o with h | h
    · have h2 := Int.tmod_nonneg 2 h
      omega
    · have h2 : (-o).tmod 2 < 2 := Int.tmod_lt_of_pos _ (by omega)
      rw [Int.neg_tmod] at h2
      omega
  rcases hr with h | h | h
  · exact walk_ok o (-1) 4194303 w h rfl (by omega) (by omega) (by decide) (by unfold wrap64; omega) (by decide)
  · exact walk_ok o 0 4194304 w h rfl (by omega) (by omega) (by decide) (by unfold wrap64; omega) (by decide)
  · exact walk_long o 1 4194305 w h rfl rfl (by decide) (by unfold wrap64; omega) (by decide)
end Go.Proofs.Ytjpefkpmjhahgaa.Lo7
