/- The contracts of run's place, keyOf, within. -/
import Derived.Test.YtmnaamjoikfpbaaOn10
namespace Go.Proofs.Ytmnaamjoikfpbaa.Pc10
open Go Go.RowKit Go.Proofs.Ytmnaamjoikfpbaa.Pm9 Go.Proofs.Ytmnaamjoikfpbaa.Wd9 Go.Proofs.Ytmnaamjoikfpbaa.Fd10 Go.Proofs.Ytmnaamjoikfpbaa.So10 Go.Proofs.Ytmnaamjoikfpbaa.On10
theorem keyof_any (w : World) (k f : ByteArray) (o : Int) :
    Calls Try.prog 35 #[.agg #[.string k, .int .i64 o, .string f]] w fun e w' => e = .returned (.string k) ∧ Below w.heap.size w w' := by
  have HB : Hid (Below w.heap.size w (w.alloc (.cells #[.string k, .int .i64 o, .string f] 84))) := Lib.hid ((Below.refl _ w).alloc (Nat.le_refl _) _)
  go_enter Try.func35, Try.ntmps35
  go_wp2
  go_ret
  exact ⟨rfl, HB.out⟩
theorem ReadsT.at_ {w : World} {A : Option Addr} {l : List Spot} (h : ReadsT w A l) {k : Nat} (hk : k < l.length) : ∃ b o, A = some ⟨b, o, none⟩ ∧ b < w.heap.size ∧ w.cell? ⟨b, o + k * 3, none⟩ = some (.string l[k].k) ∧ w.cell? ⟨b, o + k * 3 + 1, none⟩ = some (.int .i64 (l[k].o : Int)) ∧ w.cell? ⟨b, o + k * 3 + 2, none⟩ = some (.string l[k].f) := by
  obtain ⟨b, o, e, hb, hc⟩ := h (fun h0 => by rw [h0] at hk; simp at hk)
  exact ⟨b, o, e, hb, hc k hk⟩
/-- Pair k's spot. -/
theorem spot_at {w : World} {A : Option Addr} {L : List Pr} (h : ReadsT w A (spots 20 L)) {k : Nat} (hk : k < L.length) :
    ∃ b o, A = some ⟨b, o, none⟩ ∧ b < w.heap.size ∧ w.cell? ⟨b, o + k * 3, none⟩ = some (.string L[k].k) ∧ w.cell? ⟨b, o + k * 3 + 1, none⟩ = some (.int .i64 (plc L k : Nat)) ∧ w.cell? ⟨b, o + k * 3 + 2, none⟩ = some (.string (Fl7.bs (Fl7.fr (tx L[k])))) := by
  have hk2 : k < (spots 20 L).length := by rw [spots_len]; exact hk
  have h1 := ReadsT.at_ h hk2
  rw [spots_get hk hk2] at h1
  exact h1
theorem reads_below {w w' : World} {A : Option Addr} {l : List Spot} (h : ReadsT w A l) (hb : Below w.heap.size w w') : ReadsT w' A l := h.keep fun b _ hl => hb.block b hl
set_option maxRecDepth 20000 in
set_option maxHeartbeats 2000000 in
theorem place_any (w : World) (A : Option Addr) (c : Nat) (L : List Pr) (hl : ReadsT w A (spots 20 L)) (hlen : L.length ≤ 1000000) (hs : Sorted L) (key : ByteArray) :
    Calls Try.prog 34 #[.slice A L.length c, .string key, .func (.func 35) #[] #[]] w fun e w' => e = .returned (.int .i64 (posn key L : Nat)) ∧ Below w.heap.size w w' := by
  obtain ⟨N, hN⟩ : ∃ N, N = L.length := ⟨_, rfl⟩
  rw [← hN] at hlen ⊢
  have H := Lib.hid hl
  have HN := Lib.hid hN
  have HS := Lib.hid hs
  have hP := posn_le key L
  rw [← hN] at hP
  obtain ⟨P, hPe⟩ : ∃ P, P = posn key L := ⟨_, rfl⟩
  rw [← hPe] at hP ⊢
  have HP := Lib.hid hPe
  clear hl hs hN hPe
  go_enter Try.func34, Try.ntmps34
  go_wp2
  go_loopw [7, 8, 9, 12, 13, 14, 15, 16, 17, 18, 19, 20, 21, 22, 23, 24, 25, 26, 27, 28, 29, 30, 31] (fun a b _ _ _ _ _ _ _ _ _ _ _ _ _ _ _ _ _ _ _ _ _ wr => ∃ lo hi : Nat, a = .int .i64 lo ∧ b = .int .i64 hi ∧ lo ≤ P ∧ P ≤ hi ∧ hi ≤ N ∧ Hid (Below w.heap.size w wr)) (fun a b _ _ _ _ _ _ _ _ _ _ _ _ _ _ _ _ _ _ _ _ _ _ => (intOf b).toNat - (intOf a).toNat)
  case atStart => exact ⟨0, N, rfl, rfl, by omega, hP, Nat.le_refl _, Lib.hid (Below.refl _ _)⟩
  case round =>
    obtain ⟨lo, hi, rfl, rfl, hlo, hhi, hN2, hB⟩ := hrel
    by_cases hlt : lo < hi
    · obtain ⟨m, hm⟩ : ∃ m, m = lo + (hi - lo) / 2 := ⟨_, rfl⟩
      have hm1 : lo ≤ m := by omega
      have hm2 : m < hi := by omega
      have hil : m < L.length := by rw [← HN.out]; omega
      obtain ⟨b, o, rfl, hb0, p0, p1, p2⟩ := spot_at (reads_below H.out hB.out) hil
      have hps := posn_lt hil HS.out (k := key)
      rw [← HP.out] at hps
      obtain ⟨x, hx⟩ : ∃ x, x = L[m].k := ⟨_, rfl⟩
      obtain ⟨f, hf⟩ : ∃ f, f = Fl7.bs (Fl7.fr (tx L[m])) := ⟨_, rfl⟩
      obtain ⟨O, hO⟩ : ∃ O : Int, O = (plc L m : Nat) := ⟨_, rfl⟩
      rw [← hx] at p0 hps
      rw [← hO] at p1
      rw [← hf] at p2
      have hlo2 : (lo : Int) < (hi : Int) := by omega
      have hmI : (lo : Int) + ((hi : Int) - (lo : Int)) / 2 = (m : Int) := by omega
      have hmT : (lo : Int) + ((hi : Int) - (lo : Int)).tdiv 2 = (m : Int) := by rw [Int.tdiv_eq_ediv_of_nonneg (by omega)]; exact hmI
      have hls : Op.bytesLess x.toList key.toList = decide (m < P) := hps
      have HB := Lib.hid hB.out
      clear hm hx hf hO hil hps hb0 hB
      go_wp2_with fail
      refine (keyof_any wr x f O).mono ?_
      rintro e w2 ⟨rfl, hb2⟩
      have HB2 := Lib.hid (HB.out.trans (hb2.mono HB.out.size))
      clear hb2 hmI hmT
      by_cases hmp : m < P
      · rw [decide_eq_true hmp] at hls
        go_wp2
        exact ⟨⟨m + 1, hi, by go_num, rfl, by omega, hhi, hN2, HB2⟩, by simp [intOf]; omega⟩
      · rw [decide_eq_false hmp] at hls
        go_wp2
        exact ⟨⟨lo, m, rfl, rfl, hlo, by omega, by omega, HB2⟩, by simp [intOf]; omega⟩
    · obtain rfl : lo = P := by omega
      have HB := Lib.hid hB.out
      clear hB
      go_wp2
      go_ret
      exact ⟨rfl, HB.out⟩
/-- What within answers: the piece of the row from start on. -/
def Piece (g : Nat) (a b : ByteArray) (L : List Pr) (e : Ending) : Prop :=
  ∃ A' c', e = .returned (.slice A' (Fd10.stop b L - Fd10.start a b L) c') ∧ (Fd10.stop b L - Fd10.start a b L ≠ 0 → A' = some ⟨g, Fd10.start a b L * 3, none⟩) ∧ Fd10.stop b L - Fd10.start a b L ≤ c' ∧ c' ≤ maxLen
set_option maxRecDepth 20000 in
set_option maxHeartbeats 2000000 in
theorem within_any {w : World} {B q p : Nat} {nm : ByteArray} {L : List Pr} {g c : Nat} (h : RunAt w B q p nm L (some ⟨g, 0, none⟩) c) (hlen : L.length ≤ 1000000) (hs : Sorted L) (a b : ByteArray) :
    Calls Try.prog 37 #[.pointer (some ⟨q, 0, none⟩), .string a, .string b] w fun e w' => Piece g a b L e ∧ Below w.heap.size w w' := by
  obtain ⟨N, hN⟩ : ∃ N, N = L.length := ⟨_, rfl⟩
  have hpl : ∀ key, Calls Try.prog 34 #[.slice (some ⟨g, 0, none⟩) N c, .string key, .func (.func 35) #[] #[]] w fun e w' => e = .returned (.int .i64 (posn key L : Nat)) ∧ Below w.heap.size w w' := fun key => by rw [hN]; exact place_any w _ c L h.row hlen hs key
  have HC : Hid (∀ W, Below w.heap.size w W → W.cell? ⟨q, 3, none⟩ = some (.slice (some ⟨g, 0, none⟩) N c) ∧ ∀ key, Calls Try.prog 34 #[.slice (some ⟨g, 0, none⟩) N c, .string key, .func (.func 35) #[] #[]] W fun e w' => e = .returned (.int .i64 (posn key L : Nat)) ∧ Below W.heap.size W w') :=
    Lib.hid fun W hW => by
      have h2 := h.below hW
      rw [hN]
      exact ⟨cell_of h2.blk 3, fun key => place_any W _ c L h2.row hlen hs key⟩
  obtain ⟨hc1, hc2⟩ := h.cap
  rw [← hN] at hc1 hlen
  have hp1 := posn_le a L
  have hst := Fd10.stop_le b L
  rw [← hN] at hp1 hst
  have hE : Fd10.stop b L = if b.size = 0 then N else posn b L := by unfold Fd10.stop; rw [hN]
  have hM : Fd10.start a b L = min (posn a L) (Fd10.stop b L) := rfl
  unfold Piece
  obtain ⟨E, hEe⟩ : ∃ E, E = Fd10.stop b L := ⟨_, rfl⟩
  obtain ⟨M, hMe⟩ : ∃ M, M = Fd10.start a b L := ⟨_, rfl⟩
  obtain ⟨P, hPe⟩ : ∃ P, P = posn a L := ⟨_, rfl⟩
  rw [← hEe] at hE hM hst ⊢
  rw [← hMe] at hM ⊢
  rw [← hPe] at hM hp1
  have HP := Lib.hid hPe
  have c3 := (HC.out w (Below.refl _ _)).1
  have hmin : min (P : Int) (E : Int) = (M : Int) := by omega
  have m1 : (0 : Int) ≤ (M : Int) := by omega
  have m2 : (M : Int) ≤ (E : Int) := by omega
  have m3 : (E : Int) ≤ (N : Int) := by omega
  have m4 : (E : Int) ≤ (c : Int) := by omega
  have hend : ∀ W, Hid (Below w.heap.size w W) → Hid (∀ V, Below W.heap.size W V → Calls Try.prog 34 #[.slice (some ⟨g, 0, none⟩) N c, .string a, .func (.func 35) #[] #[]] V fun e w' => e = .returned (.int .i64 (P : Int)) ∧ Below V.heap.size V w') := fun W hW => Lib.hid fun V hV => by
    rw [HP.out]; exact (HC.out V (hW.out.trans (hV.mono hW.out.size))).2 a
  have HE := Lib.hid hend
  have HX0 : Hid (Below w.heap.size w w) := Lib.hid (Below.refl _ _)
  clear h hs hpl hEe hMe hPe hend hN hM
  by_cases hb0 : b.size = 0
  · rw [if_pos hb0] at hE
    obtain rfl := hE
    have he := Mm9.empty_of hb0
    have HK := HE.out w HX0
    have HXd : Hid (Below w.heap.size w w.drew) := Lib.hid (Below.refl _ _).drew
    clear hb0
    by_cases hcm : c - M = 0
    all_goals
      go_enter Try.func37, Try.ntmps37
      go_wp2
      go_region_held3 (fun V => V.cell? ⟨q, 3, none⟩ = some (.slice (some ⟨g, 0, none⟩) E c)) (first | exact (HC.out _ (Hid.out (by assumption))).1 | go_keep) (first
        | ((with_reducible refine (HK.out _ (Hid.out (by assumption))).mono ?_); rintro e V1 ⟨rfl, hb1⟩; have HX1 := By10.chain (by assumption) hb1; clear hb1))
      go_wp2
      go_ret
      exact ⟨⟨_, _, rfl, fun h => by first | rfl | (exfalso; omega), by omega, by omega⟩, HX1.out⟩
  · rw [if_neg hb0] at hE
    have he := Mm9.not_empty_of hb0
    have HQ := Lib.hid ((HC.out w (Below.refl _ _)).2 b)
    rw [← hE] at HQ
    clear hb0 hE
    by_cases hcm : c - M = 0
    all_goals
      go_enter Try.func37, Try.ntmps37
      go_wp2_with fail
      refine HQ.out.mono ?_
      rintro e w1 ⟨rfl, hb1⟩
      have HX1 : Hid (Below w.heap.size w w1) := Lib.hid hb1
      have HK := HE.out w1 HX1
      have d3 := (HC.out w1 hb1).1
      have HXd : Hid (Below w.heap.size w w1.drew) := Lib.hid hb1.drew
      have HXe : Hid (Below w1.heap.size w1 w1.drew) := Lib.hid (Below.refl _ _).drew
      have HD1 : Hid (∀ V, Below w1.heap.size w1 V → V.cell? ⟨q, 3, none⟩ = some (.slice (some ⟨g, 0, none⟩) N c)) := Lib.hid fun V hV => (HC.out V (HX1.out.trans (hV.mono HX1.out.size))).1
      clear hb1 HX0
      go_wp2
      go_region_held3 (fun V => V.cell? ⟨q, 3, none⟩ = some (.slice (some ⟨g, 0, none⟩) N c)) (first | exact HD1.out _ (Hid.out (by assumption)) | go_keep) (first
        | ((with_reducible refine (HK.out _ (Hid.out (by assumption))).mono ?_); rintro e V1 ⟨rfl, hb1⟩; have HX2 := By10.chain (by assumption) hb1; clear hb1))
      go_wp2
      go_ret
      exact ⟨⟨_, _, rfl, fun h => by first | rfl | (exfalso; omega), by omega, by omega⟩, HX1.out.trans (HX2.out.mono HX1.out.size)⟩
end Go.Proofs.Ytmnaamjoikfpbaa.Pc10
