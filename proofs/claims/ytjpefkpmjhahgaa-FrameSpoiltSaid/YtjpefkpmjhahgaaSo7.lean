/- FrameSpoilt's ways: nothing to turn; and a byte of any texts' frames as another one. -/
import Derived.Test.YtjpefkpmjhahgaaTo7
namespace Go.Proofs.Ytjpefkpmjhahgaa.So7
open Go Go.RowKit Go.Proofs Go.Proofs.Ytjpefkpmjhahgaa.Wm Go.Proofs.Ytjpefkpmjhahgaa.Wb Go.Proofs.Ytjpefkpmjhahgaa.Fl7 Go.Proofs.Ytjpefkpmjhahgaa.Rs7 Go.Proofs.Ytjpefkpmjhahgaa.Fp7 Go.Proofs.Ytjpefkpmjhahgaa.Fs7 Go.Proofs.Ytjpefkpmjhahgaa.Lw7 Go.Proofs.Ytjpefkpmjhahgaa.Al7 Go.Proofs.Ytjpefkpmjhahgaa.To7
/-- Block b begins with these bytes, none of them frozen. -/
def CellsAre (w : World) (b : Nat) (M : List UInt8) : Prop := ∀ k (h : k < M.length), w.cell? ⟨b, k, none⟩ = some (.int .u8 ((M[k]).toNat : Int)) ∧ w.frozen? ⟨b, k, none⟩ = false
theorem cells_start (w : World) (s : ByteArray) (cap : Nat) (t : TypeId) :
    CellsAre (w.drew.alloc (.cells (bytesRow s cap) t ((bytesRow s cap).size, (bytesRow s cap).size + 1))) w.heap.size s.data.toList := by
  intro k h
  have hk : k < s.data.size := by simpa using h
  have hsz : k < (bytesRow s cap).size := by
    unfold bytesRow
    simp
    have : s.data.size = s.size := rfl
    omega
  constructor
  · have e := World.cell?_alloc_mark w.drew (bytesRow s cap) t ((bytesRow s cap).size, (bytesRow s cap).size + 1) k
    refine Eq.trans e ?_
    rw [bytesRow_at s cap k hk]
    rfl
  · have e := World.frozen?_alloc_mark w.drew (bytesRow s cap) t (bytesRow s cap).size ((bytesRow s cap).size + 1) k
    refine Eq.trans e ?_
    have : decide ((bytesRow s cap).size ≤ k) = false := by simp; omega
    rw [this]; rfl
theorem cells_set {w : World} {b : Nat} {M : List UInt8} (h : CellsAre w b M) (q : Nat) (hq : q < M.length) (c : UInt8) :
    CellsAre (w.setCell ⟨b, q, none⟩ (.int .u8 (c.toNat : Int))) b (M.set q c) := by
  intro k hk
  have hk' : k < M.length := by simpa using hk
  refine ⟨?_, by rw [World.frozen?_setCell]; exact (h k hk').2⟩
  by_cases e : q = k
  · subst e
    rw [World.cell?_setCell_same _ _ _ (h q hq).1]
    simp
  · rw [World.cell?_setCell_other _ _ _ _ (by intro x; injection x with _ x2; exact e x2), (h k hk').1]
    simp [e]
theorem u8_other (b : UInt8) (Z : Nat) (hZ : Z < 256) (h0 : Z ≠ 0) : bits .xor .u8 (b.toNat : Int) (Z : Int) = ((b ^^^ UInt8.ofNat Z).toNat : Int) ∧ b ^^^ UInt8.ofNat Z ≠ b := by
  have hb := b.toNat_lt
  have e1 : (b ^^^ UInt8.ofNat Z).toNat = b.toNat ^^^ Z := by
    rw [UInt8.toNat_xor, UInt8.toNat_ofNat', Nat.mod_eq_of_lt hZ]
  refine ⟨by rw [e1]; exact u8_xor_nat _ _ (by omega) hZ, fun e => h0 ?_⟩
  have e2 : b.toNat ^^^ Z = b.toNat := by rw [← e1, e]
  have e3 := congrArg (fun x => b.toNat ^^^ x) e2
  simp only [← Nat.xor_assoc, Nat.xor_self, Nat.zero_xor] at e3
  exact e3
/-- What has nothing to turn. -/
theorem walk_idle (w : World) (A : Option Addr) (c : Nat) (L : List ByteArray) (y : Int) (Z : Nat) (h : Came w A c L) (hI : (200 < L.length ∨ 32768 < lens L) ∨ L.length = 0 ∨ Z = 0) :
    Calls Try.prog 5 #[.slice A L.length c, .int .u16 y, .int .u8 (Z : Int)] w fun e w' => e = .returned (.bool true) ∧ Below w.heap.size w w' := by
  have HA := q_alive
  by_cases hL : 200 < L.length ∨ 32768 < lens L
  · have HL := q_large h true (decide_eq_true hL).symm
    clear h hL hI
    go_enter Try.func5, Try.ntmps5
    go_wp2_with fail
    refine HL.out.mono ?_
    rintro e w1 ⟨rfl, rfl⟩
    go_wp2_with fail
    refine (HA.out _).mono ?_
    rintro e w2 ⟨rfl, hb⟩
    have HB := Lib.hid hb
    clear hb
    go_wp2
    go_ret
    exact ⟨rfl, HB.out⟩
  · have HL := q_large h false (decide_eq_false hL).symm
    have hlen := h.len
    by_cases h0 : L.length = 0
    · rw [h0] at HL ⊢
      clear h hL hI hlen h0
      go_enter Try.func5, Try.ntmps5
      go_wp2_with fail
      refine HL.out.mono ?_
      rintro e w1 ⟨rfl, rfl⟩
      go_wp2_with fail
      refine (HA.out _).mono ?_
      rintro e w2 ⟨rfl, hb⟩
      have HB := Lib.hid hb
      clear hb
      go_wp2
      go_ret
      exact ⟨rfl, HB.out⟩
    · have hz : Z = 0 := by omega
      subst hz
      have hn : (((L.length : Nat) : Int) == 0) = false := by rw [beq_eq_false_iff_ne]; omega
      clear h hL hI
      go_enter Try.func5, Try.ntmps5
      go_wp2_with fail
      refine HL.out.mono ?_
      rintro e w1 ⟨rfl, rfl⟩
      go_wp2_with fail
      refine (HA.out _).mono ?_
      rintro e w2 ⟨rfl, hb⟩
      have HB := Lib.hid hb
      clear hb
      go_wp2
      go_ret
      exact ⟨rfl, HB.out⟩
set_option maxRecDepth 40000 in
set_option maxHeartbeats 4000000 in
theorem walk_few (w : World) (A : Option Addr) (c : Nat) (L : List ByteArray) (x : Int) (Z : Nat) (h : Came w A c L) (hf : Few L) (h0 : L.length ≠ 0) (hx : 0 ≤ x) (hx2 : x < 65536) (hZ : Z < 256) (hZ0 : Z ≠ 0) :
    Calls Try.prog 5 #[.slice A L.length c, .int .u16 x, .int .u8 (Z : Int)] w fun e w' => e = .returned (.bool true) ∧ Below w.heap.size w w' := by
  have HL := q_large h false (decide_eq_false (by have := hf.len; have := hf.lens; omega)).symm
  have HA := q_alive
  obtain ⟨F, hF⟩ : ∃ F, F = frs (ll L) := ⟨_, rfl⟩
  obtain ⟨s, hs⟩ : ∃ s, s = bs F := ⟨_, rfl⟩
  have hsl : s.data.toList = F := by rw [hs]; rfl
  have HALL := q_all h hf s (by rw [hs, hF])
  have hFl : F.length = size (ll L) := by rw [hF, frs_len]
  have hss : s.size = F.length := by rw [hs, bs_size]
  have hsz := hf.size
  have hpos : 0 < s.size := by rw [hss, hFl, lens_size]; omega
  obtain ⟨n, hn⟩ : ∃ n, n = x.toNat % s.size := ⟨_, rfl⟩
  have hnb : n < s.size := by rw [hn]; exact Nat.mod_lt x.toNat hpos
  have hm1 : x.tmod (s.size : Int) = (n : Int) := by
    rw [Int.tmod_eq_emod_of_nonneg hx, hn]
    have : x = (x.toNat : Int) := by omega
    rw [this]; simp
  have hm2 : x % (s.size : Int) = (n : Int) := by
    rw [← Int.tmod_eq_emod_of_nonneg hx]; exact hm1
  have hwx : wrap64 x = x := by unfold wrap64; omega
  have hwi : IntKind.i64.wrap x = x := by
    simp only [IntKind.wrap, IntKind.bits, IntKind.signed]
    simp
    omega
  obtain ⟨k, a, hw⟩ : ∃ k a, whole (ll L) n = (k, a) := ⟨_, _, rfl⟩
  have hwl := whole_le (ll L) n
  rw [hw, ll_len] at hwl
  have hkl : k ≤ L.length := hwl.1
  have HW := q_whole h n (by omega) k a hw
  have hnF : n < F.length := by omega
  obtain ⟨g, hg⟩ : ∃ g, g = F[n] := ⟨_, rfl⟩
  obtain ⟨u1, u2⟩ := u8_other g Z hZ hZ0
  obtain ⟨d, hd⟩ : ∃ d, d = g ^^^ UInt8.ofNat Z := ⟨_, rfl⟩
  rw [← hd] at u1 u2
  have ht := scan_other (ll L) n d (by rw [← hF]; exact hnF) hf.all (by
    have e : (frs (ll L))[n]'(by rw [← hF]; exact hnF) = g := by rw [hg]; congr 1; exact hF.symm
    rw [e]; exact u2)
  rw [hw, ← hF] at ht
  dsimp only at ht
  have HS := sc_of (bs (F.set n d)) _ _ _ ht (by rw [bs_size, List.length_set]; omega)
  have e1 : ((ll L).take k).map bs = L.take k := by rw [← ll_take, ll_map]
  have e2 : ((ll L).take k).length = k := by rw [List.length_take, ll_len]; omega
  rw [e1, e2] at HS
  have hcap := h.cap
  have HH := Lib.hid h
  have hkc : k ≤ c := by omega
  have hz1 : (k : Int) ≤ (c : Int) := by omega
  have hz2 : (n : Int) < (s.size : Int) := by omega
  have hz3 : (0 : Int) ≤ (n : Int) := by omega
  have hz4 : (0 : Int) ≤ (k : Int) := by omega
  have hbz : s.size ≤ 35168 := by omega
  have hnz : ((s.size : Int) == 0) = false := by rw [beq_eq_false_iff_ne]; omega
  have hnz2 : ¬ ((s.size : Int) = 0) := by omega
  have hlz : (((L.length : Nat) : Int) == 0) = false := by rw [beq_eq_false_iff_ne]; omega
  have hzz : (((Z : Nat) : Int) == 0) = false := by rw [beq_eq_false_iff_ne]; omega
  have hlen := h.len
  have HKL := Lib.hid hkl
  have HNF := Lib.hid hnF
  have HG : Hid (∀ q : n < F.length, F[n]'(q) = g) := Lib.hid fun _ => hg.symm
  have HSL := Lib.hid hsl
  have HSS := Lib.hid hss
  clear h hf hs hsz hn hw hwl ht e1 e2 hcap hkl hF hFl hnF u2 hd hg hsl hss
  go_enter Try.func5, Try.ntmps5
  go_wp2_with fail
  refine HL.out.mono ?_
  rintro e w1 ⟨rfl, rfl⟩
  go_wp2_with fail
  refine HALL.out.mono ?_
  rintro e w2 ⟨rfl, hb2⟩
  have HB2 := Lib.hid hb2
  clear hb2 HALL HL
  have hcv := run_bytes_of_string (P := Try.prog) w2 9 38 5 s WPut.undS WPut.undL WPut.undE
  obtain ⟨cp, hcp⟩ : ∃ cp, cp = grownCap w2 s.size 0 5 := ⟨_, rfl⟩
  rw [← hcp] at hcv
  have hst := cells_start w2 s cp 5
  rw [HSL.out] at hst
  obtain ⟨q0, q1⟩ := hst n HNF.out
  rw [HG.out HNF.out] at q0
  have q2 : (w2.alloc (.cells (bytesRow s cp) 5 ((bytesRow s cp).size, (bytesRow s cp).size + 1))).drew.cell? ⟨w2.heap.size, n, none⟩ = some (.int .u8 (g.toNat : Int)) := q0
  have q3 : (w2.alloc (.cells (bytesRow s cp) 5 ((bytesRow s cp).size, (bytesRow s cp).size + 1))).drew.frozen? ⟨w2.heap.size, n, none⟩ = false := q1
  have hbel : Below w2.heap.size w2 (w2.drew.alloc (.cells (bytesRow s cp) 5 ((bytesRow s cp).size, (bytesRow s cp).size + 1))) := (Below.refl _ _).drew.alloc (Nat.le_refl _) _
  have hset := cells_set hst n HNF.out d
  have hcv2 := run_convert_bytes_back (P := Try.prog) ((w2.drew.alloc (.cells (bytesRow s cp) 5 ((bytesRow s cp).size, (bytesRow s cp).size + 1))).setCell ⟨w2.heap.size, n, none⟩ (.int .u8 (d.toNat : Int))) 38 9 5 ⟨w2.heap.size, 0, none⟩ cp (F.set n d) WPut.undL WPut.undE WPut.undS (fun j hj => by
    rw [WPut.addr_add]; exact (hset j hj).1)
  rw [List.length_set, ← HSS.out] at hcv2
  have hcv3 : (convert 38 9 (.slice (some ⟨w2.heap.size, 0, none⟩) s.size cp)).run Try.prog ((w2.alloc (.cells (bytesRow s cp) 5 ((bytesRow s cp).size, (bytesRow s cp).size + 1))).setCell ⟨w2.heap.size, n, none⟩ (.int .u8 (d.toNat : Int))).drew = .ok (.string ⟨(F.set n d).toArray⟩) ((w2.alloc (.cells (bytesRow s cp) 5 ((bytesRow s cp).size, (bytesRow s cp).size + 1))).setCell ⟨w2.heap.size, n, none⟩ (.int .u8 (d.toNat : Int))).drew := hcv2
  have hbl3 : Below w1.heap.size w1 ((w2.alloc (.cells (bytesRow s cp) 5 ((bytesRow s cp).size, (bytesRow s cp).size + 1))).setCell ⟨w2.heap.size, n, none⟩ (.int .u8 (d.toNat : Int))).drew :=
    HB2.out.trans ((hbel.setCell (p := ⟨w2.heap.size, n, none⟩) (Nat.le_refl _) (.int .u8 (d.toNat : Int))).mono HB2.out.size)
  have HBL := Lib.hid hbl3
  have e3 : bs (F.set n d) = ⟨(F.set n d).toArray⟩ := rfl
  rw [e3] at HS
  clear hst hset hbel hbl3 hcp HB2 e3 hcv2 q0 q1
  go_wp2_with fail
  refine (HS.out _).mono ?_
  rintro e w3 ⟨A3, c3, rfl, hr3, hb3⟩
  have HB3 := Lib.hid (HBL.out.trans (hb3.mono HBL.out.size))
  have HSM := q_same (c2 := c3) HH.out k HKL.out hr3 HB3.out
  clear hb3 hr3 HBL HS
  go_wp2_with fail
  refine (HW.out _ HB3.out).mono ?_
  rintro e w4 ⟨rfl, rfl⟩
  clear HW
  go_wp2_with fail
  refine (HSM.out _ (Below.refl _ _)).mono ?_
  rintro e w5 ⟨rfl, hb5⟩
  have HB5 := Lib.hid (HB3.out.trans (hb5.mono HB3.out.size))
  clear hb5 HB3 HSM
  go_wp2_with fail
  refine (HA.out _).mono ?_
  rintro e w6 ⟨rfl, hb6⟩
  have HB6 := Lib.hid (HB5.out.trans (hb6.mono HB5.out.size))
  clear hb6 HB5 HA
  go_wp2
  go_ret
  exact ⟨rfl, HB6.out⟩
theorem walk (w : World) (A : Option Addr) (c : Nat) (L : List ByteArray) (x z : Int) (h : Came w A c L) (hx : 0 ≤ x ∧ x < 65536) (hz : 0 ≤ z ∧ z < 256) :
    Calls Try.prog 5 #[.slice A L.length c, .int .u16 x, .int .u8 z] w fun e w' => e = .returned (.bool true) ∧ Below w.heap.size w w' := by
  obtain ⟨Z, rfl⟩ : ∃ Z : Nat, z = (Z : Int) := ⟨z.toNat, by omega⟩
  by_cases hI : (200 < L.length ∨ 32768 < lens L) ∨ L.length = 0 ∨ Z = 0
  · exact walk_idle w A c L x Z h hI
  · exact walk_few w A c L x Z h (few_of (fun e => hI (.inl e))) (fun e => hI (.inr (.inl e))) hx.1 hx.2 (by omega) (fun e => hI (.inr (.inr e)))
end Go.Proofs.Ytjpefkpmjhahgaa.So7
