/- The laws' Large and alive. -/
import Derived.Test.YtkbjmbllnnghlaaSs9
namespace Go.Proofs.Ytkbjmbllnnghlaa.La9
open Go Go.RowKit Go.Proofs.Ytkbjmbllnnghlaa.Pm9 Go.Proofs.Ytkbjmbllnnghlaa.Wd9 Go.Proofs.Ytkbjmbllnnghlaa.Mt9 Go.Proofs.Ytkbjmbllnnghlaa.Mm9 Go.Proofs.Ytkbjmbllnnghlaa.Mg9 Go.Proofs.Ytkbjmbllnnghlaa.Sn9 Go.Proofs.Ytkbjmbllnnghlaa.Rd9 Go.Proofs.Ytkbjmbllnnghlaa.Rg9 Go.Proofs.Ytkbjmbllnnghlaa.Rp9 Go.Proofs.Ytkbjmbllnnghlaa.Ss9
theorem size_many : ∀ (L : List Pr), (∀ x ∈ L, x.k.size ≤ 140737488351232 ∧ x.v.size ≤ 140737488351232) → size L ≤ L.length * 281474976702464
  | [], _ => by simp [size]
  | x :: L, h => by
    have h1 := h x List.mem_cons_self
    have h2 := size_many L fun y hy => h y (List.mem_cons_of_mem _ hy)
    simp only [size, List.length_cons]
    omega
def LargeTo (w : World) (n z : Nat) (e : Ending) (w' : World) : Prop := ∃ r, e = .returned (.bool r) ∧ (r = false → n ≤ 200 ∧ z ≤ 32768) ∧ Below w.heap.size w w'
set_option maxRecDepth 20000 in
set_option maxHeartbeats 2000000 in
theorem large_any (w : World) (A : Option Addr) (c : Nat) (L : List Pr) (h : Reads w A L) (hlen : L.length ≤ 140737488351232) (hf : ∀ x ∈ L, x.k.size ≤ 140737488351232 ∧ x.v.size ≤ 140737488351232) :
    Calls Try.prog 6 #[.slice A L.length c] w (LargeTo w L.length (size L)) := by
  obtain ⟨N, hN⟩ : ∃ N, N = L.length := ⟨_, rfl⟩
  rw [← hN] at hlen ⊢
  have H := Lib.hid h
  have HN := Lib.hid hN
  have HF := Lib.hid hf
  clear h hf hN
  go_enter Try.func6, Try.ntmps6
  go_wp2
  go_loopw [3, 4, 5, 6, 7, 8, 9, 10, 11, 12, 13, 14, 15, 16, 17, 18, 19, 20, 21, 22, 23, 24, 25, 26, 27, 28, 29] (fun z i _ _ _ _ _ _ _ _ _ _ _ _ _ _ _ _ _ _ _ _ _ _ _ _ _ wr => ∃ k Z : Nat, k ≤ N ∧ k ≤ 300 ∧ i = .int .i64 k ∧ z = .int .i64 Z ∧ Hid (Z = size (L.take k)) ∧ Hid (Below w.heap.size w wr)) (fun _ i _ _ _ _ _ _ _ _ _ _ _ _ _ _ _ _ _ _ _ _ _ _ _ _ _ _ => N - (intOf i).toNat)
  case atStart => exact ⟨0, 0, by omega, by omega, rfl, rfl, Lib.hid rfl, Lib.hid (Below.refl _ _)⟩
  case round =>
    obtain ⟨k, Z, hk, hk3, rfl, rfl, hs, hB⟩ := hrel
    have hZ : Z ≤ k * 281474976702464 := by
      have h1 := size_many (L.take k) fun x hx => HF.out x (List.mem_of_mem_take hx)
      rw [← hs.out] at h1
      have h2 : (L.take k).length ≤ k := List.length_take_le _ _
      exact Nat.le_trans h1 (Nat.mul_le_mul_right _ h2)
    by_cases hlt : k < N
    · by_cases h300 : k < 300
      · have hil : k < L.length := by rw [← HN.out]; exact hlt
        obtain ⟨b, o, rfl, p0, p1, p2⟩ := (H.out.keep (Nat.le_refl _) hB.out).at_ hil
        have hd := size_drop L k hil
        rw [← hs.out] at hd
        have hx1 := HF.out _ (List.getElem_mem hil)
        obtain ⟨x, hx⟩ : ∃ x, x = L[k] := ⟨_, rfl⟩
        rw [← hx] at hd p0 p1 p2 hx1
        have hzz : Z + x.k.size + x.v.size ≤ 1152921504606846976 := by omega
        have HD := Lib.hid hd
        clear hd hil hx hx1 hZ hs
        go_wp2
        go_quiet (fail)
        go_wp2
        exact ⟨⟨k + 1, Z + x.k.size + x.v.size, by omega, by omega, by go_num, by go_num, Lib.hid HD.out.symm, Lib.hid (hb_drewN hB _)⟩, by simp [intOf]; omega⟩
      · obtain rfl : k = 300 := by omega
        have h1 : (N : Int) > 200 := by omega
        clear hs hZ
        go_wp2
        go_ret
        exact ⟨true, rfl, fun h => (by cases h), hB.out⟩
    · obtain rfl : k = N := by omega
      have hd : Z = size L := by rw [hs.out, HN.out, List.take_length]
      have HD := Lib.hid hd
      clear hs hd
      by_cases h1 : (k : Int) > 200
      · go_wp2
        go_ret
        exact ⟨true, rfl, fun h => (by cases h), hB.out⟩
      · by_cases h2 : (Z : Int) > 32768
        · go_wp2
          go_ret
          exact ⟨true, rfl, fun h => (by cases h), hB.out⟩
        · have HL : Hid (k ≤ 200 ∧ size L ≤ 32768) := Lib.hid ⟨by omega, by rw [← HD.out]; omega⟩
          go_wp2
          go_ret
          exact ⟨false, rfl, fun _ => HL.out, hB.out⟩
def tb : ByteArray := ⟨#[98]⟩
def ta : ByteArray := ⟨#[97]⟩
def p1 : Pr := ⟨⟨#[98]⟩, ⟨#[49]⟩, false⟩
def p2 : Pr := ⟨⟨#[97]⟩, ⟨#[]⟩, true⟩
def p3 : Pr := ⟨⟨#[98]⟩, ⟨#[50]⟩, false⟩
theorem putAll : Pm9.put p3 (Pm9.put p2 (Pm9.put p1 [])) = [p2, p3] := by
  have h1 : may p1 = true := by decide
  have h2 : may p2 = true := by decide
  have h3 : may p3 = true := by decide
  have e12 : lt p2.k p1.k = true := by unfold lt; rw [ByteArray.toList_eq, ByteArray.toList_eq]; decide
  have e31 : lt p3.k p2.k = false := by unfold lt; rw [ByteArray.toList_eq, ByteArray.toList_eq]; decide
  have e23 : lt p2.k p3.k = true := by unfold lt; rw [ByteArray.toList_eq, ByteArray.toList_eq]; decide
  have e33 : lt p3.k p1.k = false := lt_irrefl _
  have e13 : lt p1.k p3.k = false := lt_irrefl _
  simp [Pm9.put, h1, h2, h3, ins, e12, e31, e23, e33, e13]
theorem put12 : Pm9.put p2 (Pm9.put p1 []) = [p2, p1] := by
  have h1 : may p1 = true := by decide
  have h2 : may p2 = true := by decide
  have e12 : lt p2.k p1.k = true := by unfold lt; rw [ByteArray.toList_eq, ByteArray.toList_eq]; decide
  simp [Pm9.put, h1, h2, ins, e12]
theorem getC : Pm9.get ⟨#[99]⟩ [p2, p3] = none := by
  refine get_of_not fun q hq => ?_
  rcases List.mem_cons.1 hq with rfl | hq
  · intro h; have := congrArg (·.data) h; revert this; decide
  · rw [List.mem_singleton.1 hq]; intro h; have := congrArg (·.data) h; revert this; decide
theorem scanAll : scan ⟨#[]⟩ ⟨#[]⟩ 9 [p2, p3] = [p2, p3] := by
  have h1 : ∀ q : Pr, within ⟨#[]⟩ ⟨#[]⟩ q = true := fun q => by
    unfold within lt
    have e : Op.bytesLess q.k.toList (ByteArray.toList ⟨#[]⟩) = false := by
      have : ByteArray.toList ⟨#[]⟩ = [] := by rw [ByteArray.toList_eq]
      rw [this]
      cases q.k.toList <;> rfl
    rw [e]; rfl
  unfold scan
  rw [List.filter_eq_self.2 fun q _ => h1 q]
  rfl
section
variable {n0 : Nat} {w0 W : World} {S : Nat → Prop} {p : Nat}
theorem two_scan (h : Ses n0 w0 S p [p2, p3] W) : Calls Try.prog 18 #[.pointer (some ⟨p, 0, none⟩), .string ⟨#[]⟩, .string ⟨#[]⟩, .int .i64 9] W fun e w' => (∃ A c, e = .returned (.slice A 2 c) ∧ Reads w' A [p2, p3]) ∧ Below W.heap.size W w' := by
  have hs := s_scan h (by decide) ⟨#[]⟩ ⟨#[]⟩ 9
  rw [scanAll] at hs
  refine hs.mono fun e w' x => ?_
  obtain ⟨A, c, h1, h2, h3⟩ := x
  exact ⟨⟨A, c, h1, reads_of_own h2⟩, h3⟩
theorem two_same {A : Option Addr} {c : Nat} (h : Reads W A [p2, p3]) :
    Calls Try.prog 17 #[.slice A 2 c, .slice (some ⟨W.heap.size, 0, none⟩) 2 2] (W.alloc (.cells #[.string ⟨#[97]⟩, .string ⟨#[]⟩, .bool true, .string ⟨#[98]⟩, .string ⟨#[50]⟩, .bool false] 33)) fun e w' => e = .returned (.bool true) ∧ Below W.heap.size W w' := by
  have hb : Below W.heap.size W (W.alloc (.cells #[.string ⟨#[97]⟩, .string ⟨#[]⟩, .bool true, .string ⟨#[98]⟩, .string ⟨#[50]⟩, .bool false] 33)) := (Below.refl _ _).alloc (Nat.le_refl _) _
  have hn := heap_new W (.cells #[.string ⟨#[97]⟩, .string ⟨#[]⟩, .bool true, .string ⟨#[98]⟩, .string ⟨#[50]⟩, .bool false] 33)
  have hr : Reads (W.alloc (.cells #[.string ⟨#[97]⟩, .string ⟨#[]⟩, .bool true, .string ⟨#[98]⟩, .string ⟨#[50]⟩, .bool false] 33)) (some ⟨W.heap.size, 0, none⟩) [p2, p3] := fun _ => by
    refine ⟨W.heap.size, 0, rfl, lt_of_at hn, fun k hk => ?_⟩
    match k, hk with
    | 0, _ => exact ⟨cell_of hn 0, cell_of hn 1, cell_of hn 2⟩
    | 1, _ => exact ⟨cell_of hn 3, cell_of hn 4, cell_of hn 5⟩
  have hc := same_any _ A (some ⟨W.heap.size, 0, none⟩) c 2 [p2, p3] [p2, p3] (h.keep (Nat.le_refl _) hb) hr (by decide)
  rw [same_iff.2 rfl] at hc
  exact hc.mono fun e w' x => ⟨x.1, hb.trans (x.2.mono hb.size)⟩
theorem two_len (h : Ses n0 w0 S p [p2, p3] W) : Calls Try.prog 12 #[.pointer (some ⟨p, 0, none⟩)] W fun e w' => e = .returned (.int .i64 2) ∧ w' = W := s_len h
theorem two_size (h : Ses n0 w0 S p [p2, p3] W) : Calls Try.prog 13 #[.pointer (some ⟨p, 0, none⟩)] W fun e w' => e = .returned (.int .i64 3) ∧ w' = W := s_size h
theorem two_none (h : Ses n0 w0 S p [p2, p3] W) : Calls Try.prog 18 #[.pointer (some ⟨p, 0, none⟩), .string ⟨#[98]⟩, .string ⟨#[]⟩, .int .i64 0] W fun e w' => (∃ A c, e = .returned (.slice A 0 c)) ∧ Below W.heap.size W w' := by
  refine (s_scan h (by decide) ⟨#[98]⟩ ⟨#[]⟩ 0).mono fun e w' x => ?_
  obtain ⟨A, c, h1, h2, h3⟩ := x
  exact ⟨⟨A, c, h1⟩, h3⟩
theorem zero_check : Calls Try.prog 11 #[.agg #[.string ⟨#[]⟩, .string ⟨#[]⟩, .bool false]] W fun e w' => e = .returned (.int .i64 2) ∧ Below W.heap.size W w' :=
  check_any W ⟨⟨#[]⟩, ⟨#[]⟩, false⟩ (by decide) (by decide)
end
theorem scanNone (l : List Pr) : scan ⟨#[98]⟩ ⟨#[]⟩ 0 l = [] := rfl
theorem mayZero : may ⟨⟨#[]⟩, ⟨#[]⟩, false⟩ = false := by decide
set_option maxRecDepth 20000 in
set_option maxHeartbeats 4000000 in
theorem alive_any (w : World) : Calls Try.prog 7 #[] w fun e w' => e = .returned (.bool true) ∧ Below w.heap.size w w' := by
  have H0 := Lib.hid (s_new (Below.refl w.heap.size w) (Nat.le_refl _))
  go_enter Try.func7, Try.ntmps7
  go_wp2_with fail
  refine H0.out.mono ?_
  rintro e w1 ⟨rfl, hs1, _⟩
  obtain ⟨p, hp⟩ : ∃ p, p = w.heap.size := ⟨_, rfl⟩
  rw [← hp] at hs1 ⊢
  have S1 := Lib.hid (s_put hs1 p1 (by decide) (by decide) (by decide) (by decide))
  rw [show erg (may p1) = 0 by decide] at S1
  have HP := Lib.hid hp
  clear hs1 hp
  go_wp2_with fail
  refine S1.out.mono ?_
  rintro e w2 ⟨rfl, hs2, _⟩
  have S2 := Lib.hid (s_put hs2 p2 (by decide) (by decide) (by decide) (by decide))
  rw [show erg (may p2) = 0 by decide] at S2
  clear hs2
  go_wp2_with fail
  refine S2.out.mono ?_
  rintro e w3 ⟨rfl, hs3, _⟩
  have h12 : Pm9.put p2 (Pm9.put p1 []) = [p2, p1] := put12
  rw [h12] at hs3
  have S3 := s_put hs3 p3 (by decide) (by decide) (by decide) (by decide)
  rw [← h12, show erg (may p3) = 0 by decide, putAll] at S3
  have S3 := Lib.hid S3
  clear hs3
  go_wp2_with fail
  refine S3.out.mono ?_
  rintro e w4 ⟨rfl, hs4, _⟩
  have S4 := Lib.hid (s_get hs4 ⟨#[99]⟩)
  rw [getC] at S4
  simp only [gotV, Option.getD_none, Option.isSome_none, zp] at S4
  have K4 := Lib.hid hs4
  clear hs4
  go_wp2_with fail
  refine S4.out.mono ?_
  rintro e w5 ⟨rfl, hb5⟩
  have K5 := Lib.hid (K4.out.keep hb5)
  clear hb5
  go_wp2_with fail
  refine (two_scan (K5.out.keep ((Below.refl _ _).alloc (Nat.le_refl _) _))).mono ?_
  rintro e w6 ⟨⟨A, c, rfl, hr⟩, hb6⟩
  have K6 := Lib.hid ((K5.out.keep ((Below.refl _ _).alloc (Nat.le_refl _) _)).keep hb6)
  have R6 := Lib.hid hr
  clear hb6 hr
  go_wp2_with fail
  refine (two_same R6.out).mono ?_
  rintro e w7 ⟨rfl, hb7⟩
  have K7 := Lib.hid (K6.out.keep hb7)
  clear hb7
  go_wp2_with fail
  refine (two_len K7.out).mono ?_
  rintro e w8 ⟨rfl, rfl⟩
  go_wp2_with fail
  refine (two_size K7.out).mono ?_
  rintro e w8 ⟨rfl, rfl⟩
  go_wp2_with fail
  refine (two_none K7.out).mono ?_
  rintro e w9 ⟨⟨A9, c9, rfl⟩, hb9⟩
  have K9 := Lib.hid (K7.out.keep hb9)
  clear hb9
  go_wp2_with fail
  refine zero_check.mono ?_
  rintro e w10 ⟨rfl, hb10⟩
  have hb := (K9.out.keep hb10).below
  clear hb10
  go_wp2
  go_ret
  exact ⟨rfl, by rw [← HP.out]; exact hb⟩
end Go.Proofs.Ytkbjmbllnnghlaa.La9
