/- FrameTorn's ways: too much to look at; and any beginning of the frames of any texts. -/
import Derived.Test.YtjpefkpmjhahgaaAl7
namespace Go.Proofs.Ytjpefkpmjhahgaa.To7
open Go Go.RowKit Go.Proofs Go.Proofs.Ytjpefkpmjhahgaa.Wm Go.Proofs.Ytjpefkpmjhahgaa.Fl7 Go.Proofs.Ytjpefkpmjhahgaa.Rs7 Go.Proofs.Ytjpefkpmjhahgaa.Fp7 Go.Proofs.Ytjpefkpmjhahgaa.Fs7 Go.Proofs.Ytjpefkpmjhahgaa.Lw7 Go.Proofs.Ytjpefkpmjhahgaa.Al7
/-- A slice of texts that came in. -/
structure Came (w : World) (A : Option Addr) (c : Nat) (L : List ByteArray) : Prop where
  reads : Rds w A L
  len : L.length ≤ 140737488351232
  cap : L.length ≤ c
  small : ∀ k (h : k < L.length), L[k].size ≤ 140737488351232
theorem ll_map (L : List ByteArray) : (ll L).map bs = L := by
  unfold ll
  rw [List.map_map]
  have : (bs ∘ fun x : ByteArray => x.data.toList) = id := by funext x; rfl
  rw [this, List.map_id]
/-- What of texts that are not too much holds. -/
structure Few (L : List ByteArray) : Prop where
  len : L.length ≤ 200
  lens : lens L ≤ 32768
theorem few_of {L : List ByteArray} (h : ¬ (200 < L.length ∨ 32768 < lens L)) : Few L := ⟨by omega, by omega⟩
theorem Few.each {L : List ByteArray} (h : Few L) (k : Nat) (hk : k < L.length) : L[k].size ≤ 4194304 := by
  have := lens_get L k hk
  have := h.lens
  omega
theorem Few.all {L : List ByteArray} (h : Few L) : ∀ s ∈ ll L, s.length ≤ 4194304 := by
  intro s hs
  obtain ⟨x, hx, rfl⟩ := List.mem_map.1 hs
  obtain ⟨k, hk, rfl⟩ := List.mem_iff_getElem.1 hx
  have := h.each k hk
  simpa using this
theorem Few.size {L : List ByteArray} (h : Few L) : size (ll L) ≤ 35168 := by
  rw [lens_size]
  have := h.len
  have := h.lens
  omega
/-- All of these texts. -/
theorem q_all {w : World} {A : Option Addr} {c : Nat} {L : List ByteArray} (h : Came w A c L) (hf : Few L) (b : ByteArray) (hb : b = bs (frs (ll L))) :
    Hid (Calls Try.prog 9 #[.slice A L.length c] w fun e w' => e = .returned (.tuple #[.string b, .int .i64 0]) ∧ Below w.heap.size w w') := Lib.hid (by
  rw [hb]
  exact Fp7.all_ok w A c L h.reads h.len (by have := hf.size; omega) hf.each)
theorem q_large {w : World} {A : Option Addr} {c : Nat} {L : List ByteArray} (h : Came w A c L) (r : Bool) (hr : r = decide (200 < L.length ∨ 32768 < lens L)) :
    Hid (Calls Try.prog 7 #[.slice A L.length c] w fun e w' => e = .returned (.bool r) ∧ w' = w) := Lib.hid (large_any w A c L h.reads h.len h.small r hr)
theorem q_alive : Hid (∀ W, Calls Try.prog 8 #[] W fun e w' => e = .returned (.bool true) ∧ Below W.heap.size W w') := Lib.hid alive_any
theorem q_whole {w : World} {A : Option Addr} {c : Nat} {L : List ByteArray} (h : Came w A c L) (n : Nat) (hn : n ≤ 140737488355328) (k a : Nat) (hw : whole (ll L) n = (k, a)) :
    Hid (∀ W, Below w.heap.size w W → Calls Try.prog 16 #[.slice A L.length c, .int .i64 (n : Int)] W fun e w' => e = .returned (.tuple #[.int .i64 (k : Int), .int .i64 (a : Int)]) ∧ w' = W) := Lib.hid fun W hW => by
  have h2 := whole_any W A c L n (h.reads.keep (Nat.le_refl _) hW) h.len h.small hn
  rw [hw] at h2
  exact h2
theorem q_same {w : World} {A A2 : Option Addr} {c c2 : Nat} {L : List ByteArray} (h : Came w A c L) (k : Nat) (hk : k ≤ L.length) {w2 : World} (h2 : Rds w2 A2 (L.take k)) (hB : Below w.heap.size w w2) :
    Hid (∀ W, Below w2.heap.size w2 W → Calls Try.prog 11 #[.slice A2 k c2, .slice A k c] W fun e w' => e = .returned (.bool true) ∧ Below W.heap.size W w') := Lib.hid fun W hW => by
  have hl : (L.take k).length = k := by rw [List.length_take]; omega
  have := h.len
  have h3 := same_any W A2 A c2 c (L.take k) (L.take k) (h2.keep (Nat.le_refl _) hW) ((h.reads.take k).keep (Nat.le_refl _) (hB.trans (hW.mono hB.size))) (by omega) true (by simp)
  rw [hl] at h3
  exact h3
theorem walk_large (w : World) (A : Option Addr) (c : Nat) (L : List ByteArray) (x : Int) (h : Came w A c L) (hL : 200 < L.length ∨ 32768 < lens L) :
    Calls Try.prog 4 #[.slice A L.length c, .int .u16 x] w fun e w' => e = .returned (.bool true) ∧ Below w.heap.size w w' := by
  have HL := q_large h true (decide_eq_true hL).symm
  have HA := q_alive
  clear h hL
  go_enter Try.func4, Try.ntmps4
  go_wp2_with fail
  refine HL.out.mono ?_
  rintro e w1 ⟨rfl, rfl⟩
  go_wp2_with fail
  refine (HA.out _).mono ?_
  rintro e w2 ⟨rfl, hb⟩
  have HB := Lib.hid hb
  clear hb
  go_wp2
  go_ret
  exact ⟨rfl, HB.out⟩
set_option maxRecDepth 40000 in
set_option maxHeartbeats 2000000 in
theorem walk_few (w : World) (A : Option Addr) (c : Nat) (L : List ByteArray) (x : Int) (h : Came w A c L) (hf : Few L) (hx : 0 ≤ x) (hx2 : x < 65536) :
    Calls Try.prog 4 #[.slice A L.length c, .int .u16 x] w fun e w' => e = .returned (.bool true) ∧ Below w.heap.size w w' := by
  have HL := q_large h false (decide_eq_false (by have := hf.len; have := hf.lens; omega)).symm
  have HA := q_alive
  obtain ⟨b, hb⟩ : ∃ b, b = bs (frs (ll L)) := ⟨_, rfl⟩
  have HALL := q_all h hf b hb
  have hbs : b.size = size (ll L) := by rw [hb, bs_size, frs_len]
  have hsz := hf.size
  obtain ⟨n, hn⟩ : ∃ n, n = x.toNat % (b.size + 1) := ⟨_, rfl⟩
  have hnb : n ≤ b.size := by rw [hn]; have := Nat.mod_lt x.toNat (show 0 < b.size + 1 by omega); omega
  have hm1 : x.tmod ((b.size : Int) + 1) = (n : Int) := by
    rw [Int.tmod_eq_emod_of_nonneg hx, hn]
    have : x = (x.toNat : Int) := by omega
    rw [this]; simp
  have hm2 : x % ((b.size : Int) + 1) = (n : Int) := by
    rw [← Int.tmod_eq_emod_of_nonneg hx]; exact hm1
  have hwx : wrap64 x = x := by unfold wrap64; omega
  have hwi : IntKind.i64.wrap x = x := by
    simp only [IntKind.wrap, IntKind.bits, IntKind.signed]
    simp
    omega
  obtain ⟨k, a, hw⟩ : ∃ k a, whole (ll L) n = (k, a) := ⟨_, _, rfl⟩
  have hwl := whole_le (ll L) n
  rw [hw, ll_len] at hwl
  have hkl : k ≤ L.length := hwl.1
  have HW := q_whole h n (by omega) k a hw
  have ht := scan_torn (ll L) n hf.all (by rw [frs_len, ← hbs]; exact hnb)
  rw [hw] at ht
  dsimp only at ht
  have c1 : (b.extract 0 n).data.toList = (frs (ll L)).take n := by rw [Ff7.ex_list, hb]; rfl
  obtain ⟨e0, he0⟩ : ∃ e0, e0 = if a = n then 0 else 70 := ⟨_, rfl⟩
  rw [← he0] at ht
  have HS := sc_of (b.extract 0 n) _ _ _ (c1 ▸ ht) (by rw [ByteArray.size_extract]; omega)
  have e1 : ((ll L).take k).map bs = L.take k := by rw [← ll_take, ll_map]
  have e2 : ((ll L).take k).length = k := by rw [List.length_take, ll_len]; omega
  rw [e1, e2] at HS
  have hcap := h.cap
  have HH := Lib.hid h
  have hkc : k ≤ c := by omega
  have hz1 : (k : Int) ≤ (c : Int) := by omega
  have hz2 : (n : Int) ≤ (b.size : Int) := by omega
  have hz3 : (0 : Int) ≤ (n : Int) := by omega
  have hz4 : (0 : Int) ≤ (k : Int) := by omega
  have hbz : b.size ≤ 35168 := by omega
  have hnz : ((b.size : Int) + 1 == 0) = false := by rw [beq_eq_false_iff_ne]; omega
  have hnz2 : ¬ ((b.size : Int) + 1 = 0) := by omega
  have HKL := Lib.hid hkl
  have HE := Lib.hid he0
  clear h hf hb hbs hsz hn hw hwl ht c1 e1 e2 hcap hkl he0
  go_enter Try.func4, Try.ntmps4
  go_wp2_with fail
  refine HL.out.mono ?_
  rintro e w1 ⟨rfl, rfl⟩
  go_wp2_with fail
  refine HALL.out.mono ?_
  rintro e w2 ⟨rfl, hb2⟩
  have HB2 := Lib.hid hb2
  clear hb2 HALL HL
  go_wp2_with fail
  refine (HS.out _).mono ?_
  rintro e w3 ⟨A3, c3, rfl, hr3, hb3⟩
  have HB3 := Lib.hid (HB2.out.trans (hb3.mono HB2.out.size))
  have HSM := q_same (c2 := c3) HH.out k HKL.out hr3 HB3.out
  clear hb3 hr3 HB2 HS
  go_wp2_with fail
  refine (HW.out _ HB3.out).mono ?_
  rintro e w4 ⟨rfl, rfl⟩
  clear HW
  by_cases han : a = n
  · have hne : (((a : Nat) : Int) != ((n : Nat) : Int)) = false := by simp [han]
    have he : e0 = 0 := by rw [HE.out, if_pos han]
    subst he
    clear HE han
    go_wp2_with fail
    refine (HSM.out _ (Below.refl _ _)).mono ?_
    rintro e w5 ⟨rfl, hb5⟩
    have HB5 := Lib.hid (HB3.out.trans (hb5.mono HB3.out.size))
    clear hb5 HB3 HSM
    go_wp2_with fail
    refine (HA.out _).mono ?_
    rintro e w6 ⟨rfl, hb6⟩
    have HB6 := Lib.hid (HB5.out.trans (hb6.mono HB5.out.size))
    clear hb6 HB5 HA
    go_wp2
    go_ret
    exact ⟨rfl, HB6.out⟩
  · have hne : (((a : Nat) : Int) != ((n : Nat) : Int)) = true := by simp; omega
    have he : e0 = 70 := by rw [HE.out, if_neg han]
    subst he
    clear HE han
    go_wp2_with fail
    refine (HSM.out _ (Below.refl _ _)).mono ?_
    rintro e w5 ⟨rfl, hb5⟩
    have HB5 := Lib.hid (HB3.out.trans (hb5.mono HB3.out.size))
    clear hb5 HB3 HSM
    go_wp2_with fail
    refine (HA.out _).mono ?_
    rintro e w6 ⟨rfl, hb6⟩
    have HB6 := Lib.hid (HB5.out.trans (hb6.mono HB5.out.size))
    clear hb6 HB5 HA
    go_wp2
    go_ret
    exact ⟨rfl, HB6.out⟩
theorem walk (w : World) (A : Option Addr) (c : Nat) (L : List ByteArray) (x : Int) (h : Came w A c L) (hx : 0 ≤ x ∧ x < 65536) :
    Calls Try.prog 4 #[.slice A L.length c, .int .u16 x] w fun e w' => e = .returned (.bool true) ∧ Below w.heap.size w w' := by
  by_cases hL : 200 < L.length ∨ 32768 < lens L
  · exact walk_large w A c L x h hL
  · exact walk_few w A c L x h (few_of hL) hx.1 hx.2
end Go.Proofs.Ytjpefkpmjhahgaa.To7
