/- The laws' Large and alive. -/
import Derived.Test.YtmnaamjoikfpbaaRp9
namespace Go.Proofs.Ytmnaamjoikfpbaa.La9
open Go Go.RowKit Go.Proofs.Ytmnaamjoikfpbaa.Pm9 Go.Proofs.Ytmnaamjoikfpbaa.Wd9 Go.Proofs.Ytmnaamjoikfpbaa.Mt9 Go.Proofs.Ytmnaamjoikfpbaa.Mm9 Go.Proofs.Ytmnaamjoikfpbaa.Mg9 Go.Proofs.Ytmnaamjoikfpbaa.Sn9 Go.Proofs.Ytmnaamjoikfpbaa.Rd9 Go.Proofs.Ytmnaamjoikfpbaa.Rg9 Go.Proofs.Ytmnaamjoikfpbaa.Rp9
theorem size_many : ∀ (L : List Pr), (∀ x ∈ L, x.k.size ≤ 140737488351232 ∧ x.v.size ≤ 140737488351232) → size L ≤ L.length * 281474976702464
  | [], _ => by simp [size]
  | x :: L, h => by
    have h1 := h x List.mem_cons_self
    have h2 := size_many L fun y hy => h y (List.mem_cons_of_mem _ hy)
    simp only [size, List.length_cons]
    omega
def LargeTo (w : World) (n z : Nat) (e : Ending) (w' : World) : Prop := ∃ r, e = .returned (.bool r) ∧ (r = false → n ≤ 200 ∧ z ≤ 32768) ∧ Below w.heap.size w w'
set_option maxRecDepth 20000 in
set_option maxHeartbeats 2000000 in
theorem large_any (w : World) (A : Option Addr) (c : Nat) (L : List Pr) (h : Reads w A L) (hlen : L.length ≤ 140737488351232) (hf : ∀ x ∈ L, x.k.size ≤ 140737488351232 ∧ x.v.size ≤ 140737488351232) :
    Calls Try.prog 6 #[.slice A L.length c] w (LargeTo w L.length (size L)) := by
  obtain ⟨N, hN⟩ : ∃ N, N = L.length := ⟨_, rfl⟩
  rw [← hN] at hlen ⊢
  have H := Lib.hid h
  have HN := Lib.hid hN
  have HF := Lib.hid hf
  clear h hf hN
  go_enter Try.func6, Try.ntmps6
  go_wp2
  go_loopw [3, 4, 5, 6, 7, 8, 9, 10, 11, 12, 13, 14, 15, 16, 17, 18, 19, 20, 21, 22, 23, 24, 25, 26, 27, 28, 29] (fun z i _ _ _ _ _ _ _ _ _ _ _ _ _ _ _ _ _ _ _ _ _ _ _ _ _ wr => ∃ k Z : Nat, k ≤ N ∧ k ≤ 300 ∧ i = .int .i64 k ∧ z = .int .i64 Z ∧ Hid (Z = size (L.take k)) ∧ Hid (Below w.heap.size w wr)) (fun _ i _ _ _ _ _ _ _ _ _ _ _ _ _ _ _ _ _ _ _ _ _ _ _ _ _ _ => N - (intOf i).toNat)
  case atStart => exact ⟨0, 0, by omega, by omega, rfl, rfl, Lib.hid rfl, Lib.hid (Below.refl _ _)⟩
  case round =>
    obtain ⟨k, Z, hk, hk3, rfl, rfl, hs, hB⟩ := hrel
    have hZ : Z ≤ k * 281474976702464 := by
      have h1 := size_many (L.take k) fun x hx => HF.out x (List.mem_of_mem_take hx)
      rw [← hs.out] at h1
      have h2 : (L.take k).length ≤ k := List.length_take_le _ _
      exact Nat.le_trans h1 (Nat.mul_le_mul_right _ h2)
    by_cases hlt : k < N
    · by_cases h300 : k < 300
      · have hil : k < L.length := by rw [← HN.out]; exact hlt
        obtain ⟨b, o, rfl, p0, p1, p2⟩ := (H.out.keep (Nat.le_refl _) hB.out).at_ hil
        have hd := size_drop L k hil
        rw [← hs.out] at hd
        have hx1 := HF.out _ (List.getElem_mem hil)
        obtain ⟨x, hx⟩ : ∃ x, x = L[k] := ⟨_, rfl⟩
        rw [← hx] at hd p0 p1 p2 hx1
        have hzz : Z + x.k.size + x.v.size ≤ 1152921504606846976 := by omega
        have HD := Lib.hid hd
        clear hd hil hx hx1 hZ hs
        go_wp2
        go_quiet (fail)
        go_wp2
        exact ⟨⟨k + 1, Z + x.k.size + x.v.size, by omega, by omega, by go_num, by go_num, Lib.hid HD.out.symm, Lib.hid (hb_drewN hB _)⟩, by simp [intOf]; omega⟩
      · obtain rfl : k = 300 := by omega
        have h1 : (N : Int) > 200 := by omega
        clear hs hZ
        go_wp2
        go_ret
        exact ⟨true, rfl, fun h => (by cases h), hB.out⟩
    · obtain rfl : k = N := by omega
      have hd : Z = size L := by rw [hs.out, HN.out, List.take_length]
      have HD := Lib.hid hd
      clear hs hd
      by_cases h1 : (k : Int) > 200
      · go_wp2
        go_ret
        exact ⟨true, rfl, fun h => (by cases h), hB.out⟩
      · by_cases h2 : (Z : Int) > 32768
        · go_wp2
          go_ret
          exact ⟨true, rfl, fun h => (by cases h), hB.out⟩
        · have HL : Hid (k ≤ 200 ∧ size L ≤ 32768) := Lib.hid ⟨by omega, by rw [← HD.out]; omega⟩
          go_wp2
          go_ret
          exact ⟨false, rfl, fun _ => HL.out, hB.out⟩
end Go.Proofs.Ytmnaamjoikfpbaa.La9

