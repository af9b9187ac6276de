/- The contracts of the laws' own Large and whole. -/
import Derived.Test.YtbjemekkpmbhhaaRs7
import Derived.Test.YtbjemekkpmbhhaaFp7
namespace Go.Proofs.Ytbjemekkpmbhhaa.Lw7
open Go Go.RowKit Go.Proofs.Ytbjemekkpmbhhaa.Wm Go.Proofs.Ytbjemekkpmbhhaa.Fl7 Go.Proofs.Ytbjemekkpmbhhaa.Rs7 Go.Proofs.Ytbjemekkpmbhhaa.Fp7
/-- The bytes of these texts together. -/
def lens : List ByteArray → Nat
  | [] => 0
  | s :: r => s.size + lens r
theorem lens_append (L M : List ByteArray) : lens (L ++ M) = lens L + lens M := by
  induction L with
  | nil => simp [lens]
  | cons s r ih => rw [List.cons_append, lens, lens, ih]; omega
theorem lens_take (L : List ByteArray) (k : Nat) (hk : k < L.length) : lens (L.take (k + 1)) = lens (L.take k) + L[k].size := by
  rw [List.take_succ_eq_append_getElem hk, lens_append]; simp [lens]
theorem lens_size (L : List ByteArray) : size (ll L) = 12 * L.length + lens L := by
  induction L with
  | nil => rfl
  | cons s r ih =>
    have h : s.data.toList.length = s.size := by simp
    show 12 + s.data.toList.length + size (ll r) = _
    rw [ih, h, lens, List.length_cons]; omega
theorem lens_get : ∀ (L : List ByteArray) (k : Nat) (h : k < L.length), L[k].size ≤ lens L
  | [], k, h => by simp at h
  | s :: r, 0, _ => by simp [lens]
  | s :: r, k + 1, h => by
    have := lens_get r k (by simpa using h)
    simp only [List.getElem_cons_succ, lens]; omega
theorem lens_bound (L : List ByteArray) (M : Nat) (h : ∀ k (h : k < L.length), L[k].size ≤ M) : ∀ k, k ≤ L.length → lens (L.take k) ≤ k * M := by
  intro k
  induction k with
  | zero => intro _; simp [lens]
  | succ k ih =>
    intro hk
    rw [lens_take L k (by omega), Nat.succ_mul]
    have := ih (by omega)
    have := h k (by omega)
    omega
set_option maxRecDepth 20000 in
set_option maxHeartbeats 2000000 in
/-- Large: more than 200 texts, or more than 32,768 bytes. -/
theorem large_any (w : World) (A : Option Addr) (c : Nat) (L : List ByteArray) (hl : Rds w A L) (hlen : L.length ≤ 140737488351232) (hs : ∀ k (h : k < L.length), L[k].size ≤ 140737488351232) (r : Bool) (hr : r = decide (200 < L.length ∨ 32768 < lens L)) :
    Calls Try.prog 15 #[.slice A L.length c] w fun e w' => e = .returned (.bool r) ∧ w' = w := by
  have HL := Lib.hid hl
  have HT := Lib.hid (lens_bound L 140737488351232 hs)
  have HS := Lib.hid hs
  have HR := Lib.hid hr
  clear hl hs hr
  obtain ⟨N, hN⟩ : ∃ N, N = L.length := ⟨_, rfl⟩
  rw [← hN]
  rw [← hN] at hlen
  have H1 := Lib.hid hN
  clear hN
  go_enter Try.func15, Try.ntmps15
  go_wp2
  go_loop [3, 4] (fun n i => ∃ k : Nat, k ≤ N ∧ k ≤ 300 ∧ i = .int .i64 k ∧ n = .int .i64 ((lens (L.take k) : Nat) : Int)) (fun _ i => N - (intOf i).toNat)
  case atStart => exact ⟨0, by omega, by omega, rfl, rfl⟩
  case round =>
    obtain ⟨k, hk, hk3, rfl, rfl⟩ := hrel
    have hbn := HT.out k (by rw [← H1.out]; exact hk)
    by_cases hkN : k < N
    · by_cases hk4 : k < 300
      · have hkl : k < L.length := by rw [← H1.out]; exact hkN
        obtain ⟨b, o, rfl, p0⟩ := HL.out.at_ hkl
        have hst := lens_take L k hkl
        have h2 := HS.out k hkl
        obtain ⟨Z, hZ⟩ : ∃ Z, Z = lens (L.take k) := ⟨_, rfl⟩
        rw [← hZ] at hst hbn ⊢
        have hbz : Z ≤ 42221246505369600 := Nat.le_trans hbn (by have := Nat.mul_le_mul_right 140737488351232 hk3; omega)
        have HST := Lib.hid hst
        have hz1 : decide ((k : Int) < (N : Int)) = true := decide_eq_true (by omega)
        have hz2 : decide ((k : Int) < 300) = true := decide_eq_true (by omega)
        generalize L[k] = x at p0 h2 HST
        clear hkl hst hZ hbn
        go_wp2
        go_round
        case rel => exact ⟨k + 1, by omega, by omega, by go_num, by rw [HST.out]; go_num⟩
        case measure => simp [intOf]; omega
      · have hr1 : r = true := by
          rw [HR.out]
          exact decide_eq_true (.inl (by rw [← H1.out]; omega))
        have hk5 : k = 300 := by omega
        subst hk5
        have hz1 : decide ((300 : Int) < (N : Int)) = true := decide_eq_true (by omega)
        have hz3 : decide ((200 : Int) < (N : Int)) = true := decide_eq_true (by omega)
        have hz4 : (300 : Int) < (N : Int) := by omega
        have hz5 : (200 : Int) < (N : Int) := by omega
        have HRR := Lib.hid hr1
        clear hr1 HR hbn
        go_wp2
        go_ret
        exact ⟨by rw [HRR.out]; rfl, rfl⟩
    · have hk2 : k = N := by omega
      subst hk2
      have e : L.take k = L := List.take_of_length_le (by rw [← H1.out]; omega)
      rw [e] at hbn ⊢
      have hrr := HR.out
      rw [← H1.out] at hrr
      by_cases h2 : 200 < k
      · have hr1 : r = true := by rw [hrr]; exact decide_eq_true (.inl h2)
        have hz3 : decide ((200 : Int) < (k : Int)) = true := decide_eq_true (by omega)
        have HRR := Lib.hid hr1
        clear hrr hr1 HR hbn e
        go_wp2
        go_ret
        exact ⟨by rw [HRR.out]; rfl, rfl⟩
      · have hz3 : decide ((200 : Int) < (k : Int)) = false := decide_eq_false (by omega)
        by_cases h3 : 32768 < lens L
        · have hr1 : r = true := by rw [hrr]; exact decide_eq_true (.inr h3)
          have hz4 : decide ((32768 : Int) < ((lens L : Nat) : Int)) = true := decide_eq_true (by omega)
          have HRR := Lib.hid hr1
          clear hrr hr1 HR hbn e
          go_wp2
          go_ret
          exact ⟨by rw [HRR.out]; rfl, rfl⟩
        · have hr1 : r = false := by rw [hrr]; exact decide_eq_false (by omega)
          have hz4 : decide ((32768 : Int) < ((lens L : Nat) : Int)) = false := decide_eq_false (by omega)
          have HRR := Lib.hid hr1
          clear hrr hr1 HR hbn e
          go_wp2
          go_ret
          exact ⟨by rw [HRR.out]; rfl, rfl⟩
/-- What is whole from the text k on. -/
theorem whole_step (L : List ByteArray) (k m : Nat) (hk : k < L.length) : whole (ll (L.drop k)) m =
    if 12 + L[k].size ≤ m then ((whole (ll (L.drop (k + 1))) (m - (12 + L[k].size))).1 + 1, 12 + L[k].size + (whole (ll (L.drop (k + 1))) (m - (12 + L[k].size))).2) else (0, 0) := by
  have h : L[k].data.toList.length = L[k].size := by simp
  rw [List.drop_eq_getElem_cons hk]
  show whole (L[k].data.toList :: ll (L.drop (k + 1))) m = _
  rw [whole, h]
end Go.Proofs.Ytbjemekkpmbhhaa.Lw7
