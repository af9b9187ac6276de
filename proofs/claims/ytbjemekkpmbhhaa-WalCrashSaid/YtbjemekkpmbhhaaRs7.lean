/- Slices of strings that came in, or that the call made, and what they read as; the contract of the document's SameTexts. -/
import Derived.Test.YtbjemekkpmbhhaaProg
import Derived.Test.YtbjemekkpmbhhaaFl7
import Derived.WalkKit
import Derived.Below
import Derived.Lib.Hide
import Derived.Deep.QuietTactic
import Derived.BigQuiet
import Derived.Deep.RegionHeld3
import Derived.Deep.DrawnRows
namespace Go.Proofs.Ytbjemekkpmbhhaa.Rs7
open Go Go.RowKit Go.Proofs.Ytbjemekkpmbhhaa.Fl7
/-- The slice at A reads as the texts L. -/
def Rds (w : World) (A : Option Addr) (L : List ByteArray) : Prop :=
  L ≠ [] → ∃ b o, A = some ⟨b, o, none⟩ ∧ b < w.heap.size ∧ ∀ k (h : k < L.length), w.cell? ⟨b, o + k, none⟩ = some (.string L[k])
theorem Rds.nil (w : World) (A : Option Addr) : Rds w A [] := fun h => absurd rfl h
theorem Rds.keep {B : Nat} {w w' : World} {A : Option Addr} {L : List ByteArray} (h : Rds w A L) (hB : w.heap.size ≤ B) (hb : Below B w w') : Rds w' A L := fun hl => by
  obtain ⟨b, o, rfl, hlt, hc⟩ := h hl
  exact ⟨b, o, rfl, by have := hb.size; omega, fun k hk => (hb.cell (p := ⟨b, o + k, none⟩) (by show b < B; omega)).trans (hc k hk)⟩
theorem Rds.at_ {w : World} {A : Option Addr} {L : List ByteArray} (h : Rds w A L) {k : Nat} (hk : k < L.length) : ∃ b o, A = some ⟨b, o, none⟩ ∧ w.cell? ⟨b, o + k, none⟩ = some (.string L[k]) := by
  obtain ⟨b, o, e, _, hc⟩ := h (fun h0 => by rw [h0] at hk; simp at hk)
  exact ⟨b, o, e, hc k hk⟩
theorem Rds.take {w : World} {A : Option Addr} {L : List ByteArray} (h : Rds w A L) (k : Nat) : Rds w A (L.take k) := fun hl => by
  obtain ⟨b, o, e, h1, hc⟩ := h (fun h0 => hl (by rw [h0, List.take_nil]))
  exact ⟨b, o, e, h1, fun j hj => by rw [List.getElem_take]; exact hc j (by rw [List.length_take] at hj; omega)⟩
/-- What is told of texts as lists of bytes. -/
def ll (L : List ByteArray) : List (List UInt8) := L.map (·.data.toList)
theorem ll_len (L : List ByteArray) : (ll L).length = L.length := List.length_map ..
theorem ll_take (L : List ByteArray) (k : Nat) : ll (L.take k) = (ll L).take k := List.map_take ..
theorem ll_append (L M : List ByteArray) : ll (L ++ M) = ll L ++ ll M := List.map_append ..
theorem ll_get (L : List ByteArray) (k : Nat) (h : k < L.length) (h' : k < (ll L).length) : (ll L)[k] = L[k].data.toList := by simp [ll]
theorem bytes_inj {a b : ByteArray} (h : a.toList = b.toList) : a = b := by
  rw [ByteArray.toList_eq, ByteArray.toList_eq] at h
  have h2 : a.data = b.data := Array.toList_inj.1 h
  cases a; cases b; simp at h2; rw [h2]
theorem below_drewN (w : World) : ∀ n, Below w.heap.size w (w.drewN n)
  | 0 => Below.refl _ _
  | n + 1 => (below_drewN w n).drew
theorem hb_drewN {w w' : World} (h : Hid (Below w.heap.size w w')) (n : Nat) : Below w.heap.size w (w'.drewN n) :=
  h.out.trans ((below_drewN w' n).mono h.out.size)
set_option maxRecDepth 20000 in
set_option maxHeartbeats 2000000 in
/-- SameTexts of texts of two slices. -/
theorem same_any (w : World) (A A' : Option Addr) (c c' : Nat) (L M : List ByteArray) (hl : Rds w A L) (hm : Rds w A' M) (hlen : L.length ≤ 140737488351232) (r : Bool) (hr : r = decide (L = M)) :
    Calls Try.prog 16 #[.slice A L.length c, .slice A' M.length c'] w fun e w' => e = .returned (.bool r) ∧ Below w.heap.size w w' := by
  by_cases hn : L.length = M.length
  · have HL := Lib.hid hl
    have HM := Lib.hid hm
    have HR := Lib.hid hr
    clear hl hm hr
    obtain ⟨N, hN⟩ : ∃ N, N = L.length := ⟨_, rfl⟩
    have hN' : N = M.length := by rw [hN]; exact hn
    rw [← hN, ← hN']
    have H1 := Lib.hid hN
    have H2 := Lib.hid hN'
    rw [← hN] at hlen
    clear hN hN' hn
    go_enter Try.func16, Try.ntmps16
    go_wp2
    go_loopw [5, 17, 18, 19, 20, 21, 22, 23, 24, 25] (fun i _ _ _ _ _ _ _ _ _ wr => ∃ k : Nat, k ≤ N ∧ i = .int .i64 k ∧ Hid (L.take k = M.take k) ∧ Hid (Below w.heap.size w wr)) (fun i _ _ _ _ _ _ _ _ _ _ => N - (intOf i).toNat)
    case atStart => exact ⟨0, by omega, rfl, Lib.hid (by simp), Lib.hid (Below.refl _ _)⟩
    case round =>
      obtain ⟨k, hk, rfl, hs, hb⟩ := hrel
      by_cases hlt : k < N
      · have hkl : k < L.length := by rw [← H1.out]; exact hlt
        have hkm : k < M.length := by rw [← H2.out]; exact hlt
        obtain ⟨b, o, rfl, p0⟩ := (HL.out.keep (Nat.le_refl _) hb.out).at_ hkl
        obtain ⟨b', o', rfl, q0⟩ := (HM.out.keep (Nat.le_refl _) hb.out).at_ hkm
        by_cases he : L[k] = M[k]
        · have hst : L.take (k + 1) = M.take (k + 1) := by
            rw [List.take_succ_eq_append_getElem hkl, List.take_succ_eq_append_getElem hkm, hs.out, he]
          have HS := Lib.hid hst
          rw [he] at p0
          clear hst hs he
          generalize M[k] = x at p0 q0
          have hxx : (x.toList == x.toList) = true := beq_self_eq_true _
          clear hkl hkm
          go_wp2
          go_quiet (fail)
          go_wp2
          exact ⟨⟨k + 1, by omega, by go_num, HS, Lib.hid (hb_drewN hb _)⟩, by simp [intOf]; omega⟩
        · have hf : r = false := by
            rw [HR.out]
            refine decide_eq_false (fun e => he ?_)
            subst e; rfl
          have hne : (L[k].toList == M[k].toList) = false := beq_eq_false_iff_ne.2 fun e => he (bytes_inj e)
          generalize L[k] = x at p0 hne
          generalize M[k] = y at q0 hne
          clear hkl hkm he hs
          go_wp2
          go_quiet (fail)
          go_wp2
          go_ret
          exact ⟨by rw [hf]; rfl, hb_drewN hb _⟩
      · obtain rfl : k = N := by omega
        have ht : r = true := by
          rw [HR.out]
          refine decide_eq_true ?_
          have h1 := hs.out
          rw [List.take_of_length_le (by rw [← H1.out]; omega), List.take_of_length_le (by rw [← H2.out]; omega)] at h1
          exact h1
        have HT := Lib.hid ht
        clear ht hs
        go_wp2
        go_ret
        exact ⟨by rw [HT.out]; rfl, hb.out⟩
  · have hf : r = false := by rw [hr]; exact decide_eq_false (fun e => hn (by rw [e]))
    rw [hf]
    clear hf hl hm hr
    have hn1 : ((L.length : Int) != (M.length : Int)) = true := by simp; omega
    have hn2 : ¬ ((L.length : Int) = (M.length : Int)) := by omega
    go_enter Try.func16, Try.ntmps16
    go_wp2
    go_ret
    exact ⟨rfl, Below.refl _ _⟩
end Go.Proofs.Ytbjemekkpmbhhaa.Rs7
