/- The contract of the document's without. -/
import Derived.Test.YtaoneiicoaiehaaGreatFw11
namespace Go.Proofs.YtaoneiicoaiehaaGreat.Fx11
open Go Go.RowKit Go.Lib Go.Proofs.YtaoneiicoaiehaaGreat Go.Proofs.YtaoneiicoaiehaaGreat.Dh Go.Proofs.YtaoneiicoaiehaaGreat.Ol11 Go.Proofs.YtaoneiicoaiehaaGreat.Fr11 Go.Proofs.YtaoneiicoaiehaaGreat.Fq11 Go.Proofs.YtaoneiicoaiehaaGreat.Ck11 Go.Proofs.YtaoneiicoaiehaaGreat.Fz11 Go.Proofs.YtaoneiicoaiehaaGreat.Fw11
set_option maxHeartbeats 8000000 in
set_option maxRecDepth 100000 in
theorem without_any {w : World} {A : Option Addr} {c : Nat} {R : List Fl} (h : RdF w A R) (hl : R.length ≤ 1000000) (k : ByteArray) :
    Calls Tryz.prog 78 #[.slice A R.length c, .string k] w (Makes w (wo k R)) := by
  obtain ⟨i0, hi, iz0, iz1, iz2⟩ := info_parts infoF
  obtain ⟨N, hN⟩ : ∃ N, N = R.length := ⟨_, rfl⟩
  rw [← hN] at hl ⊢
  have H := Lib.hid h
  have HN := Lib.hid hN
  clear h hN
  go_enter Tryz.func78, Tryz.ntmps78
  go_wp2_with fail
  go_loopg [5, 6] (N + 1) (fun g1 v vi wr => ∃ (i : Nat) (L : List Fl) (A1 : Option Addr) (c1 : Nat), v = .slice A1 L.length c1 ∧ vi = .int .i64 (i : Int) ∧ i ≤ N ∧ N + 1 - i ≤ g1 ∧ L.length ≤ i ∧ Hid (L = wo k (R.take i)) ∧ Hid (RowF w.heap.size L (.slice A1 L.length c1) wr) ∧ Hid (Below w.heap.size w wr))
  case atStart => exact ⟨0, [], none, 0, rfl, rfl, by omega, by omega, Nat.le_refl _, Lib.hid rfl, Lib.hid (row_nil _ _), Lib.hid (Below.refl _ _)⟩
  case round =>
    obtain ⟨i, L, A1, c1, rfl, rfl, hi1, hg1, hLi, HL, HO, HB⟩ := hrel
    by_cases hil : i < N
    · have hilR : i < R.length := by rw [← HN.out]; exact hil
      obtain ⟨b, o, rfl, _, c0, c1'⟩ := (H.out.keep (Nat.le_refl _) HB.out).at_ hilR
      have hzi : (i : Int) < (N : Int) := by omega
      have hsn := wo_snoc k R[i] (R.take i)
      rw [← List.take_succ_eq_append_getElem hilR, ← HL.out] at hsn
      obtain ⟨q, hq⟩ : ∃ q, q = R[i] := ⟨_, rfl⟩
      rw [← hq] at c0 c1' hsn
      clear hq
      by_cases e : q.1 = k
      · rw [if_pos e] at hsn
        have HS := Lib.hid hsn.symm
        rw [e] at c0
        clear hsn e hilR
        go_wp2
        go_roundg (N - i)
        case measure => omega
        case rel => exact ⟨i + 1, L, A1, c1, rfl, by go_num, by omega, by omega, by omega, HS, HO, HB⟩
      · rw [if_neg e] at hsn
        have HS := Lib.hid hsn.symm
        have hb : (q.1.toList == k.toList) = false := beq_eq_false_iff_ne.2 fun h => e (bytes_ext h)
        have HOA := Lib.hid (HO.out.below ((Below.refl _ _).alloc (Nat.le_refl _) (fileO q)))
        have HN2 := Lib.hid (news2 wr q)
        have H63 : Hid (L.length + 1 ≤ maxLen) := Lib.hid (by unfold maxLen; omega)
        have HBY : Hid ((L.length + 1) * 32 ≤ 140737488355328) := Lib.hid (by omega)
        have HBS : Hid (w.heap.size ≤ (wr.alloc (fileO q)).heap.size) := Lib.hid (by rw [size_alloc]; have := HB.out.size; omega)
        clear hsn e hilR
        go_wp2_with (at_builtin; refine wpList_append_own_at _ rfl _ _ 40 rfl w.heap.size 71 i0 _ 2 32 Tryz.underlying40 hi iz0 iz1 iz2 rfl (by decide) _ _ _ rfl HOA.out ⟨wr.heap.size, 0, none⟩ 1 1 (cells2 q) rfl rfl HN2.out (one2 q) H63.out HBY.out HBS.out ?_; intro v3 w4 r1 r2 _ _; obtain ⟨A2, c2, rfl, o1, o2⟩ := app_ok HO.out HB.out HB.out.size r1 r2; have HR := Lib.hid (And.intro o1 o2); clear r1 r2 o1 o2)
        go_roundg (N - i)
        case measure => omega
        case rel => exact ⟨i + 1, L ++ [q], A2, c2, by rw [List.length_append]; rfl, by go_num, by omega, by omega, by rw [List.length_append]; show L.length + 1 ≤ _; omega, HS, Lib.hid (by rw [List.length_append]; exact HR.out.1), Lib.hid HR.out.2⟩
    · obtain rfl : i = N := by omega
      have HS : Hid (wo k R = L) := Lib.hid (by rw [HL.out, List.take_of_length_le (by rw [← HN.out]; exact Nat.le_refl _)])
      go_wp2
      go_ret
      exact ⟨A1, c1, by rw [HS.out]; rfl, by rw [HS.out]; exact HO.out, HB.out⟩
end Go.Proofs.YtaoneiicoaiehaaGreat.Fx11
