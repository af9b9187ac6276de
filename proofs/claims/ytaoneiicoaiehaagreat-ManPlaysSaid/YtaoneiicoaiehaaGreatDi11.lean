/- The contract of the document's Read. -/
import Derived.Test.YtaoneiicoaiehaaGreatDg11
namespace Go.Proofs.YtaoneiicoaiehaaGreat.Di11
open Go Go.RowKit Go.Lib Go.Proofs.YtaoneiicoaiehaaGreat Go.Proofs.YtaoneiicoaiehaaGreat.Dh Go.Proofs.YtaoneiicoaiehaaGreat.Dk Go.Proofs.YtaoneiicoaiehaaGreat.Fm Go.Proofs.YtaoneiicoaiehaaGreat.Nm Go.Proofs.YtaoneiicoaiehaaGreat.St Go.Proofs.YtaoneiicoaiehaaGreat.Sy Go.Proofs.YtaoneiicoaiehaaGreat.Ol11 Go.Proofs.YtaoneiicoaiehaaGreat.Fr11 Go.Proofs.YtaoneiicoaiehaaGreat.Fq11 Go.Proofs.YtaoneiicoaiehaaGreat.Ck11 Go.Proofs.YtaoneiicoaiehaaGreat.Fz11 Go.Proofs.YtaoneiicoaiehaaGreat.Fw11 Go.Proofs.YtaoneiicoaiehaaGreat.Fx11 Go.Proofs.YtaoneiicoaiehaaGreat.Fy11 Go.Proofs.YtaoneiicoaiehaaGreat.Ap11 Go.Proofs.YtaoneiicoaiehaaGreat.Kp11 Go.Proofs.YtaoneiicoaiehaaGreat.Sv11 Go.Proofs.YtaoneiicoaiehaaGreat.Da11 Go.Proofs.YtaoneiicoaiehaaGreat.Db11 Go.Proofs.YtaoneiicoaiehaaGreat.Dc11 Go.Proofs.YtaoneiicoaiehaaGreat.Dd11 Go.Proofs.YtaoneiicoaiehaaGreat.De11 Go.Proofs.YtaoneiicoaiehaaGreat.Df11 Go.Proofs.YtaoneiicoaiehaaGreat.Dg11
theorem bs_nil : Fl7.bs [] = ⟨#[]⟩ := rfl
set_option maxRecDepth 100000 in
set_option maxHeartbeats 8000000 in
theorem read_any {w : World} {Q : Nat → Prop} {q : Nat} {D : St} (h : RefAt w Q q D) {k : ByteArray} (hk : Nm2 k) :
    Calls Tryz.prog 44 #[.pointer (some ⟨q, 0, none⟩), .string k, .int .i64 0, .int .i64 16777216] w fun e w' => e = .returned (.tuple #[.string (Fl7.bs (stRead D k 0 16777216).1), .int .i64 (stRead D k 0 16777216).2]) ∧ w' = w := by
  obtain ⟨A, R, cp, hrf, hl, hn⟩ := now_of h
  have hgood : St.Good D := by obtain ⟨_, _, _, _, _, _, _, h⟩ := h; exact h.good
  have hnw := hn w (Below.refl _ _)
  have c5 := hnw.c5
  have c0 := hnw.c0
  have hu := Nat.le_trans (txt_le k D.now) hgood.now
  cases hst : D.still with
  | true =>
    have HR : Hid (stRead D k 0 16777216 = ([], 20)) := Lib.hid (by unfold stRead; rw [hst, if_pos rfl])
    rw [HR.out]
    rw [hst] at c5
    clear h hn hnw hst hrf
    go_enter Tryz.func44, Tryz.ntmps44
    go_wp2
    go_ret2
    exact ⟨rfl, rfl⟩
  | false =>
    rw [hst] at c5
    have HNM := Lib.hid (name_any hk.ok w)
    have HF := find_val (c := cp) hnw.rd (by omega) k
    have HT := text_any (c := cp) hnw.rd (by omega) k
    obtain ⟨J, hJ⟩ := found_is R k
    rw [hJ] at HF
    have hlook : (Fr11.look k R).isSome = (Fm.get D.now k).isSome := by rw [hrf.look]; cases Fm.get D.now k <;> rfl
    rw [hlook] at HF
    rw [hrf.text k] at HT
    have hok := hk.ok
    cases hg : Fm.get D.now k with
    | none =>
      have HR : Hid (stRead D k 0 16777216 = ([], 3)) := Lib.hid (by unfold stRead; rw [hst, hok, if_neg (by decide), if_neg (by decide), if_neg (by omega), hg])
      rw [HR.out]
      rw [hg] at HF
      have HF2 := Lib.hid HF
      clear h hn hnw hst hrf HF HT hJ hlook hg hok
      go_enter Tryz.func44, Tryz.ntmps44
      go_wp2_with (first | (go_at_call 72; refine HNM.out.mono ?_; rintro e w1 ⟨rfl, rfl⟩) | (go_at_call 73; refine HF2.out.mono ?_; rintro e w1 ⟨rfl, rfl⟩))
      go_ret2
      exact ⟨rfl, rfl⟩
    | some t =>
      have htx : txt D.now k = t := by unfold txt; rw [hg]; rfl
      rw [htx] at hu HT
      have HR : Hid (stRead D k 0 16777216 = (t, 0)) := Lib.hid (by
        unfold stRead
        rw [hst, hok, if_neg (by decide), if_neg (by decide), if_neg (by omega), hg]
        show ((t.drop 0).take 16777216, (0 : Int)) = _
        rw [List.drop_zero, List.take_of_length_le hu])
      rw [HR.out]
      rw [hg] at HF
      obtain ⟨S, hS⟩ : ∃ S, S = Fl7.bs t := ⟨_, rfl⟩
      have hsz : S.size ≤ 16777216 := by rw [hS, Fl7.bs_size]; exact hu
      rw [← hS] at HT ⊢
      have HF2 := Lib.hid HF
      have HT2 := Lib.hid HT
      have hm1 : min (0 : Int) (S.size : Int) = 0 := by omega
      have hm2 : min (16777216 : Int) (S.size : Int) = (S.size : Int) := by omega
      have hx : S.extract 0 S.size = S := ByteArray.extract_zero_size
      clear h hn hnw hst hrf HF HT hJ hlook hg hok htx hS hu
      go_enter Tryz.func44, Tryz.ntmps44
      go_wp2_with (first | (go_at_call 72; refine HNM.out.mono ?_; rintro e w1 ⟨rfl, rfl⟩) | (go_at_call 73; refine HF2.out.mono ?_; rintro e w1 ⟨rfl, rfl⟩) | (go_at_call 74; refine HT2.out.mono ?_; rintro e w1 ⟨rfl, rfl⟩))
      go_ret2
      exact ⟨rfl, rfl⟩
end Go.Proofs.YtaoneiicoaiehaaGreat.Di11
