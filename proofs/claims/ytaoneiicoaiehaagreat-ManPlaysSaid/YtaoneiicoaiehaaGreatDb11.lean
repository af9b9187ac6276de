/- The contracts of the document's Name, Used, may. -/
import Derived.Test.YtaoneiicoaiehaaGreatDa11
import Derived.Deep.LoopGhost
namespace Go.Proofs.YtaoneiicoaiehaaGreat.Db11
open Go Go.RowKit Go.Lib Go.Proofs.YtaoneiicoaiehaaGreat Go.Proofs.YtaoneiicoaiehaaGreat.Dh Go.Proofs.YtaoneiicoaiehaaGreat.Dk Go.Proofs.YtaoneiicoaiehaaGreat.Fm Go.Proofs.YtaoneiicoaiehaaGreat.Nm Go.Proofs.YtaoneiicoaiehaaGreat.St Go.Proofs.YtaoneiicoaiehaaGreat.Sy Go.Proofs.YtaoneiicoaiehaaGreat.Ol11 Go.Proofs.YtaoneiicoaiehaaGreat.Fr11 Go.Proofs.YtaoneiicoaiehaaGreat.Fq11 Go.Proofs.YtaoneiicoaiehaaGreat.Ck11 Go.Proofs.YtaoneiicoaiehaaGreat.Fz11 Go.Proofs.YtaoneiicoaiehaaGreat.Fw11 Go.Proofs.YtaoneiicoaiehaaGreat.Ap11 Go.Proofs.YtaoneiicoaiehaaGreat.Kp11 Go.Proofs.YtaoneiicoaiehaaGreat.Sv11 Go.Proofs.YtaoneiicoaiehaaGreat.Da11
/-- Where a file stands. -/
def place (k : ByteArray) : List Fl → Nat
  | [] => 0
  | q :: l => if q.1 = k then 0 else place k l + 1
/-- What find answers, as a value. -/
def foundV (R : List Fl) (k : ByteArray) : Value := .tuple #[.int .i64 ((if (Fr11.look k R).isSome then place k R else 0 : Nat) : Int), .bool (Fr11.look k R).isSome]
theorem place_take (k : ByteArray) : ∀ (R : List Fl) (i : Nat) (h : i < R.length), (∀ j (hj : j < R.length), j < i → R[j].1 ≠ k) → R[i].1 = k → place k R = i
  | q :: R, 0, _, _, e => by
    have e' : q.1 = k := e
    rw [place, if_pos e']
  | q :: R, i + 1, h, hn, e => by
    have h0 : q.1 ≠ k := hn 0 (by simp) (by omega)
    rw [place, if_neg h0, place_take k R i (by simpa using h) (fun j hj hji => hn (j + 1) (by simpa using hj) (by omega)) e]
theorem found_at (k : ByteArray) (R : List Fl) (i : Nat) (h : i < R.length) (hn : ∀ j (hj : j < R.length), j < i → R[j].1 ≠ k) (e : R[i].1 = k) : foundV R k = .tuple #[.int .i64 (i : Int), .bool true] := by
  unfold foundV
  rw [look_take k R i h hn e, place_take k R i h hn e]; rfl
set_option maxHeartbeats 4000000 in
set_option maxRecDepth 100000 in
theorem find_val {w : World} {A : Option Addr} {c : Nat} {R : List Fl} (h : RdF w A R) (hl : R.length ≤ 1000000) (k : ByteArray) :
    Calls Tryz.prog 73 #[.slice A R.length c, .string k] w fun e w' => e = .returned (foundV R k) ∧ w' = w := by
  have H := Lib.hid h
  clear h
  go_enter Tryz.func73, Tryz.ntmps73
  go_wp2_with fail
  go_loopg [6] (R.length + 1) (fun g1 vi wr => ∃ i : Nat, vi = .int .i64 (i : Int) ∧ i ≤ R.length ∧ R.length + 1 - i ≤ g1 ∧ Hid (∀ j (hj : j < R.length), j < i → R[j].1 ≠ k) ∧ wr = w)
  case atStart => exact ⟨0, rfl, by omega, by omega, Lib.hid (fun j _ hj => by omega), rfl⟩
  case round =>
    obtain ⟨i, rfl, hi, hg1, HN, rfl⟩ := hrel
    by_cases hil : i < R.length
    · obtain ⟨b, o, rfl, _, c0, _⟩ := H.out.at_ hil
      have hzi : (i : Int) < (R.length : Int) := by omega
      by_cases e : R[i].1 = k
      · have HL := Lib.hid (found_at k R i hil HN.out e)
        rw [e] at c0
        go_wp2
        go_ret2
        exact ⟨by rw [HL.out]; rfl, rfl⟩
      · have HN2 : Hid (∀ j (hj : j < R.length), j < i + 1 → R[j].1 ≠ k) := Lib.hid fun j hj hji => by
          rcases Nat.lt_or_ge j i with h | h
          · exact HN.out j hj h
          · obtain rfl : j = i := by omega
            exact e
        have hb : (R[i].1.toList == k.toList) = false := beq_eq_false_iff_ne.2 fun h => e (bytes_ext h)
        generalize R[i].1 = x at c0 hb
        clear e
        go_wp2
        go_roundg (R.length - i)
        case measure => omega
        case rel => exact ⟨i + 1, by go_num, by omega, by omega, HN2, rfl⟩
    · obtain rfl : i = R.length := by omega
      have hnone : Fr11.look k R = none := look_none fun q hq => (by
        obtain ⟨j, hj, rfl⟩ := List.getElem_of_mem hq
        exact HN.out j hj hj)
      have HL : Hid (foundV R k = .tuple #[.int .i64 0, .bool false]) := Lib.hid (by unfold foundV; rw [hnone]; rfl)
      clear hnone
      go_wp2
      go_ret2
      exact ⟨by rw [HL.out]; rfl, rfl⟩
set_option maxRecDepth 100000 in
set_option maxHeartbeats 4000000 in
theorem name_any {s : ByteArray} (h : nameOk s = true) (w : World) :
    Calls Tryz.prog 72 #[.string s] w fun e w' => e = .returned (.bool true) ∧ w' = w := by
  have h1 : 1 ≤ s.size ∧ s.size ≤ 64 ∧ s.data.toList.all (fun b => okByte b.toNat) = true := by
    unfold nameOk at h
    simp only [Bool.and_eq_true, decide_eq_true_eq] at h
    exact ⟨h.1.1, h.1.2, h.2⟩
  obtain ⟨hs1, hs2, hall⟩ := h1
  have HT : Hid (∀ k (hk : k < s.size), okByte (s[k]'hk).toNat = true) := Lib.hid fun k hk => by
    refine List.all_eq_true.1 hall _ ?_
    have e : s[k]'hk = s.data.toList[k]'(by simpa using hk) := rfl
    rw [e]; exact List.getElem_mem _
  clear h hall
  go_enter Tryz.func72, Tryz.ntmps72
  go_wp2
  go_loopg [3] (s.size + 1) (fun g1 vi wr => ∃ i : Nat, vi = .int .i64 (i : Int) ∧ i ≤ s.size ∧ s.size + 1 - i ≤ g1 ∧ wr = w)
  case atStart => exact ⟨0, rfl, by omega, by omega, rfl⟩
  case round =>
    obtain ⟨i, rfl, hi, hg1, rfl⟩ := hrel
    by_cases hlt : i < s.size
    · have hok := HT.out i hlt
      unfold okByte at hok
      by_cases h1 : 97 ≤ (s[i]'hlt).toNat
      · by_cases h2 : (s[i]'hlt).toNat ≤ 122
        · clear hok
          go_wp2
          go_roundg (s.size - i)
          case measure => omega
          case rel => exact ⟨i + 1, by go_num, by omega, by omega, rfl⟩
        · exact absurd hok (by simp; omega)
      · by_cases h3 : 48 ≤ (s[i]'hlt).toNat
        · by_cases h4 : (s[i]'hlt).toNat ≤ 57
          · clear hok
            go_wp2
            go_roundg (s.size - i)
            case measure => omega
            case rel => exact ⟨i + 1, by go_num, by omega, by omega, rfl⟩
          · exact absurd hok (by simp; omega)
        · by_cases h5 : (s[i]'hlt).toNat = 46
          · have e5 : (((s[i]'hlt).toNat : Int) == 46) = true := by simp [h5]
            clear hok h5
            go_wp2
            go_roundg (s.size - i)
            case measure => omega
            case rel => exact ⟨i + 1, by go_num, by omega, by omega, rfl⟩
          · have h6 : (s[i]'hlt).toNat = 45 := by simp at hok; omega
            have e5 : (((s[i]'hlt).toNat : Int) == 46) = false := by simp [h6]
            have e6 : (((s[i]'hlt).toNat : Int) == 45) = true := by simp [h6]
            clear hok h5 h6
            go_wp2
            go_roundg (s.size - i)
            case measure => omega
            case rel => exact ⟨i + 1, by go_num, by omega, by omega, rfl⟩
    · obtain rfl : i = s.size := by omega
      go_wp2
      go_ret
      exact ⟨congrArg (fun b => Ending.returned (Value.bool b)) (decide_eq_true (by omega)), rfl⟩
theorem sumF_snoc (q : Fl) : ∀ l : List Fl, sumF (l ++ [q]) = sumF l + q.2.size
  | [] => by show q.2.size + 0 = 0 + q.2.size; omega
  | p :: l => by
    have ih := sumF_snoc q l
    show p.2.size + sumF (l ++ [q]) = p.2.size + sumF l + q.2.size
    omega
theorem sumF_take (R : List Fl) (i : Nat) (h : i < R.length) : sumF (R.take (i + 1)) = sumF (R.take i) + R[i].2.size := by
  rw [List.take_succ_eq_append_getElem h, sumF_snoc]
theorem sumF_le (R : List Fl) : ∀ i : Nat, sumF (R.take i) ≤ sumF R := by
  induction R with
  | nil => intro i; rw [List.take_nil]; exact Nat.le_refl _
  | cons p R ih =>
    intro i
    cases i with
    | zero => exact Nat.zero_le _
    | succ i =>
      have := ih i
      show p.2.size + sumF (R.take i) ≤ p.2.size + sumF R
      omega
set_option maxRecDepth 100000 in
set_option maxHeartbeats 4000000 in
theorem used_any {w : World} {Q : Nat → Prop} {q : Nat} {D : St} (h : RefAt w Q q D) :
    Calls Tryz.prog 10 #[.pointer (some ⟨q, 0, none⟩)] w fun e w' => e = .returned (.int .i64 (used D.now)) ∧ w' = w := by
  obtain ⟨R, R', A, A', c, c', v, h⟩ := h
  have c0 : w.cell? ⟨q, 0, none⟩ = some (.slice A R.length c) := by rw [cell_of h.blk.2]; rfl
  have hl := Da11.RF.len h.rnow h.fit.now
  have hsum := h.rnow.sum
  have hu := h.good.now
  have HR := Lib.hid h.now.rd
  have HS : Hid (sumF (R.take R.length) = used D.now) := Lib.hid (by rw [List.take_length]; exact hsum)
  have HL : Hid (∀ i, sumF (R.take i) ≤ 16777216) := Lib.hid fun i => by have := sumF_le R i; omega
  clear h hsum hu
  go_enter Tryz.func10, Tryz.ntmps10
  go_wp2
  go_loopg [3, 4] (R.length + 1) (fun g1 vn vi wr => ∃ i : Nat, vn = .int .i64 (sumF (R.take i) : Int) ∧ vi = .int .i64 (i : Int) ∧ i ≤ R.length ∧ R.length + 1 - i ≤ g1 ∧ wr = w)
  case atStart => exact ⟨0, rfl, rfl, by omega, by omega, rfl⟩
  case round =>
    obtain ⟨i, rfl, rfl, hi, hg1, rfl⟩ := hrel
    by_cases hil : i < R.length
    · obtain ⟨b, o, rfl, -, -, c1⟩ := HR.out.at_ hil
      have hzi : (i : Int) < (R.length : Int) := by omega
      have hT := sumF_take R i hil
      have hm := HL.out (i + 1)
      rw [hT] at hm
      obtain ⟨x, hx⟩ : ∃ x, x = R[i].2 := ⟨_, rfl⟩
      rw [← hx] at c1 hT hm
      obtain ⟨N, hN⟩ : ∃ N, N = sumF (R.take i) := ⟨_, rfl⟩
      rw [← hN] at hT hm ⊢
      have HT := Lib.hid hT
      clear hT hx hN
      go_wp2
      go_roundg (R.length - i)
      case measure => omega
      case rel => exact ⟨i + 1, by rw [HT.out]; go_num, by go_num, by omega, by omega, rfl⟩
    · obtain rfl : i = R.length := by omega
      go_wp2
      go_ret
      exact ⟨by rw [HS.out]; rfl, rfl⟩
end Go.Proofs.YtaoneiicoaiehaaGreat.Db11
