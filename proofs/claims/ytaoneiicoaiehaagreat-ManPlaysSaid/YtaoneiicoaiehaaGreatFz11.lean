/- The document's rows of files as they lie; the contracts of its find and text. -/
import Derived.Test.YtaoneiicoaiehaaGreatFq11
import Derived.Test.YtaoneiicoaiehaaGreatCk11
import Derived.Deep.LoopGhost
namespace Go.Proofs.YtaoneiicoaiehaaGreat.Fz11
open Go Go.RowKit Go.Lib Go.Proofs.YtaoneiicoaiehaaGreat Go.Proofs.YtaoneiicoaiehaaGreat.Dh Go.Proofs.YtaoneiicoaiehaaGreat.Ol11 Go.Proofs.YtaoneiicoaiehaaGreat.Fr11 Go.Proofs.YtaoneiicoaiehaaGreat.Fq11 Go.Proofs.YtaoneiicoaiehaaGreat.Ck11
/-- The slice at A reads as these files. -/
def RdF (w : World) (A : Option Addr) (R : List Fl) : Prop := R ≠ [] → ∃ b o, A = some ⟨b, o, none⟩ ∧ b < w.heap.size ∧ ∀ k (h : k < R.length), w.cell? ⟨b, o + k * 2, none⟩ = some (.string R[k].1) ∧ w.cell? ⟨b, o + k * 2 + 1, none⟩ = some (.string R[k].2)
theorem RdF.nil (w : World) (A : Option Addr) : RdF w A [] := fun h => absurd rfl h
theorem RdF.keep {B : Nat} {w w' : World} {A : Option Addr} {R : List Fl} (h : RdF w A R) (hB : w.heap.size ≤ B) (hb : Below B w w') : RdF w' A R := fun hl => by
  obtain ⟨b, o, rfl, hlt, hc⟩ := h hl
  exact ⟨b, o, rfl, by have := hb.size; omega, fun k hk => ⟨(hb.cell (p := ⟨b, o + k * 2, none⟩) (by show b < B; omega)).trans (hc k hk).1, (hb.cell (p := ⟨b, o + k * 2 + 1, none⟩) (by show b < B; omega)).trans (hc k hk).2⟩⟩
theorem RdF.at_ {w : World} {A : Option Addr} {R : List Fl} (h : RdF w A R) {k : Nat} (hk : k < R.length) : ∃ b o, A = some ⟨b, o, none⟩ ∧ b < w.heap.size ∧ w.cell? ⟨b, o + k * 2, none⟩ = some (.string R[k].1) ∧ w.cell? ⟨b, o + k * 2 + 1, none⟩ = some (.string R[k].2) := by
  obtain ⟨b, o, e, hb, hc⟩ := h (fun h0 => by rw [h0] at hk; simp at hk)
  exact ⟨b, o, e, hb, hc k hk⟩
theorem look_take (k : ByteArray) : ∀ (R : List Fl) (i : Nat) (h : i < R.length), (∀ j (hj : j < R.length), j < i → R[j].1 ≠ k) → R[i].1 = k → Fr11.look k R = some R[i].2
  | q :: R, 0, _, _, e => by
    have e' : q.1 = k := e
    rw [Fr11.look, if_pos e']; rfl
  | q :: R, i + 1, h, hn, e => by
    have h0 : q.1 ≠ k := hn 0 (by simp) (by omega)
    rw [Fr11.look, if_neg h0]
    exact look_take k R i (by simpa using h) (fun j hj hji => hn (j + 1) (by simpa using hj) (by omega)) e
/-- What find answers. -/
def Finds (R : List Fl) (k : ByteArray) (e : Ending) : Prop :=
  (e = .returned (.tuple #[.int .i64 0, .bool false]) ∧ Fr11.look k R = none) ∨ (∃ (i : Nat) (h : i < R.length), e = .returned (.tuple #[.int .i64 (i : Int), .bool true]) ∧ Fr11.look k R = some R[i].2)
set_option maxHeartbeats 4000000 in
set_option maxRecDepth 100000 in
theorem find_any {w : World} {A : Option Addr} {c : Nat} {R : List Fl} (h : RdF w A R) (hl : R.length ≤ 1000000) (k : ByteArray) :
    Calls Tryz.prog 73 #[.slice A R.length c, .string k] w fun e w' => Finds R k e ∧ w' = w := by
  have H := Lib.hid h
  clear h
  go_enter Tryz.func73, Tryz.ntmps73
  go_wp2_with fail
  go_loopg [6] (R.length + 1) (fun g1 vi wr => ∃ i : Nat, vi = .int .i64 (i : Int) ∧ i ≤ R.length ∧ R.length + 1 - i ≤ g1 ∧ Hid (∀ j (hj : j < R.length), j < i → R[j].1 ≠ k) ∧ wr = w)
  case atStart => exact ⟨0, rfl, by omega, by omega, Lib.hid (fun j _ hj => by omega), rfl⟩
  case round =>
    obtain ⟨i, rfl, hi, hg1, HN, rfl⟩ := hrel
    by_cases hil : i < R.length
    · obtain ⟨b, o, rfl, _, c0, _⟩ := H.out.at_ hil
      have hzi : (i : Int) < (R.length : Int) := by omega
      by_cases e : R[i].1 = k
      · have HL := Lib.hid (look_take k R i hil HN.out e)
        rw [e] at c0
        go_wp2
        go_ret2
        exact ⟨.inr ⟨i, hil, rfl, HL.out⟩, rfl⟩
      · have HN2 : Hid (∀ j (hj : j < R.length), j < i + 1 → R[j].1 ≠ k) := Lib.hid fun j hj hji => by
          rcases Nat.lt_or_ge j i with h | h
          · exact HN.out j hj h
          · obtain rfl : j = i := by omega
            exact e
        have hb : (R[i].1.toList == k.toList) = false := beq_eq_false_iff_ne.2 fun h => e (bytes_ext h)
        generalize R[i].1 = x at c0 hb
        clear e
        go_wp2
        go_roundg (R.length - i)
        case measure => omega
        case rel => exact ⟨i + 1, by go_num, by omega, by omega, HN2, rfl⟩
    · obtain rfl : i = R.length := by omega
      have HL : Hid (Fr11.look k R = none) := Lib.hid (look_none fun q hq => by
        obtain ⟨j, hj, rfl⟩ := List.getElem_of_mem hq
        exact HN.out j hj hj)
      go_wp2
      go_ret2
      exact ⟨.inl ⟨rfl, HL.out⟩, rfl⟩
set_option maxRecDepth 100000 in
theorem text_any {w : World} {A : Option Addr} {c : Nat} {R : List Fl} (h : RdF w A R) (hl : R.length ≤ 1000000) (k : ByteArray) :
    Calls Tryz.prog 74 #[.slice A R.length c, .string k] w fun e w' => e = .returned (.string (textR R k)) ∧ w' = w := by
  have HF := Lib.hid (find_any (c := c) h hl k)
  have H := Lib.hid h
  clear h
  go_enter Tryz.func74, Tryz.ntmps74
  go_wp2_with fail
  refine HF.out.mono ?_
  rintro e w1 ⟨hf, rfl⟩
  rcases hf with ⟨rfl, hn⟩ | ⟨i, hi, rfl, hs⟩
  · have HE : Hid (textR R k = ⟨#[]⟩) := Lib.hid (by unfold textR; rw [hn]; rfl)
    clear hn
    go_wp2
    go_ret
    exact ⟨by rw [HE.out]; rfl, rfl⟩
  · have HE : Hid (textR R k = R[i].2) := Lib.hid (by unfold textR; rw [hs]; rfl)
    obtain ⟨b, o, rfl, _, _, c1⟩ := H.out.at_ hi
    have hzi : (i : Int) < (R.length : Int) := by omega
    generalize R[i].2 = x at c1 HE
    clear hs
    go_wp2
    go_ret
    exact ⟨by rw [HE.out]; rfl, rfl⟩
end Go.Proofs.YtaoneiicoaiehaaGreat.Fz11
