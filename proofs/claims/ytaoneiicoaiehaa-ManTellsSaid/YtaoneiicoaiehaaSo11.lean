/- slices.Sort of a row of 64-bit numbers of the call's own. -/
import Derived.Test.YtaoneiicoaiehaaSd11
import Derived.Test.YtaoneiicoaiehaaMa11
namespace Go.Proofs.Ytaoneiicoaiehaa.So11
open Go Go.RowKit Go.Lib Go.Sort Go.Proofs.Ytaoneiicoaiehaa.Dh Go.Proofs.Ytaoneiicoaiehaa.Sx11 Go.Proofs.Ytaoneiicoaiehaa.Ln11 Go.Proofs.Ytaoneiicoaiehaa.Sd11 Go.Proofs.Ytaoneiicoaiehaa.Nu11 Go.Proofs.Ytaoneiicoaiehaa.Ma11
def arr (l : List Nat) : Array Int := (l.map fun n : Nat => (n : Int)).toArray
theorem arr_size (l : List Nat) : (arr l).size = l.length := by simp [arr]
theorem arr_get (l : List Nat) (k : Nat) (h : k < l.length) : (arr l)[k]! = (l[k] : Int) := by
  rw [getElem!_pos _ k (by rw [arr_size]; exact h)]
  simp [arr]
theorem back {l : List Nat} {d : Array Int} (hp : PermIn 0 l.length (arr l) d) (hs : SortedIn ltInt 0 l.length d) :
    ∃ l' : List Nat, l'.Perm l ∧ Asc l' ∧ d = arr l' := by
  have hsz : d.size = l.length := by rw [hp.1, arr_size]
  have h1 : d.toList.Perm (l.map fun n : Nat => (n : Int)) := by
    have h := hp.2.2
    rw [show d.extract 0 l.length = d from by rw [← hsz]; simp, show (arr l).extract 0 l.length = arr l from by rw [← arr_size l]; simp] at h
    exact h
  refine ⟨d.toList.map Int.toNat, ?_, ?_, ?_⟩
  · have h := h1.map Int.toNat
    rw [List.map_map] at h
    have e : (Int.toNat ∘ fun n : Nat => (n : Int)) = id := by funext n; simp
    rwa [e, List.map_id] at h
  · intro i j hj hij
    have hj' : j < d.size := by simpa using hj
    have h := hs i j (Nat.zero_le _) hij (by omega)
    rw [getElem!_pos _ i (by omega), getElem!_pos _ j hj'] at h
    have h' : ¬ d[j] < d[i] := of_decide_eq_false h
    simp only [List.getElem_map, Array.getElem_toList]
    omega
  · apply Array.ext
    · rw [arr_size]; simp
    · intro k hk1 hk2
      have hm : d[k] ∈ l.map fun n : Nat => (n : Int) := h1.mem_iff.1 (by simp)
      obtain ⟨n, _, hn⟩ := List.mem_map.1 hm
      have e := arr_get (d.toList.map Int.toNat) k (by simpa using hk1)
      rw [getElem!_pos _ k hk2] at e
      rw [e]
      simp only [List.getElem_map, Array.getElem_toList]
      omega
set_option maxHeartbeats 4000000 in
set_option maxRecDepth 100000 in
theorem sort_any {w : World} {B : Nat} {l : List Nat} {v : Value} (h : Own B l v w) (hne : l ≠ []) (hlen : l.length ≤ 1099511627776) :
    ∃ A c, v = .slice A l.length c ∧ Calls Try.prog 21 #[v] w fun e w' => e = .returned (.tuple #[]) ∧ ∃ l' : List Nat, l'.Perm l ∧ Asc l' ∧ Nums w' A l' ∧ Below B w w' := by
  rcases h.shape with ⟨_, h0⟩ | ⟨g, c, rfl, hB, hlt, hc⟩
  · exact absurd h0 hne
  · refine ⟨_, c, rfl, ?_⟩
    have hS : Srt w w g 0 (arr l) := ⟨Tread.refl _ _, hlt, fun t ht => by
      rw [arr_size] at ht
      rw [Nat.zero_add, arr_get l t ht]
      exact hc t ht⟩
    have hp := fun W (hW : Srt w W g 0 (arr l)) (lim : Nat) (hl : lim ≤ 100) => pdq_any c (arr l).size 0 l.length lim (by rw [arr_size]; exact Nat.le_refl _) hW (Nat.zero_le _) (by rw [arr_size]; exact Nat.le_refl _) hl (by rw [arr_size]; omega) (.inl rfl)
    simp only [arr_size] at hp
    have hL := len_any l.length (by omega) w
    have hb : bitsLen l.length ≤ 62 := (bitsLen_le_iff l.length 62).2 (by omega)
    have HP := Lib.hid (hp w hS (bitsLen l.length) (by omega))
    have HL := Lib.hid hL
    have HB := Lib.hid hB
    clear hp hL hc h hS
    obtain ⟨m, hm⟩ : ∃ m, m = bitsLen l.length := ⟨_, rfl⟩
    rw [← hm] at HP HL
    clear hm hb
    go_enter Try.func21, Try.ntmps21
    go_wp2_with fail
    refine HL.out.mono ?_
    rintro e w1 ⟨rfl, rfl⟩
    go_wp2_with fail
    refine HP.out.mono ?_
    rintro e w2 ⟨rfl, d', hd1, hd2, hd3⟩
    obtain ⟨l', h1, h2, rfl⟩ := back hd1 hd2
    have H1 := Lib.hid h1
    have H2 := Lib.hid h2
    have H3 := Lib.hid hd3
    clear hd1 hd2 hd3 h1 h2
    go_wp2
    go_end0
    have hln := H1.out.length_eq
    refine ⟨rfl, l', H1.out, H2.out, fun _ => ⟨g, 0, rfl, H3.out.lt, fun k hk => ?_⟩, ⟨H3.out.tread.os, H3.out.tread.tape, H3.out.tread.output, H3.out.tread.size, fun k hk => H3.out.tread.block k (by omega) (by have := HB.out; omega)⟩⟩
    have h := (H3.out.row k (by rw [arr_size]; exact hk)).1
    rw [arr_get l' k hk] at h
    exact h
end Go.Proofs.Ytaoneiicoaiehaa.So11
