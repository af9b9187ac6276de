/- The contract of the law's own Same, over two rows of one content. -/
import Derived.Test.YtjnkennlncdlgaaHs
namespace Go.Proofs.Ytjnkennlncdlgaa.Sm
open Go Go.RowKit Go.Lib
/-- The cells of a row of files. -/
def cellsF : List (ByteArray × ByteArray) → List Value
  | [] => []
  | f :: l => .string f.1 :: .string f.2 :: cellsF l
theorem cellsF_len : ∀ l, (cellsF l).length = l.length * 2
  | [] => rfl
  | f :: l => by simp [cellsF, cellsF_len l]; omega
theorem cellsF_snoc (f : ByteArray × ByteArray) : ∀ l, cellsF (l ++ [f]) = cellsF l ++ [.string f.1, .string f.2]
  | [] => rfl
  | g :: l => by simp [cellsF, cellsF_snoc f l]
theorem cellsF_at : ∀ (l : List (ByteArray × ByteArray)) (k : Nat) (h : k < l.length), (cellsF l)[k * 2]? = some (.string l[k].1) ∧ (cellsF l)[k * 2 + 1]? = some (.string l[k].2)
  | [], k, h => by simp at h
  | f :: l, 0, _ => ⟨rfl, rfl⟩
  | f :: l, k + 1, h => by
    have := cellsF_at l k (by simpa using h)
    have e : (k + 1) * 2 = k * 2 + 1 + 1 := by omega
    rw [e]
    simpa [cellsF] using this
theorem own_shape {w : World} {B e s : Nat} {v : Value} {n : Nat} {xs : List Value} (h : w.ownsRow B e s v n xs) :
    ∃ ao cap, v = .slice ao n cap ∧ (0 < n → ∃ g, ao = some ⟨g, 0, none⟩ ∧ v.ownBlock = some g) := by
  rcases h.2 with ⟨rfl, rfl⟩ | ⟨g, cap, cur, rfl, _, _, _, _, _, _⟩
  · exact ⟨none, 0, rfl, fun h => absurd h (by omega)⟩
  · exact ⟨some ⟨g, 0, none⟩, cap, rfl, fun _ => ⟨g, rfl, rfl⟩⟩
theorem own_cell {w : World} {B e s : Nat} {v : Value} {n : Nat} {xs : List Value} (h : w.ownsRow B e s v n xs) {g : Nat} (hg : v.ownBlock = some g) (j : Nat) (u : Value) (hj : xs[j]? = some u) : w.cell? ⟨g, j, none⟩ = some u := by
  have := h.cells hg j u hj
  rwa [show (⟨g, 0, none⟩ : Addr).add j = ⟨g, j, none⟩ by unfold Addr.add; split <;> simp_all] at this
set_option maxRecDepth 20000 in
set_option maxHeartbeats 2000000 in
theorem same_rows (w : World) {B1 B2 : Nat} {v1 v2 : Value} (l : List (ByteArray × ByteArray)) (h1 : w.ownsRow B1 69 2 v1 l.length (cellsF l)) (h2 : w.ownsRow B2 69 2 v2 l.length (cellsF l)) (hl : l.length ≤ 1048576) :
    Calls Try.prog 15 #[v1, v2] w fun e w' => e = .returned (.bool true) ∧ ∃ n, w' = w.drewN n := by
  obtain ⟨a1, c1, e1, s1⟩ := own_shape h1
  obtain ⟨a2, c2, e2, s2⟩ := own_shape h2
  have HC : Hid (∀ k (hk : k < l.length), ∃ g1 g2, a1 = some ⟨g1, 0, none⟩ ∧ a2 = some ⟨g2, 0, none⟩ ∧ w.cell? ⟨g1, k * 2, none⟩ = some (.string l[k].1) ∧ w.cell? ⟨g1, k * 2 + 1, none⟩ = some (.string l[k].2) ∧ w.cell? ⟨g2, k * 2, none⟩ = some (.string l[k].1) ∧ w.cell? ⟨g2, k * 2 + 1, none⟩ = some (.string l[k].2)) := Lib.hid fun k hk => by
    obtain ⟨g1, q1, o1⟩ := s1 (by omega)
    obtain ⟨g2, q2, o2⟩ := s2 (by omega)
    obtain ⟨x1, x2⟩ := cellsF_at l k hk
    exact ⟨g1, g2, q1, q2, own_cell h1 o1 _ _ x1, own_cell h1 o1 _ _ x2, own_cell h2 o2 _ _ x1, own_cell h2 o2 _ _ x2⟩
  subst e1 e2
  clear h1 h2 s1 s2
  go_enter Try.func15, Try.ntmps15
  go_wp2
  go_loopw [5, 11, 12, 13, 14, 15, 16, 17, 18, 19, 20, 21, 22, 23, 24, 25] (fun i _ _ _ _ _ _ _ _ _ _ _ _ _ _ _ wr => ∃ k : Nat, k ≤ l.length ∧ i = .int .i64 k ∧ ∃ n, wr = w.drewN n) (fun i _ _ _ _ _ _ _ _ _ _ _ _ _ _ _ _ => l.length - (intOf i).toNat)
  case atStart => exact ⟨0, by omega, rfl, 0, rfl⟩
  case round =>
    obtain ⟨k, hk, rfl, n, rfl⟩ := hrel
    by_cases hlt : k < l.length
    · obtain ⟨g1, g2, rfl, rfl, d1, d2, d3, d4⟩ := HC.out k hlt
      obtain ⟨x, hx⟩ : ∃ x, x = l[k].1 := ⟨_, rfl⟩
      obtain ⟨y, hy⟩ : ∃ y, y = l[k].2 := ⟨_, rfl⟩
      rw [← hx] at d1 d3
      rw [← hy] at d2 d4
      clear hx hy
      go_wp2
      go_quiet (fail)
      go_wp2
      exact ⟨⟨k + 1, by omega, by go_num, _, rfl⟩, by simp [intOf]; omega⟩
    · have : k = l.length := by omega
      subst this
      go_wp2
      go_ret
      exact ⟨rfl, n, rfl⟩
end Go.Proofs.Ytjnkennlncdlgaa.Sm
