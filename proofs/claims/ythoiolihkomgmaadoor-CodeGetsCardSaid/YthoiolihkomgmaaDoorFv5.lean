/- utf8.FullRuneInString's contract, whole. -/
import Derived.Test.YthoiolihkomgmaaDoorFu5a
import Derived.Test.YthoiolihkomgmaaDoorFu5b
import Derived.Test.YthoiolihkomgmaaDoorFu5c
namespace Go.Proofs.YthoiolihkomgmaaDoor.Fv5
open Go Go.RowKit Go.Proofs Go.Proofs.YthoiolihkomgmaaDoor.Vs Go.Proofs.YthoiolihkomgmaaDoor.Cm Go.Proofs.YthoiolihkomgmaaDoor.Fu5
theorem firstT_lt (c : UInt8) : Lib.firstT c.toNat < 256 := by rcases Lib.firstT_cases c.toNat with h | h | h | h | h | h | h | h | h <;> omega
theorem dnat {a b : Nat} (r : Bool) (h : decide (a < b) = r) : decide ((a : Int) < (b : Int)) = r := by rw [← h]; simp
theorem full_any (l : List UInt8) (w : World) (hT : Tabs w) (hm : l.length ≤ 9223372036854775807) :
    Calls Tryd.prog 53 #[.string (bs l)] w fun e w' => e = .returned (.bool (l != [] && full l)) ∧ Below w.heap.size w w' := by
  by_cases h0 : l = []
  · subst h0
    exact (full_nil w).mono fun e w' ⟨a, b⟩ => ⟨a, b ▸ Below.refl _ _⟩
  have hp : 0 < l.length := List.length_pos_iff.2 h0
  have hl : (l != []) = true := by simp [h0]
  rw [hl, Bool.true_and]
  obtain ⟨x0, hx0⟩ : ∃ x0, l.getD 0 0 = x0 := ⟨_, rfl⟩
  have hb0 : ∀ h : 0 < (bs l).size, (bs l)[0]'h = x0 := fun h => by
    rw [← hx0]; simp [bs, ByteArray.getElem_eq_getElem_data, List.getD_eq_getElem?_getD, hp]
  by_cases hn : Lib.firstT x0.toNat % 8 ≤ l.length
  · have e : full l = true := by unfold full; rw [hx0, decide_eq_true hn]; rfl
    rw [e]
    exact (full_len x0 (by rw [bs_size]; exact hp) (hb0 _) hT (by rw [bs_size]; exact hn) (by rw [bs_size]; exact hm)).mono fun e w' ⟨a, b⟩ => ⟨a, b ▸ Below.refl _ _⟩
  obtain ⟨x1, hx1⟩ : ∃ x1, l.getD 1 0 = x1 := ⟨_, rfl⟩
  obtain ⟨x2, hx2⟩ : ∃ x2, l.getD 2 0 = x2 := ⟨_, rfl⟩
  have hb1 : ∀ h : 1 < (bs l).size, (bs l)[1]'h = x1 := fun h => by
    have : 1 < l.length := h
    rw [← hx1]; simp [bs, ByteArray.getElem_eq_getElem_data, List.getD_eq_getElem?_getD, this]
  have hb2 : ∀ h : 2 < (bs l).size, (bs l)[2]'h = x2 := fun h => by
    have : 2 < l.length := h
    rw [← hx2]; simp [bs, ByteArray.getElem_eq_getElem_data, List.getD_eq_getElem?_getD, this]
  have e : full l = sh l.length x1.toNat x2.toNat (Lib.accLo (Lib.firstT x0.toNat / 16)) (Lib.accHi (Lib.firstT x0.toNat / 16)) := by
    unfold full sh
    rw [hx0, hx1, hx2, decide_eq_false hn, Bool.false_or]
  rw [e]
  have hS : ∀ f n, Lib.firstT x0.toNat = f → l.length = n → Sh (bs l) n x0 x1 x2 f w := fun f n hf hn => ⟨hn, hn ▸ hp, hb0, hb1, hb2, hf ▸ Tabs.first hT x0, (Tabs.acc hT _ (by have := firstT_lt x0; omega)).1, (Tabs.acc hT _ (by have := firstT_lt x0; omega)).2⟩
  clear e hx0 hx1 hx2 hT hb0 hb1 hb2 hl
  obtain ⟨n, hN⟩ : ∃ n, l.length = n := ⟨_, rfl⟩
  obtain ⟨f, hf⟩ : ∃ f, Lib.firstT x0.toNat = f := ⟨_, rfl⟩
  have hS := hS f n hf hN
  have hc := Lib.firstT_cases x0.toNat
  rw [hf] at hn hc ⊢
  rw [hN] at hn hp ⊢
  clear hf hN hm
  rcases hc with rfl | rfl | rfl | rfl | rfl | rfl | rfl | rfl | rfl
  · omega
  · omega
  · have hA : Lib.accLo (2 / 16) = 128 := rfl
    have hB : Lib.accHi (2 / 16) = 191 := rfl
    rw [hA, hB]
    clear hA hB
    have hn' : n = 1 := by omega
    clear hn
    subst hn'
    exact w2a hS
  · have hA : Lib.accLo (19 / 16) = 160 := rfl
    have hB : Lib.accHi (19 / 16) = 191 := rfl
    rw [hA, hB]
    clear hA hB
    have hn' : n = 1 ∨ n = 2 := by omega
    clear hn
    rcases hn' with rfl | rfl
    · exact w19a hS
    · cases c1 : decide (x1.toNat < 160)
      · cases c2 : decide (191 < x1.toNat)
        · simp only [sh, c1, c2]
          exact w19n2d hS (dnat (b := 160) _ c1) (dnat (a := 191) _ c2)
        · simp only [sh, c1, c2]
          exact w19n2c hS (dnat (b := 160) _ c1) (dnat (a := 191) _ c2)
      · simp only [sh, c1]
        exact w19n2b hS (dnat (b := 160) _ c1)
  · have hA : Lib.accLo (3 / 16) = 128 := rfl
    have hB : Lib.accHi (3 / 16) = 191 := rfl
    rw [hA, hB]
    clear hA hB
    have hn' : n = 1 ∨ n = 2 := by omega
    clear hn
    rcases hn' with rfl | rfl
    · exact w3a hS
    · cases c1 : decide (x1.toNat < 128)
      · cases c2 : decide (191 < x1.toNat)
        · simp only [sh, c1, c2]
          exact w3n2d hS (dnat (b := 128) _ c1) (dnat (a := 191) _ c2)
        · simp only [sh, c1, c2]
          exact w3n2c hS (dnat (b := 128) _ c1) (dnat (a := 191) _ c2)
      · simp only [sh, c1]
        exact w3n2b hS (dnat (b := 128) _ c1)
  · have hA : Lib.accLo (35 / 16) = 128 := rfl
    have hB : Lib.accHi (35 / 16) = 159 := rfl
    rw [hA, hB]
    clear hA hB
    have hn' : n = 1 ∨ n = 2 := by omega
    clear hn
    rcases hn' with rfl | rfl
    · exact w35a hS
    · cases c1 : decide (x1.toNat < 128)
      · cases c2 : decide (159 < x1.toNat)
        · simp only [sh, c1, c2]
          exact w35n2d hS (dnat (b := 128) _ c1) (dnat (a := 159) _ c2)
        · simp only [sh, c1, c2]
          exact w35n2c hS (dnat (b := 128) _ c1) (dnat (a := 159) _ c2)
      · simp only [sh, c1]
        exact w35n2b hS (dnat (b := 128) _ c1)
  · have hA : Lib.accLo (52 / 16) = 144 := rfl
    have hB : Lib.accHi (52 / 16) = 191 := rfl
    rw [hA, hB]
    clear hA hB
    have hn' : n = 1 ∨ n = 2 ∨ n = 3 := by omega
    clear hn
    rcases hn' with rfl | rfl | rfl
    · exact w52a hS
    · cases c1 : decide (x1.toNat < 144)
      · cases c2 : decide (191 < x1.toNat)
        · simp only [sh, c1, c2]
          exact w52n2d hS (dnat (b := 144) _ c1) (dnat (a := 191) _ c2)
        · simp only [sh, c1, c2]
          exact w52n2c hS (dnat (b := 144) _ c1) (dnat (a := 191) _ c2)
      · simp only [sh, c1]
        exact w52n2b hS (dnat (b := 144) _ c1)
    · cases c1 : decide (x1.toNat < 144)
      · cases c2 : decide (191 < x1.toNat)
        · cases c3 : decide (x2.toNat < 128)
          · cases c4 : decide (191 < x2.toNat)
            · simp only [sh, c1, c2, c3, c4]
              exact w52n3g hS (dnat (b := 144) _ c1) (dnat (a := 191) _ c2) (dnat (b := 128) _ c3) (dnat (a := 191) _ c4)
            · simp only [sh, c1, c2, c3, c4]
              exact w52n3f hS (dnat (b := 144) _ c1) (dnat (a := 191) _ c2) (dnat (b := 128) _ c3) (dnat (a := 191) _ c4)
          · simp only [sh, c1, c2, c3]
            exact w52n3e hS (dnat (b := 144) _ c1) (dnat (a := 191) _ c2) (dnat (b := 128) _ c3)
        · simp only [sh, c1, c2]
          exact w52n3c hS (dnat (b := 144) _ c1) (dnat (a := 191) _ c2)
      · simp only [sh, c1]
        exact w52n3b hS (dnat (b := 144) _ c1)
  · have hA : Lib.accLo (4 / 16) = 128 := rfl
    have hB : Lib.accHi (4 / 16) = 191 := rfl
    rw [hA, hB]
    clear hA hB
    have hn' : n = 1 ∨ n = 2 ∨ n = 3 := by omega
    clear hn
    rcases hn' with rfl | rfl | rfl
    · exact w4a hS
    · cases c1 : decide (x1.toNat < 128)
      · cases c2 : decide (191 < x1.toNat)
        · simp only [sh, c1, c2]
          exact w4n2d hS (dnat (b := 128) _ c1) (dnat (a := 191) _ c2)
        · simp only [sh, c1, c2]
          exact w4n2c hS (dnat (b := 128) _ c1) (dnat (a := 191) _ c2)
      · simp only [sh, c1]
        exact w4n2b hS (dnat (b := 128) _ c1)
    · cases c1 : decide (x1.toNat < 128)
      · cases c2 : decide (191 < x1.toNat)
        · cases c3 : decide (x2.toNat < 128)
          · cases c4 : decide (191 < x2.toNat)
            · simp only [sh, c1, c2, c3, c4]
              exact w4n3g hS (dnat (b := 128) _ c1) (dnat (a := 191) _ c2) (dnat (b := 128) _ c3) (dnat (a := 191) _ c4)
            · simp only [sh, c1, c2, c3, c4]
              exact w4n3f hS (dnat (b := 128) _ c1) (dnat (a := 191) _ c2) (dnat (b := 128) _ c3) (dnat (a := 191) _ c4)
          · simp only [sh, c1, c2, c3]
            exact w4n3e hS (dnat (b := 128) _ c1) (dnat (a := 191) _ c2) (dnat (b := 128) _ c3)
        · simp only [sh, c1, c2]
          exact w4n3c hS (dnat (b := 128) _ c1) (dnat (a := 191) _ c2)
      · simp only [sh, c1]
        exact w4n3b hS (dnat (b := 128) _ c1)
  · have hA : Lib.accLo (68 / 16) = 128 := rfl
    have hB : Lib.accHi (68 / 16) = 143 := rfl
    rw [hA, hB]
    clear hA hB
    have hn' : n = 1 ∨ n = 2 ∨ n = 3 := by omega
    clear hn
    rcases hn' with rfl | rfl | rfl
    · exact w68a hS
    · cases c1 : decide (x1.toNat < 128)
      · cases c2 : decide (143 < x1.toNat)
        · simp only [sh, c1, c2]
          exact w68n2d hS (dnat (b := 128) _ c1) (dnat (a := 143) _ c2)
        · simp only [sh, c1, c2]
          exact w68n2c hS (dnat (b := 128) _ c1) (dnat (a := 143) _ c2)
      · simp only [sh, c1]
        exact w68n2b hS (dnat (b := 128) _ c1)
    · cases c1 : decide (x1.toNat < 128)
      · cases c2 : decide (143 < x1.toNat)
        · cases c3 : decide (x2.toNat < 128)
          · cases c4 : decide (191 < x2.toNat)
            · simp only [sh, c1, c2, c3, c4]
              exact w68n3g hS (dnat (b := 128) _ c1) (dnat (a := 143) _ c2) (dnat (b := 128) _ c3) (dnat (a := 191) _ c4)
            · simp only [sh, c1, c2, c3, c4]
              exact w68n3f hS (dnat (b := 128) _ c1) (dnat (a := 143) _ c2) (dnat (b := 128) _ c3) (dnat (a := 191) _ c4)
          · simp only [sh, c1, c2, c3]
            exact w68n3e hS (dnat (b := 128) _ c1) (dnat (a := 143) _ c2) (dnat (b := 128) _ c3)
        · simp only [sh, c1, c2]
          exact w68n3c hS (dnat (b := 128) _ c1) (dnat (a := 143) _ c2)
      · simp only [sh, c1]
        exact w68n3b hS (dnat (b := 128) _ c1)
end Go.Proofs.YthoiolihkomgmaaDoor.Fv5
