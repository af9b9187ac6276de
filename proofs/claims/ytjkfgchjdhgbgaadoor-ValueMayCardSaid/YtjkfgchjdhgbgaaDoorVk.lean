/- The contracts of what makes values: Null, Bool, Int, Real, Bytes, String. -/
import Derived.Test.YtjkfgchjdhgbgaaDoorVc
import Derived.Handy
namespace Go.Proofs.YtjkfgchjdhgbgaaDoor.Vk
open Go Go.RowKit Go.Proofs.YtjkfgchjdhgbgaaDoor.Vm Go.Proofs.YtjkfgchjdhgbgaaDoor.Vl Go.Proofs.YtjkfgchjdhgbgaaDoor.Ve Go.Proofs.YtjkfgchjdhgbgaaDoor.Vr Go.Proofs.YtjkfgchjdhgbgaaDoor.Vs Go.Proofs.YtjkfgchjdhgbgaaDoor.Vc
theorem reads4 {w1 : World} {B : Nat} (h : ∀ i, i < 4 → (w1.cell? ⟨B, i, none⟩).isSome = true) :
    (∀ v, (w1.setCell ⟨B, 0, none⟩ v).cell? ⟨B, 0, none⟩ = some v) ∧ (∀ u v, ((w1.setCell ⟨B, 0, none⟩ u).setCell ⟨B, 1, none⟩ v).cell? ⟨B, 1, none⟩ = some v) ∧
    (∀ t u v, (((w1.setCell ⟨B, 0, none⟩ t).setCell ⟨B, 1, none⟩ u).setCell ⟨B, 2, none⟩ v).cell? ⟨B, 2, none⟩ = some v) ∧
    (∀ s t u v, ((((w1.setCell ⟨B, 0, none⟩ s).setCell ⟨B, 1, none⟩ t).setCell ⟨B, 2, none⟩ u).setCell ⟨B, 3, none⟩ v).cell? ⟨B, 3, none⟩ = some v) := by
  refine ⟨fun v => World.cell?_setCell_same' _ _ _ (h 0 (by omega)), fun u v => World.cell?_setCell_same' _ _ _ ?_, fun t u v => World.cell?_setCell_same' _ _ _ ?_, fun s t u v => World.cell?_setCell_same' _ _ _ ?_⟩
  · rw [World.cell?_setCell_other _ _ _ _ (by simp)]; exact h 1 (by omega)
  · rw [World.cell?_setCell_other _ _ _ _ (by simp), World.cell?_setCell_other _ _ _ _ (by simp)]; exact h 2 (by omega)
  · rw [World.cell?_setCell_other _ _ _ _ (by simp), World.cell?_setCell_other _ _ _ _ (by simp), World.cell?_setCell_other _ _ _ _ (by simp)]; exact h 3 (by omega)
theorem kept4 {w w1 : World} {a b c d : Value} {T : TypeId} (hb : Below (w.alloc (.cells #[a, b, c, d] T)).heap.size (w.alloc (.cells #[a, b, c, d] T)) w1) : ∀ i, i < 4 → (w1.cell? ⟨w.heap.size, i, none⟩).isSome = true := by
  intro i hi
  have e : w1.heap[w.heap.size]? = some (.cells #[a, b, c, d] T) := (hb.block w.heap.size (by simp)).trans (heap_alloc_new w _)
  unfold World.cell?
  rw [e]
  match i, hi with
  | 0, _ => rfl
  | 1, _ => rfl
  | 2, _ => rfl
  | 3, _ => rfl
def ag (k n R : Int) (s : ByteArray) : Value := .agg #[.int .u8 k, .int .i64 n, .int .u64 R, .string s]
theorem null_any (w : World) : Calls Tryd.prog 15 #[] w fun e w' => e = .returned (ag 0 0 0 ⟨#[]⟩) ∧ Below w.heap.size w w' := by
  unfold ag
  go_enter Tryd.func15, Tryd.ntmps15
  go_wp2
  go_returns
  exact ⟨rfl, (Below.refl _ _).alloc (Nat.le_refl _) _⟩
theorem bool_any (b : Bool) (w : World) : Calls Tryd.prog 16 #[.bool b] w fun e w' => e = .returned (ag 1 (if b = true then 1 else 0) 0 ⟨#[]⟩) ∧ Below w.heap.size w w' := by
  unfold ag
  cases b
  all_goals
    go_enter Tryd.func16, Tryd.ntmps16
    go_wp2
    go_returns
    exact ⟨rfl, ((Below.refl _ _).alloc (Nat.le_refl _) _).alloc (by simp) _⟩
theorem int_any (n : Int) (w : World) : Calls Tryd.prog 17 #[.int .i64 n] w fun e w' => e = .returned (ag 2 n 0 ⟨#[]⟩) ∧ Below w.heap.size w w' := by
  unfold ag
  go_enter Tryd.func17, Tryd.ntmps17
  go_wp2
  go_returns
  exact ⟨rfl, (Below.refl _ _).alloc (Nat.le_refl _) _⟩
theorem real_any (x : Nat) (w : World) : Calls Tryd.prog 18 #[.float .f64 x] w fun e w' => e = .returned (ag 3 0 (Rm.canon x : Int) ⟨#[]⟩) ∧ Below w.heap.size w w' := by
  have hf := fun W => to_bits x W
  have HC := Lib.hid fun W => canon_any x W
  obtain ⟨c, hc⟩ : ∃ c : Int, c = (Rm.canon x : Int) := ⟨_, rfl⟩
  rw [← hc] at HC ⊢
  clear hc
  unfold ag
  go_enter Tryd.func18, Tryd.ntmps18
  go_wp2_with fail
  refine (HC.out _).mono ?_
  rintro e w1 ⟨rfl, rfl⟩
  go_wp2
  go_returns
  exact ⟨rfl, (Below.refl _ _).alloc (Nat.le_refl _) _⟩
theorem bytes_any (s : ByteArray) (w : World) (hs : s.size ≤ 140737488351232) : Calls Tryd.prog 21 #[.string s] w fun e w' =>
    e = .returned (if s.size ≤ 100 then .tuple #[ag 4 0 0 s, .int .i64 0] else .tuple #[ag 0 0 0 ⟨#[]⟩, .int .i64 5]) ∧ Below w.heap.size w w' := by
  unfold ag
  by_cases h : s.size ≤ 100
  · rw [if_pos h]
    go_enter Tryd.func21, Tryd.ntmps21
    go_wp2
    go_returns
    exact ⟨rfl, (Below.refl _ _).alloc (Nat.le_refl _) _⟩
  · rw [if_neg h]
    have h' : (100 : Int) < (s.size : Int) := by omega
    go_enter Tryd.func21, Tryd.ntmps21
    go_wp2
    go_returns
    exact ⟨rfl, (Below.refl _ _).alloc (Nat.le_refl _) _⟩
theorem string_any (s : ByteArray) (w : World) (hT : Tabs w) (hs : s.size ≤ 140737488351232) : Calls Tryd.prog 22 #[.string s] w fun e w' =>
    e = .returned (if s.size ≤ 100 then (if utf8 s = true then .tuple #[ag 5 0 0 s, .int .i64 0] else .tuple #[ag 0 0 0 ⟨#[]⟩, .int .i64 7]) else .tuple #[ag 0 0 0 ⟨#[]⟩, .int .i64 5]) ∧ Below w.heap.size w w' := by
  have hm : s.size ≤ 9223372036854775807 := Nat.le_trans hs (by decide)
  have hal : Below w.heap.size w (w.alloc (.cells #[.int .u8 0, .int .i64 0, .int .u64 0, .string ⟨#[]⟩] 24)) := (Below.refl _ _).alloc (Nat.le_refl _) _
  have HA := Lib.hid hal
  have HT := Lib.hid (hT.keep hal)
  have HV := Lib.hid fun W (hW : Tabs W) => valid_any s W hm hW
  clear hal hT
  unfold ag
  by_cases h : s.size ≤ 100
  · rw [if_pos h]
    cases hu : utf8 s
    · rw [hu] at HV
      clear hu
      go_enter Tryd.func22, Tryd.ntmps22
      go_wp2_with fail
      refine (HV.out _ HT.out).mono ?_
      rintro e w1 ⟨rfl, hb1⟩
      have HB := Lib.hid hb1
      obtain ⟨hc1, hf1⟩ := bcell hb1
      have hz : w.heap.size < w1.heap.size := by have := HB.out.size; simp at this; omega
      obtain ⟨hs0, hs1, hs2, hs3⟩ := reads4 (kept4 HB.out)
      clear hb1
      go_wp2
      refine bodyPost_ret (v := .tuple #[.agg #[.int .u8 0, .int .i64 0, .int .u64 0, .string ⟨#[]⟩], .int .i64 7]) (by simp [results, Tryd.results22, go_sem, hs0, hs1, hs2, hs3]) rfl ⟨rfl, ?_⟩
      exact ((((below_more HA HB.out (Below.refl _ _)).setCell (Nat.le_refl _) _).setCell (Nat.le_refl _) _).setCell (Nat.le_refl _) _).setCell (Nat.le_refl _) _
    · rw [hu] at HV
      clear hu
      go_enter Tryd.func22, Tryd.ntmps22
      go_wp2_with fail
      refine (HV.out _ HT.out).mono ?_
      rintro e w1 ⟨rfl, hb1⟩
      have HB := Lib.hid hb1
      obtain ⟨hc1, hf1⟩ := bcell hb1
      have hz : w.heap.size < w1.heap.size := by have := HB.out.size; simp at this; omega
      obtain ⟨hs0, hs1, hs2, hs3⟩ := reads4 (kept4 HB.out)
      clear hb1
      go_wp2
      refine bodyPost_ret (v := .tuple #[.agg #[.int .u8 5, .int .i64 0, .int .u64 0, .string s], .int .i64 0]) (by simp [results, Tryd.results22, go_sem, hs0, hs1, hs2, hs3]) rfl ⟨rfl, ?_⟩
      exact ((((below_more HA HB.out (Below.refl _ _)).setCell (Nat.le_refl _) _).setCell (Nat.le_refl _) _).setCell (Nat.le_refl _) _).setCell (Nat.le_refl _) _
  · rw [if_neg h]
    have h' : (100 : Int) < (s.size : Int) := by omega
    clear HV
    go_enter Tryd.func22, Tryd.ntmps22
    go_wp2
    go_returns
    exact ⟨rfl, HA.out⟩
end Go.Proofs.YtjkfgchjdhgbgaaDoor.Vk
