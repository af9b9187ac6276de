/- The contract of disk.New, where the room may be. -/
import Derived.Test.YtbjemekkpmbhhaaSt
namespace Go.Proofs.Ytbjemekkpmbhhaa.Nw
open Go Go.RowKit Go.Lib Go.Proofs.Ytbjemekkpmbhhaa.Mp Go.Proofs.Ytbjemekkpmbhhaa.Dh Go.Proofs.Ytbjemekkpmbhhaa.Ext Go.Proofs.Ytbjemekkpmbhhaa.Fm Go.Proofs.Ytbjemekkpmbhhaa.Dk Go.Proofs.Ytbjemekkpmbhhaa.Cl Go.Proofs.Ytbjemekkpmbhhaa.Bu Go.Proofs.Ytbjemekkpmbhhaa.Ch Go.Proofs.Ytbjemekkpmbhhaa.Nm Go.Proofs.Ytbjemekkpmbhhaa.St
theorem room_ok (w : World) (n : Int) (h : 0 ≤ n) (h2 : n ≤ 16777216) :
    Calls Try.prog 18 #[.int .i64 n] w fun e w' => e = .returned (.bool true) ∧ w' = w := by
  go_enter Try.func18, Try.ntmps18
  go_wp2
  go_ret
  exact ⟨rfl, rfl⟩
abbrev W1 (w : World) : World := (w.alloc (.cells #[.map (some (w.heap.size + 1)), .int .i64 0] 45)).alloc (.map #[] 0)
theorem none_any (w : World) :
    Calls Try.prog 19 #[] w fun e w' => e = .returned (.agg #[.map (some (w.heap.size + 1)), .int .i64 0]) ∧ Below w.heap.size w w' ∧ w'.heap.size = w.heap.size + 2 ∧ w'.heap[w.heap.size + 1]? = some (obj [] 0) := by
  have hmm := @run_makeMap Try.prog
  go_enter Try.func19, Try.ntmps19
  go_wp2
  have e0 : ((w.alloc (.cells #[.map (some (w.heap.size + 1)), .int .i64 0] 45)).alloc (.map #[] 0)).heap[w.heap.size]? = some (.cells #[.map (some (w.heap.size + 1)), .int .i64 0] 45 (0, 0)) := by
    rw [heap_alloc _ _ _ (by rw [size_alloc]; omega)]; exact heap_new w _
  have q0 : ((w.alloc (.cells #[.map (some (w.heap.size + 1)), .int .i64 0] 45)).alloc (.map #[] 0)).cell? ⟨w.heap.size, 0, none⟩ = some (.map (some (w.heap.size + 1))) := cell_of e0 0
  have q1 : ((w.alloc (.cells #[.map (some (w.heap.size + 1)), .int .i64 0] 45)).alloc (.map #[] 0)).cell? ⟨w.heap.size, 1, none⟩ = some (.int .i64 0) := cell_of e0 1
  refine bodyPost_ret (v := .agg #[.map (some (w.heap.size + 1)), .int .i64 0]) (by simp [results, Try.results19, go_sem, q0, q1]) rfl ⟨rfl, ?_, ?_, ?_⟩
  · exact ((Below.refl _ _).alloc (Nat.le_refl _) _).alloc (by rw [size_alloc]; omega) _
  · rw [size_alloc, size_alloc]
  · have := heap_new (w.alloc (.cells #[.map (some (w.heap.size + 1)), .int .i64 0] 45)) (.map #[] 0)
    rw [size_alloc] at this; exact this
theorem new_any (w : World) (n : Int) (h : 0 ≤ n) (h2 : n ≤ 16777216) :
    Calls Try.prog 6 #[.int .i64 n] w fun e w' => ∃ p, e = .returned (.tuple #[.pointer (some ⟨p, 0, none⟩), .int .i64 0]) ∧ Below w.heap.size w w' ∧ Full w' (fun b => w.heap.size ≤ b ∧ b < w'.heap.size) p ⟨n, [], [], [], -1, false⟩ := by
  have HR := Lib.hid (room_ok w n h h2)
  have HF : Hid (∀ (w1 w2 : World), Below w.heap.size w w1 → w1.heap.size = w.heap.size + 2 → w1.heap[w.heap.size + 1]? = some (obj [] 0) → Below w1.heap.size w1 w2 → w2.heap.size = w1.heap.size + 2 → w2.heap[w1.heap.size + 1]? = some (obj [] 0) →
      Below w.heap.size w (w2.alloc (.cells #[.int .i64 n, .map (some (w.heap.size + 1)), .int .i64 0, .map (some (w1.heap.size + 1)), .int .i64 0, .slice none 0 0, .int .i64 (-1), .bool false] 49)) ∧
      Full (w2.alloc (.cells #[.int .i64 n, .map (some (w.heap.size + 1)), .int .i64 0, .map (some (w1.heap.size + 1)), .int .i64 0, .slice none 0 0, .int .i64 (-1), .bool false] 49)) (fun b => w.heap.size ≤ b ∧ b < (w2.alloc (.cells #[.int .i64 n, .map (some (w.heap.size + 1)), .int .i64 0, .map (some (w1.heap.size + 1)), .int .i64 0, .slice none 0 0, .int .i64 (-1), .bool false] 49)).heap.size) w2.heap.size ⟨n, [], [], [], -1, false⟩) := Lib.hid (by
    intro w1 w2 b1 s1 m1 b2 s2 m2
    refine ⟨(b1.trans (b2.mono (by omega))).alloc (by omega) _, ⟨n, w.heap.size + 1, [], 0, w1.heap.size + 1, [], 0, .slice none 0 0, -1, false⟩, ⟨⟨⟨by omega, by rw [size_alloc]; omega⟩, heap_new w2 _⟩, ⟨⟨by show w.heap.size ≤ w.heap.size + 1; omega, by rw [size_alloc]; show w.heap.size + 1 < _; omega⟩, ?_⟩, ⟨⟨by show w.heap.size ≤ w1.heap.size + 1; omega, by rw [size_alloc]; show w1.heap.size + 1 < _; omega⟩, ?_⟩, ?_, ⟨by simp, by simp, by simp⟩, ⟨by simp, by simp, by simp⟩, ⟨by simp, by simp⟩⟩, .inl ⟨rfl, rfl⟩, rfl, rfl, rfl, rfl, rfl, ?_⟩
    · show (w2.alloc _).heap[w.heap.size + 1]? = _
      rw [heap_alloc _ _ _ (by omega), b2.block _ (by omega)]; exact m1
    · show (w2.alloc _).heap[w1.heap.size + 1]? = _
      rw [heap_alloc _ _ _ (by omega)]; exact m2
    · show w.heap.size + 1 ≠ w1.heap.size + 1; omega
    · exact ⟨trivial, rfl, by simp [used], ⟨h, h2⟩, ⟨Int.le_refl _, (by decide : (-1 : Int) ≤ 9223372036854775807)⟩⟩)
  go_enter Try.func6, Try.ntmps6
  go_wp2_with fail
  refine HR.out.mono ?_
  rintro e w0 ⟨rfl, rfl⟩
  go_wp2_with fail
  refine (none_any _).mono ?_
  rintro e w1 ⟨rfl, b1, s1, m1⟩
  have HB1 := Lib.hid b1
  have HS1 := Lib.hid s1
  have HM1 := Lib.hid m1
  clear b1 s1 m1
  go_wp2_with fail
  refine (none_any _).mono ?_
  rintro e w2 ⟨rfl, b2, s2, m2⟩
  have HQ := Lib.hid (HF.out w1 w2 HB1.out HS1.out HM1.out b2 s2 m2)
  clear b2 s2 m2
  go_wp2
  go_ret2
  exact ⟨_, rfl, HQ.out⟩
end Go.Proofs.Ytbjemekkpmbhhaa.Nw
