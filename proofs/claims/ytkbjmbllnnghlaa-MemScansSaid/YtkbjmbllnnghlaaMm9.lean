/- The contracts of package mem but for Scan. -/
import Derived.Test.YtkbjmbllnnghlaaMt9
import Derived.Test.YtkbjmbllnnghlaaSc9
namespace Go.Proofs.Ytkbjmbllnnghlaa.Mm9
open Go Go.RowKit Go.Proofs.Ytkbjmbllnnghlaa.Pm9 Go.Proofs.Ytkbjmbllnnghlaa.Wd9 Go.Proofs.Ytkbjmbllnnghlaa.Tf9 Go.Proofs.Ytkbjmbllnnghlaa.Ta9 Go.Proofs.Ytkbjmbllnnghlaa.Mt9
/-- OK, or ErrArg. -/
def erg (b : Bool) : Int := if b then 0 else 2
theorem empty_of {s : ByteArray} (h : s.size = 0) : s.toList.isEmpty = true := by
  rw [ByteArray.toList_eq]
  obtain ⟨⟨l⟩⟩ := s
  cases l with
  | nil => rfl
  | cons a l => simp [ByteArray.size] at h
theorem not_empty_of {s : ByteArray} (h : ¬ s.size = 0) : s.toList.isEmpty = false := by
  rw [ByteArray.toList_eq]
  obtain ⟨⟨l⟩⟩ := s
  cases l with
  | nil => simp [ByteArray.size] at h
  | cons a l => rfl
set_option maxRecDepth 20000 in
set_option maxHeartbeats 2000000 in
theorem check_any (w : World) (x : Pr) (hk : x.k.size ≤ 140737488351232) (hv : x.v.size ≤ 140737488351232) :
    Calls Try.prog 11 #[.agg #[.string x.k, .string x.v, .bool x.g]] w fun e w' => e = .returned (.int .i64 (erg (may x))) ∧ Below w.heap.size w w' := by
  obtain ⟨k, v, g⟩ := x
  dsimp only at hk hv ⊢
  have hb := (Below.refl w.heap.size w).alloc (Nat.le_refl _) (.cells #[.string k, .string v, .bool g] 33)
  have HB := Lib.hid hb
  clear hb
  go_enter Try.func11, Try.ntmps11
  have zk : k.size = 0 ∨ ¬ k.size = 0 := by omega
  rcases zk with zk | zk
  · have e1 := empty_of zk
    have hm : may ⟨k, v, g⟩ = false := by unfold may; dsimp only; rw [decide_eq_false (by omega)]; rfl
    rw [hm]
    have h1 : ¬ ((k.size : Int) > 512) := by omega
    by_cases h2 : (v.size : Int) > 262144
    all_goals
      go_wp2
      go_ret
      exact ⟨rfl, HB.out⟩
  · have e1 := not_empty_of zk
    by_cases h1 : (k.size : Int) > 512
    · have hm : may ⟨k, v, g⟩ = false := by unfold may; dsimp only; rw [decide_eq_false (p := k.size ≤ 512) (by omega), Bool.false_and, Bool.and_false]
      rw [hm]
      go_wp2
      go_ret
      exact ⟨rfl, HB.out⟩
    · by_cases h2 : (v.size : Int) > 262144
      · have hm : may ⟨k, v, g⟩ = false := by unfold may; dsimp only; rw [decide_eq_false (p := v.size ≤ 262144) (by omega), Bool.false_and, Bool.and_false, Bool.and_false]
        rw [hm]
        go_wp2
        go_ret
        exact ⟨rfl, HB.out⟩
      · have hm : may ⟨k, v, g⟩ = (!g || decide (v.size = 0)) := by unfold may; dsimp only; rw [decide_eq_true (p := 1 ≤ k.size) (by omega), decide_eq_true (p := k.size ≤ 512) (by omega), decide_eq_true (p := v.size ≤ 262144) (by omega)]; rfl
        rw [hm]
        clear hm
        cases g
        · go_wp2
          go_ret
          exact ⟨rfl, HB.out⟩
        · by_cases zv : v.size = 0
          · have e2 := empty_of zv
            have hd : decide (v.size = 0) = true := decide_eq_true zv
            rw [hd]
            clear hd
            go_wp2
            go_ret
            exact ⟨rfl, HB.out⟩
          · have e2 := not_empty_of zv
            have hd : decide (v.size = 0) = false := decide_eq_false zv
            rw [hd]
            clear hd
            go_wp2
            go_ret
            exact ⟨rfl, HB.out⟩
theorem new_any (w : World) : Calls Try.prog 8 #[] w fun e w' => e = .returned (.pointer (some ⟨w.heap.size, 0, none⟩)) ∧ MemAt w' (grow (fun _ => False) w w') w.heap.size [] .nil ∧ Below w.heap.size w w' := by
  go_enter Try.func8, Try.ntmps8
  go_wp2
  go_ret
  exact ⟨rfl, ⟨heap_new _ _, trivial, List.nodup_nil, fun h => (by cases h), ⟨.inr ⟨Nat.le_refl _, by rw [size_alloc]; exact Nat.lt_succ_self _⟩, fun i h => (by cases h)⟩, rfl, List.Pairwise.nil⟩, (Below.refl w.heap.size w).alloc (Nat.le_refl _) _⟩
theorem len_any {w : World} {S : Nat → Prop} {p : Nat} {l : List Pr} {t : Tr} (h : MemAt w S p l t) :
    Calls Try.prog 12 #[.pointer (some ⟨p, 0, none⟩)] w fun e w' => e = .returned (.int .i64 (l.length : Int)) ∧ w' = w := by
  have c1 := cell_of h.mem 1
  clear h
  go_enter Try.func12, Try.ntmps12
  go_wp2
  go_ret
  exact ⟨rfl, rfl⟩
theorem size_any {w : World} {S : Nat → Prop} {p : Nat} {l : List Pr} {t : Tr} (h : MemAt w S p l t) :
    Calls Try.prog 13 #[.pointer (some ⟨p, 0, none⟩)] w fun e w' => e = .returned (.int .i64 (size l : Int)) ∧ w' = w := by
  have c2 := cell_of h.mem 2
  clear h
  go_enter Try.func13, Try.ntmps13
  go_wp2
  go_ret
  exact ⟨rfl, rfl⟩
theorem clear_any {w : World} {S : Nat → Prop} {p : Nat} {l : List Pr} {t : Tr} (h : MemAt w S p l t) :
    Calls Try.prog 20 #[.pointer (some ⟨p, 0, none⟩)] w fun e w' => e = .returned (.tuple #[]) ∧ MemAt w' (grow S w w') p [] .nil ∧ Tread S w w' := by
  have hm := h.mem
  have c0 := cell_of h.mem 0
  have c1 := cell_of h.mem 1
  have c2 := cell_of h.mem 2
  have f := free_of h.mem
  have f0 := f 0
  have f1 := f 1
  have f2 := f 2
  have H := Lib.hid h
  clear h hm f
  go_enter Try.func20, Try.ntmps20
  go_wp2
  go_end0
  have k1 : ((((w.setCell ⟨p, 0, none⟩ (.pointer none)).setCell ⟨p, 1, none⟩ (.int .i64 0)).setCell ⟨p, 2, none⟩ (.int .i64 0))).heap[p]? = some (memO (.pointer none) 0 0) := setCell_heap (setCell_heap (setCell_heap H.out.mem 0 _) 1 _) 2 _
  have k2 : Tread S w (((w.setCell ⟨p, 0, none⟩ (.pointer none)).setCell ⟨p, 1, none⟩ (.int .i64 0)).setCell ⟨p, 2, none⟩ (.int .i64 0)) :=
    tread_join (tread_join (Tread.setCell w ⟨p, 0, none⟩ _ H.out.own.1) (Tread.setCell _ ⟨p, 1, none⟩ _ (.inl H.out.own.1))) (Tread.setCell _ ⟨p, 2, none⟩ _ (.inl H.out.own.1))
  exact ⟨rfl, ⟨k1, trivial, List.nodup_nil, fun h => (by cases h), ⟨.inl H.out.own.1, fun i h => (by cases h)⟩, rfl, List.Pairwise.nil⟩, k2⟩
end Go.Proofs.Ytkbjmbllnnghlaa.Mm9
