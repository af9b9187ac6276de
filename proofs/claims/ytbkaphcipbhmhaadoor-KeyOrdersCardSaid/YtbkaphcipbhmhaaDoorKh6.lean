/- The contract of key.Get. -/
import Derived.Test.YtbkaphcipbhmhaaDoorKs6
import Derived.Handy
import Derived.Laws.EntriesVeiled
namespace Go.Proofs.YtbkaphcipbhmhaaDoor.Kh6
open Go Go.RowKit Go.Proofs.YtbkaphcipbhmhaaDoor.Wm Go.Proofs.YtbkaphcipbhmhaaDoor.Cm Go.Proofs.YtbkaphcipbhmhaaDoor.Vm Go.Proofs.YtbkaphcipbhmhaaDoor.Vr Go.Proofs.YtbkaphcipbhmhaaDoor.Vs Go.Proofs.YtbkaphcipbhmhaaDoor.Vc Go.Proofs.YtbkaphcipbhmhaaDoor.Vh Go.Proofs.YtbkaphcipbhmhaaDoor.Vk Go.Proofs.YtbkaphcipbhmhaaDoor.Kl6 Go.Proofs.YtbkaphcipbhmhaaDoor.Km6 Go.Proofs.YtbkaphcipbhmhaaDoor.Bu6 Go.Proofs.YtbkaphcipbhmhaaDoor.Kn6 Go.Proofs.YtbkaphcipbhmhaaDoor.Kg6 Go.Proofs.YtbkaphcipbhmhaaDoor.Ko6 Go.Proofs.YtbkaphcipbhmhaaDoor.Kk6 Go.Proofs.YtbkaphcipbhmhaaDoor.Ki6 Go.Proofs.YtbkaphcipbhmhaaDoor.Ks6
theorem text_of (K : Int) (m : Nat) (w : World) : Calls Tryd.prog 37 #[.int .u8 K, .pointer (some ⟨m, 0, none⟩)] w fun e w' =>
    e = .returned (.func (.func 38) #[] #[.pointer (some ⟨m, 0, none⟩), .pointer (some ⟨w.heap.size, 0, none⟩)]) ∧ w' = w.alloc (.cells #[.int .u8 K] 5) := by
  go_enter Tryd.func37, Tryd.ntmps37
  go_wp2
  go_ret
  exact ⟨rfl, rfl⟩
def kindsAt (m : Nat) : Value := .agg #[.func (.func 40) #[] #[.pointer (some ⟨m, 0, none⟩)], .func (.func 42) #[] #[.pointer (some ⟨m, 0, none⟩)], .func (.func 43) #[] #[.pointer (some ⟨m, 0, none⟩)], .func (.func 46) #[] #[.pointer (some ⟨m, 0, none⟩)], .func (.func 38) #[] #[.pointer (some ⟨m, 0, none⟩), .pointer (some ⟨m + 2, 0, none⟩)], .func (.func 38) #[] #[.pointer (some ⟨m, 0, none⟩), .pointer (some ⟨m + 3, 0, none⟩)]]
structure Made (w : World) (on : Value) (m : Nat) (w' : World) : Prop where
  below : Below w.heap.size w w'
  size : w'.heap.size = m + 4
  on : w'.heap[m]? = some (.cells #[on] 58 (0, 0))
  k4 : w'.heap[m + 2]? = some (.cells #[.int .u8 4] 5 (0, 0))
  k5 : w'.heap[m + 3]? = some (.cells #[.int .u8 5] 5 (0, 0))
theorem made4 (w : World) (on : Value) : Made w on w.heap.size ((((w.alloc (.cells #[on] 58)).alloc (.cells #[.nilFunc, .nilFunc, .nilFunc, .nilFunc, .nilFunc, .nilFunc] 46)).alloc (.cells #[.int .u8 4] 5)).alloc (.cells #[.int .u8 5] 5)) ∧
    ((((w.alloc (.cells #[on] 58)).alloc (.cells #[.nilFunc, .nilFunc, .nilFunc, .nilFunc, .nilFunc, .nilFunc] 46)).alloc (.cells #[.int .u8 4] 5)).alloc (.cells #[.int .u8 5] 5)).heap[w.heap.size + 1]? = some (.cells #[.nilFunc, .nilFunc, .nilFunc, .nilFunc, .nilFunc, .nilFunc] 46 (0, 0)) := by
  have old : ∀ (v : World) (o : Obj) (k : Nat), k < v.heap.size → (v.alloc o).heap[k]? = v.heap[k]? := fun v o k hk => Below.heap_alloc v o k hk
  have sz : ∀ (v : World) (o : Obj), (v.alloc o).heap.size = v.heap.size + 1 := fun v o => Array.size_push ..
  refine ⟨⟨(((((Below.refl _ _).alloc (Nat.le_refl _) _).alloc (by simp only [sz]; omega) _).alloc (by simp only [sz]; omega) _).alloc (by simp only [sz]; omega) _), by simp only [sz], ?_, ?_, ?_⟩, ?_⟩
  · rw [old _ _ _ (by simp only [sz]; omega), old _ _ _ (by simp only [sz]; omega), old _ _ _ (by simp only [sz]; omega)]
    exact heap_alloc_new w _
  · rw [old _ _ _ (by simp only [sz]; omega)]
    have := heap_alloc_new ((w.alloc (.cells #[on] 58)).alloc (.cells #[.nilFunc, .nilFunc, .nilFunc, .nilFunc, .nilFunc, .nilFunc] 46)) (.cells #[.int .u8 4] 5)
    simp only [sz] at this
    exact this
  · have := heap_alloc_new (((w.alloc (.cells #[on] 58)).alloc (.cells #[.nilFunc, .nilFunc, .nilFunc, .nilFunc, .nilFunc, .nilFunc] 46)).alloc (.cells #[.int .u8 4] 5)) (.cells #[.int .u8 5] 5)
    simp only [sz] at this
    exact this
  · rw [old _ _ _ (by simp only [sz]; omega), old _ _ _ (by simp only [sz]; omega)]
    have := heap_alloc_new (w.alloc (.cells #[on] 58)) (.cells #[.nilFunc, .nilFunc, .nilFunc, .nilFunc, .nilFunc, .nilFunc] 46)
    simp only [sz] at this
    exact this
theorem six {w : World} {b : Nat} {v0 v1 v2 v3 v4 v5 : Value} {T : TypeId} (h : w.heap[b]? = some (.cells #[v0, v1, v2, v3, v4, v5] T (0, 0))) :
    (∀ i, w.frozen? ⟨b, i, none⟩ = false) ∧ w.cell? ⟨b, 0, none⟩ = some v0 ∧ w.cell? ⟨b, 1, none⟩ = some v1 ∧ w.cell? ⟨b, 2, none⟩ = some v2 ∧ w.cell? ⟨b, 3, none⟩ = some v3 ∧ w.cell? ⟨b, 4, none⟩ = some v4 ∧ w.cell? ⟨b, 5, none⟩ = some v5 := by
  refine ⟨fun i => by simp [World.frozen?, h], ?_, ?_, ?_, ?_, ?_, ?_⟩ <;> (unfold World.cell?; rw [h]; rfl)
def sets (w : World) (b : Nat) (v0 v1 v2 v3 v4 v5 : Value) : World :=
  ((((((w.setCell ⟨b, 0, none⟩ v0).setCell ⟨b, 1, none⟩ v1).setCell ⟨b, 2, none⟩ v2).setCell ⟨b, 3, none⟩ v3).setCell ⟨b, 4, none⟩ v4).setCell ⟨b, 5, none⟩ v5)
theorem six_set {w : World} {b : Nat} {u0 u1 u2 u3 u4 u5 : Value} {T : TypeId} (h : w.heap[b]? = some (.cells #[u0, u1, u2, u3, u4, u5] T (0, 0))) (v0 v1 v2 v3 v4 v5 : Value) :
    (sets w b v0 v1 v2 v3 v4 v5).heap[b]? = some (.cells #[v0, v1, v2, v3, v4, v5] T (0, 0)) ∧ (sets w b v0 v1 v2 v3 v4 v5).heap.size = w.heap.size := by
  refine ⟨?_, by simp [sets, World.setCell]⟩
  unfold sets
  rw [heap_setCell_same _ _ _ _ _ _ (heap_setCell_same _ _ _ _ _ _ (heap_setCell_same _ _ _ _ _ _ (heap_setCell_same _ _ _ _ _ _ (heap_setCell_same _ _ _ _ _ _ (heap_setCell_same _ _ _ _ _ _ h)))))]
  rfl
theorem sets_other (w : World) (b k : Nat) (v0 v1 v2 v3 v4 v5 : Value) (h : k ≠ b) : (sets w b v0 v1 v2 v3 v4 v5).heap[k]? = w.heap[k]? := by
  unfold sets
  rw [Below.heap_setCell _ _ _ _ (by simpa using h), Below.heap_setCell _ _ _ _ (by simpa using h), Below.heap_setCell _ _ _ _ (by simpa using h), Below.heap_setCell _ _ _ _ (by simpa using h), Below.heap_setCell _ _ _ _ (by simpa using h), Below.heap_setCell _ _ _ _ (by simpa using h)]
theorem sets_below {w0 w : World} (hb : Below w0.heap.size w0 w) (b : Nat) (v0 v1 v2 v3 v4 v5 : Value) (h : w0.heap.size ≤ b) : Below w0.heap.size w0 (sets w b v0 v1 v2 v3 v4 v5) :=
  (((((hb.setCell h _).setCell h _).setCell h _).setCell h _).setCell h _).setCell h _
theorem Made.six_set {w W : World} {on : Value} {m b : Nat} (h : Made w on m W) (hb : b = m + 1) (hm : w.heap.size = m := by rfl) {v0 v1 v2 v3 v4 v5 : Value} : Made w on m (sets W b v0 v1 v2 v3 v4 v5) := by
  subst hb
  refine ⟨sets_below h.below _ _ _ _ _ _ _ (by omega), ?_, ?_, ?_, ?_⟩
  · rw [← h.size]; simp [sets, World.setCell]
  · rw [sets_other _ _ _ _ _ _ _ _ _ (by omega)]; exact h.on
  · rw [sets_other _ _ _ _ _ _ _ _ _ (by omega)]; exact h.k4
  · rw [sets_other _ _ _ _ _ _ _ _ _ (by omega)]; exact h.k5
set_option maxRecDepth 20000 in
theorem readings_any (w : World) (fn : Fn) (f0 c0 : Array Value) (m : Nat) (hm : m = w.heap.size) : Calls Tryd.prog 24 #[.func fn f0 c0] w fun e w' => e = .returned (kindsAt m) ∧ Made w (.func fn f0 c0) m w' := by
  have HT := Lib.hid text_of
  go_enter Tryd.func24, Tryd.ntmps24
  go_wp2_with fail
  with_reducible refine (HT.out _ _ _).mono ?_
  rintro e w1 ⟨rfl, h1⟩
  subst h1
  go_wp2_with fail
  with_reducible refine (HT.out _ _ _).mono ?_
  rintro e w2 ⟨rfl, h2⟩
  subst h2
  have hM := made4 w (.func fn f0 c0)
  obtain ⟨W, hW⟩ : ∃ W, W = ((((w.alloc (.cells #[.func fn f0 c0] 58)).alloc (.cells #[.nilFunc, .nilFunc, .nilFunc, .nilFunc, .nilFunc, .nilFunc] 46)).alloc (.cells #[.int .u8 4] 5)).alloc (.cells #[.int .u8 5] 5)) := ⟨_, rfl⟩
  rw [← hW] at hM ⊢
  clear hW
  obtain ⟨hmade, hblk⟩ := hM
  obtain ⟨hfz, q0, q1, q2, q3, q4, q5⟩ := six hblk
  have HM := Lib.hid hmade
  have HB := Lib.hid hblk
  have hlt := lt_of_block hblk
  clear hmade hblk
  go_wp2
  change bodyPost _ _ _ _ _ (sets W (w.heap.size + 1) (.func (.func 40) #[] #[.pointer (some ⟨w.heap.size, 0, none⟩)]) (.func (.func 42) #[] #[.pointer (some ⟨w.heap.size, 0, none⟩)]) (.func (.func 43) #[] #[.pointer (some ⟨w.heap.size, 0, none⟩)]) (.func (.func 46) #[] #[.pointer (some ⟨w.heap.size, 0, none⟩)]) (.func (.func 38) #[] #[.pointer (some ⟨w.heap.size, 0, none⟩), .pointer (some ⟨w.heap.size + 1 + 1, 0, none⟩)]) (.func (.func 38) #[] #[.pointer (some ⟨w.heap.size, 0, none⟩), .pointer (some ⟨w.heap.size + 1 + 1 + 1, 0, none⟩)]))
  have hM6 : Made w (.func fn f0 c0) w.heap.size (sets W (w.heap.size + 1) (.func (.func 40) #[] #[.pointer (some ⟨w.heap.size, 0, none⟩)]) (.func (.func 42) #[] #[.pointer (some ⟨w.heap.size, 0, none⟩)]) (.func (.func 43) #[] #[.pointer (some ⟨w.heap.size, 0, none⟩)]) (.func (.func 46) #[] #[.pointer (some ⟨w.heap.size, 0, none⟩)]) (.func (.func 38) #[] #[.pointer (some ⟨w.heap.size, 0, none⟩), .pointer (some ⟨w.heap.size + 1 + 1, 0, none⟩)]) (.func (.func 38) #[] #[.pointer (some ⟨w.heap.size, 0, none⟩), .pointer (some ⟨w.heap.size + 1 + 1 + 1, 0, none⟩)])) := HM.out.six_set rfl
  obtain ⟨_, e0, e1, e2, e3, e4, e5⟩ := six (six_set HB.out (.func (.func 40) #[] #[.pointer (some ⟨w.heap.size, 0, none⟩)]) (.func (.func 42) #[] #[.pointer (some ⟨w.heap.size, 0, none⟩)]) (.func (.func 43) #[] #[.pointer (some ⟨w.heap.size, 0, none⟩)]) (.func (.func 46) #[] #[.pointer (some ⟨w.heap.size, 0, none⟩)]) (.func (.func 38) #[] #[.pointer (some ⟨w.heap.size, 0, none⟩), .pointer (some ⟨w.heap.size + 1 + 1, 0, none⟩)]) (.func (.func 38) #[] #[.pointer (some ⟨w.heap.size, 0, none⟩), .pointer (some ⟨w.heap.size + 1 + 1 + 1, 0, none⟩)])).1
  obtain ⟨W6, hW6⟩ : ∃ W6, W6 = sets W (w.heap.size + 1) (.func (.func 40) #[] #[.pointer (some ⟨w.heap.size, 0, none⟩)]) (.func (.func 42) #[] #[.pointer (some ⟨w.heap.size, 0, none⟩)]) (.func (.func 43) #[] #[.pointer (some ⟨w.heap.size, 0, none⟩)]) (.func (.func 46) #[] #[.pointer (some ⟨w.heap.size, 0, none⟩)]) (.func (.func 38) #[] #[.pointer (some ⟨w.heap.size, 0, none⟩), .pointer (some ⟨w.heap.size + 1 + 1, 0, none⟩)]) (.func (.func 38) #[] #[.pointer (some ⟨w.heap.size, 0, none⟩), .pointer (some ⟨w.heap.size + 1 + 1 + 1, 0, none⟩)]) := ⟨_, rfl⟩
  rw [← hW6] at e0 e1 e2 e3 e4 e5 hM6 ⊢
  clear hW6
  refine bodyPost_ret (v := kindsAt w.heap.size) ?_ rfl ⟨by rw [hm], by rw [hm]; exact hM6⟩
  simp [results, Tryd.results24, go_sem, e0, e1, e2, e3, e4, e5, kindsAt]
def GotK (w : World) (g : Option (List V)) (e : Ending) (w' : World) : Prop :=
  match g with
  | none => e = .returned (.tuple #[.slice none 0 0, .int .i64 7]) ∧ Below w.heap.size w w'
  | some l => ∃ A c, e = .returned (.tuple #[.slice A l.length c, .int .i64 0]) ∧ Reads w' A l ∧ Below w.heap.size w w'
theorem begun {w w1 : World} {on : Value} (h : Made ((w.alloc (.cells #[.slice none 0 0] 22)).alloc (.cells #[.nilFunc] 45)) on (w.heap.size + 2) w1) :
    w1.heap[w.heap.size]? = some (.cells #[.slice none 0 0] 22 (0, 0)) ∧ w1.heap[w.heap.size + 1]? = some (.cells #[.nilFunc] 45 (0, 0)) := by
  have sz : ∀ (v : World) (o : Obj), (v.alloc o).heap.size = v.heap.size + 1 := fun v o => Array.size_push ..
  constructor
  · rw [h.below.block _ (by simp only [sz]; omega), Below.heap_alloc _ _ _ (by simp only [sz]; omega)]
    exact heap_alloc_new w _
  · rw [h.below.block _ (by simp only [sz]; omega)]
    have := heap_alloc_new (w.alloc (.cells #[.slice none 0 0] 22)) (.cells #[.nilFunc] 45)
    simp only [sz] at this
    exact this
theorem ready {w w1 : World} (h : Hid (Made ((w.alloc (.cells #[.slice none 0 0] 22)).alloc (.cells #[.nilFunc] 45)) (.func (.func 25) #[] #[.pointer (some ⟨w.heap.size, 0, none⟩), .pointer (some ⟨w.heap.size + 1, 0, none⟩)]) (w.heap.size + 2) w1))
    (h1 : Hid (w1.heap[w.heap.size]? = some (.cells #[.slice none 0 0] 22 (0, 0)))) (h2 : Hid (w1.heap[w.heap.size + 1]? = some (.cells #[.nilFunc] 45 (0, 0)))) (hT : Hid (Tabs w)) :
    Hid (Env ((w1.setCell ⟨w.heap.size + 1, 0, none⟩ (.func (.func 26) #[] #[.pointer (some ⟨w.heap.size + 6, 0, none⟩)])).alloc (.cells #[.func (.func 40) #[] #[.pointer (some ⟨w.heap.size + 2, 0, none⟩)], .func (.func 42) #[] #[.pointer (some ⟨w.heap.size + 2, 0, none⟩)], .func (.func 43) #[] #[.pointer (some ⟨w.heap.size + 2, 0, none⟩)], .func (.func 46) #[] #[.pointer (some ⟨w.heap.size + 2, 0, none⟩)], .func (.func 38) #[] #[.pointer (some ⟨w.heap.size + 2, 0, none⟩), .pointer (some ⟨w.heap.size + 2 + 2, 0, none⟩)], .func (.func 38) #[] #[.pointer (some ⟨w.heap.size + 2, 0, none⟩), .pointer (some ⟨w.heap.size + 2 + 3, 0, none⟩)]] 46)) w.heap.size) ∧ Hid (Row ((w1.setCell ⟨w.heap.size + 1, 0, none⟩ (.func (.func 26) #[] #[.pointer (some ⟨w.heap.size + 6, 0, none⟩)])).alloc (.cells #[.func (.func 40) #[] #[.pointer (some ⟨w.heap.size + 2, 0, none⟩)], .func (.func 42) #[] #[.pointer (some ⟨w.heap.size + 2, 0, none⟩)], .func (.func 43) #[] #[.pointer (some ⟨w.heap.size + 2, 0, none⟩)], .func (.func 46) #[] #[.pointer (some ⟨w.heap.size + 2, 0, none⟩)], .func (.func 38) #[] #[.pointer (some ⟨w.heap.size + 2, 0, none⟩), .pointer (some ⟨w.heap.size + 2 + 2, 0, none⟩)], .func (.func 38) #[] #[.pointer (some ⟨w.heap.size + 2, 0, none⟩), .pointer (some ⟨w.heap.size + 2 + 3, 0, none⟩)]] 46)) w.heap.size []) ∧ Hid (Tabs ((w1.setCell ⟨w.heap.size + 1, 0, none⟩ (.func (.func 26) #[] #[.pointer (some ⟨w.heap.size + 6, 0, none⟩)])).alloc (.cells #[.func (.func 40) #[] #[.pointer (some ⟨w.heap.size + 2, 0, none⟩)], .func (.func 42) #[] #[.pointer (some ⟨w.heap.size + 2, 0, none⟩)], .func (.func 43) #[] #[.pointer (some ⟨w.heap.size + 2, 0, none⟩)], .func (.func 46) #[] #[.pointer (some ⟨w.heap.size + 2, 0, none⟩)], .func (.func 38) #[] #[.pointer (some ⟨w.heap.size + 2, 0, none⟩), .pointer (some ⟨w.heap.size + 2 + 2, 0, none⟩)], .func (.func 38) #[] #[.pointer (some ⟨w.heap.size + 2, 0, none⟩), .pointer (some ⟨w.heap.size + 2 + 3, 0, none⟩)]] 46))) ∧ Hid (Below w.heap.size w ((w1.setCell ⟨w.heap.size + 1, 0, none⟩ (.func (.func 26) #[] #[.pointer (some ⟨w.heap.size + 6, 0, none⟩)])).alloc (.cells #[.func (.func 40) #[] #[.pointer (some ⟨w.heap.size + 2, 0, none⟩)], .func (.func 42) #[] #[.pointer (some ⟨w.heap.size + 2, 0, none⟩)], .func (.func 43) #[] #[.pointer (some ⟨w.heap.size + 2, 0, none⟩)], .func (.func 46) #[] #[.pointer (some ⟨w.heap.size + 2, 0, none⟩)], .func (.func 38) #[] #[.pointer (some ⟨w.heap.size + 2, 0, none⟩), .pointer (some ⟨w.heap.size + 2 + 2, 0, none⟩)], .func (.func 38) #[] #[.pointer (some ⟨w.heap.size + 2, 0, none⟩), .pointer (some ⟨w.heap.size + 2 + 3, 0, none⟩)]] 46))) := by
  have sz : ∀ (v : World) (o : Obj), (v.alloc o).heap.size = v.heap.size + 1 := fun v o => Array.size_push ..
  have hs : w1.heap.size = w.heap.size + 6 := h.out.size
  have hw : (w1.setCell ⟨w.heap.size + 1, 0, none⟩ (.func (.func 26) #[] #[.pointer (some ⟨w.heap.size + 6, 0, none⟩)])).heap.size = w.heap.size + 6 := by simpa [World.setCell] using hs
  have old : ∀ k, k < w.heap.size + 6 → k ≠ w.heap.size + 1 → ((w1.setCell ⟨w.heap.size + 1, 0, none⟩ (.func (.func 26) #[] #[.pointer (some ⟨w.heap.size + 6, 0, none⟩)])).alloc (.cells #[.func (.func 40) #[] #[.pointer (some ⟨w.heap.size + 2, 0, none⟩)], .func (.func 42) #[] #[.pointer (some ⟨w.heap.size + 2, 0, none⟩)], .func (.func 43) #[] #[.pointer (some ⟨w.heap.size + 2, 0, none⟩)], .func (.func 46) #[] #[.pointer (some ⟨w.heap.size + 2, 0, none⟩)], .func (.func 38) #[] #[.pointer (some ⟨w.heap.size + 2, 0, none⟩), .pointer (some ⟨w.heap.size + 2 + 2, 0, none⟩)], .func (.func 38) #[] #[.pointer (some ⟨w.heap.size + 2, 0, none⟩), .pointer (some ⟨w.heap.size + 2 + 3, 0, none⟩)]] 46)).heap[k]? = w1.heap[k]? := fun k hk hn => by
    rw [Below.heap_alloc _ _ _ (by rw [hw]; exact hk), Below.heap_setCell _ _ _ _ (by simpa using hn)]
  have hb0 : Below w.heap.size w w1 := by
    have hb : Below w.heap.size w ((w.alloc (.cells #[.slice none 0 0] 22)).alloc (.cells #[.nilFunc] 45)) := ((Below.refl _ _).alloc (Nat.le_refl _) _).alloc (by simp only [sz]; omega) _
    exact hb.trans (h.out.below.mono hb.size)
  have hb1 : Below w.heap.size w ((w1.setCell ⟨w.heap.size + 1, 0, none⟩ (.func (.func 26) #[] #[.pointer (some ⟨w.heap.size + 6, 0, none⟩)])).alloc (.cells #[.func (.func 40) #[] #[.pointer (some ⟨w.heap.size + 2, 0, none⟩)], .func (.func 42) #[] #[.pointer (some ⟨w.heap.size + 2, 0, none⟩)], .func (.func 43) #[] #[.pointer (some ⟨w.heap.size + 2, 0, none⟩)], .func (.func 46) #[] #[.pointer (some ⟨w.heap.size + 2, 0, none⟩)], .func (.func 38) #[] #[.pointer (some ⟨w.heap.size + 2, 0, none⟩), .pointer (some ⟨w.heap.size + 2 + 2, 0, none⟩)], .func (.func 38) #[] #[.pointer (some ⟨w.heap.size + 2, 0, none⟩), .pointer (some ⟨w.heap.size + 2 + 3, 0, none⟩)]] 46)) := (hb0.setCell (by simp only; omega) _).alloc (by rw [hw]; omega) _
  have hz : w.heap.size + 7 ≤ ((w1.setCell ⟨w.heap.size + 1, 0, none⟩ (.func (.func 26) #[] #[.pointer (some ⟨w.heap.size + 6, 0, none⟩)])).alloc (.cells #[.func (.func 40) #[] #[.pointer (some ⟨w.heap.size + 2, 0, none⟩)], .func (.func 42) #[] #[.pointer (some ⟨w.heap.size + 2, 0, none⟩)], .func (.func 43) #[] #[.pointer (some ⟨w.heap.size + 2, 0, none⟩)], .func (.func 46) #[] #[.pointer (some ⟨w.heap.size + 2, 0, none⟩)], .func (.func 38) #[] #[.pointer (some ⟨w.heap.size + 2, 0, none⟩), .pointer (some ⟨w.heap.size + 2 + 2, 0, none⟩)], .func (.func 38) #[] #[.pointer (some ⟨w.heap.size + 2, 0, none⟩), .pointer (some ⟨w.heap.size + 2 + 3, 0, none⟩)]] 46)).heap.size := by rw [sz, hw]; omega
  refine ⟨Lib.hid ⟨tabs_lt hT.out, ?_, ?_, ?_, ?_, 46, ?_⟩, Lib.hid ⟨.slice none 0 0, ?_, ⟨rfl, .inl ⟨rfl, rfl⟩⟩, hz⟩, Lib.hid (hT.out.keep hb1), Lib.hid hb1⟩
  · rw [Below.heap_alloc _ _ _ (by rw [hw]; omega)]
    exact one_setCell h2.out
  · rw [old _ (by omega) (by omega)]; exact h.out.on
  · rw [old _ (by omega) (by omega)]; exact h.out.k4
  · rw [old _ (by omega) (by omega)]; exact h.out.k5
  · have := heap_alloc_new (w1.setCell ⟨w.heap.size + 1, 0, none⟩ (.func (.func 26) #[] #[.pointer (some ⟨w.heap.size + 6, 0, none⟩)])) (.cells #[.func (.func 40) #[] #[.pointer (some ⟨w.heap.size + 2, 0, none⟩)], .func (.func 42) #[] #[.pointer (some ⟨w.heap.size + 2, 0, none⟩)], .func (.func 43) #[] #[.pointer (some ⟨w.heap.size + 2, 0, none⟩)], .func (.func 46) #[] #[.pointer (some ⟨w.heap.size + 2, 0, none⟩)], .func (.func 38) #[] #[.pointer (some ⟨w.heap.size + 2, 0, none⟩), .pointer (some ⟨w.heap.size + 2 + 2, 0, none⟩)], .func (.func 38) #[] #[.pointer (some ⟨w.heap.size + 2, 0, none⟩), .pointer (some ⟨w.heap.size + 2 + 3, 0, none⟩)]] 46)
    rw [hw] at this
    exact this
  · rw [old _ (by omega) (by omega)]; exact h1.out
set_option maxRecDepth 20000 in
set_option maxHeartbeats 1000000 in
theorem get_any (s : List UInt8) (w : World) (hs : s.length ≤ 100000) (hT : Tabs w) :
    Calls Tryd.prog 14 #[.string (bs s)] w (GotK w (kget s)) := by
  have HRest : Hid (∀ W, Hid (Env W w.heap.size) → Hid (Row W w.heap.size []) → Hid (Tabs W) → Calls Tryd.prog 26 #[.string (bs s), .pointer (some ⟨w.heap.size + 6, 0, none⟩)] W (Out w.heap.size W [] (kget s))) := Lib.hid fun W h1 h2 h3 => rest_any w.heap.size 8 W s [] h1 h2 h3 rfl hs
  obtain ⟨G, hG⟩ : ∃ G, G = kget s := ⟨_, rfl⟩
  obtain ⟨S, hS⟩ : ∃ S, S = bs s := ⟨_, rfl⟩
  rw [← hG, ← hS] at HRest ⊢
  clear hG hS hs
  have HMk := Lib.hid fun W => readings_any W (.func 25) #[] #[.pointer (some ⟨w.heap.size, 0, none⟩), .pointer (some ⟨w.heap.size + 1, 0, none⟩)]
  have hmf : ∀ (fn : Fn) (first cap : Array Value) (w : World), (Instr.makeFunc fn first cap).run Tryd.prog w = .ok (.func fn first cap) w := fun _ _ _ _ => rfl
  have HT := Lib.hid hT
  clear hT
  go_enter Tryd.func14, Tryd.ntmps14
  go_wp2_with fail
  with_reducible refine (HMk.out _ (w.heap.size + 2) (by simp)).mono ?_
  rintro e w1 ⟨rfl, hm⟩
  have hsz : w1.heap.size = w.heap.size + 6 := hm.size
  obtain ⟨hr1, hr2⟩ := begun hm
  have hc1 := cell_of_one hr2
  have hf1 := free_of_one hr2
  have hlt1 : w.heap.size + 1 < w.heap.size + 6 := by omega
  have HM := Lib.hid hm
  have HR1 := Lib.hid hr1
  have HR2 := Lib.hid hr2
  clear hm hr1 hr2
  unfold kindsAt
  go_wp2_with fail
  obtain ⟨E3, R3, T3, B3⟩ := ready HM HR1 HR2 HT
  with_reducible refine (HRest.out _ E3 R3 T3).mono ?_
  rintro e w4 ⟨rfl, hs4, hr4⟩
  have HB4 := Lib.hid (B3.out.trans (hs4.below.mono (Nat.le_refl _)))
  cases G with
  | none =>
    clear hs4 hr4
    go_wp2
    go_ret2
    exact ⟨rfl, HB4.out⟩
  | some l =>
    obtain ⟨v, v1, v2, v3⟩ := hr4 l rfl
    obtain ⟨A, c, rfl, hrd⟩ := Vh.Reads.own v2
    have hcv := cell_of_one v1
    have HRD := Lib.hid hrd
    clear hs4 hr4 v1 v2 v3 hrd
    go_wp2
    go_ret2
    exact ⟨A, c, rfl, HRD.out, HB4.out⟩
end Go.Proofs.YtbkaphcipbhmhaaDoor.Kh6
