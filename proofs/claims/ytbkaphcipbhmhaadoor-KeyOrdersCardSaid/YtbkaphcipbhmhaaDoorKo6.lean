/- key.Get goes on behind a value that was read. -/
import Derived.Test.YtbkaphcipbhmhaaDoorKg6
namespace Go.Proofs.YtbkaphcipbhmhaaDoor.Ko6
open Go Go.RowKit Go.Proofs.YtbkaphcipbhmhaaDoor.Wm Go.Proofs.YtbkaphcipbhmhaaDoor.Cm Go.Proofs.YtbkaphcipbhmhaaDoor.Vm Go.Proofs.YtbkaphcipbhmhaaDoor.Vr Go.Proofs.YtbkaphcipbhmhaaDoor.Vs Go.Proofs.YtbkaphcipbhmhaaDoor.Vc Go.Proofs.YtbkaphcipbhmhaaDoor.Vh Go.Proofs.YtbkaphcipbhmhaaDoor.Vk Go.Proofs.YtbkaphcipbhmhaaDoor.Kl6 Go.Proofs.YtbkaphcipbhmhaaDoor.Km6 Go.Proofs.YtbkaphcipbhmhaaDoor.Bu6 Go.Proofs.YtbkaphcipbhmhaaDoor.Kn6 Go.Proofs.YtbkaphcipbhmhaaDoor.Kg6
set_option maxRecDepth 20000 in
theorem on_full (n : Nat) (w : World) (v : V) (S : ByteArray) (l : List V) (hr : Hid (Row w n l)) (hl : l.length = 8) :
    Calls Tryd.prog 25 #[vv v, .string S, .pointer (some ⟨n, 0, none⟩), .pointer (some ⟨n + 1, 0, none⟩)] w (Out n w l none) := by
  obtain ⟨u, h1, h2, h3⟩ := hr.out
  obtain ⟨a, c, rfl⟩ := own_shape h2
  rw [hl] at h1
  obtain ⟨k0, n0, r0, s0⟩ := v
  unfold vv
  dsimp only
  have hc : ∀ o, (w.alloc o).cell? ⟨n, 0, none⟩ = some (.slice a 8 c) := fun o => by
    rw [World.cell?_alloc_past _ _ _ (show n < w.heap.size by omega)]
    exact cell_of_one h1
  have HB := Lib.hid h3
  clear h1 h2 h3 hr
  go_enter Tryd.func25, Tryd.ntmps25
  go_wp2
  go_ret
  exact ⟨rfl, Step.of_below ((Below.refl _ _).alloc (Nat.le_refl _) _) HB.out, fun m hm => by cases hm⟩
theorem own_above {w : World} {B e s : Nat} {v : Value} {n : Nat} {xs : List Value} (h : Hid (w.ownsRow B e s v n xs)) : ∀ k, v.ownBlock = some k → B ≤ k := fun k hk => (h.out.lt k hk).1
theorem row_then {w1 w2 : World} {n : Nat} {v : Value} {e s N : Nat} {xs : List Value} {o : Obj} (h : Hid (w1.ownsRow (n + 7) e s v N xs)) (hg : w1.grownBy w2 v.ownBlock) (hr : Hid (w1.heap[n]? = some o)) : w2.heap[n]? = some o :=
  (hg.block n (lt_of_block hr.out) (fun e => by have := own_above h n e.symm; omega)).trans hr.out
theorem rest_cell {w : World} {n : Nat} (h : Env w n) (v : Value) : (w.setCell ⟨n, 0, none⟩ v).cell? ⟨n + 1, 0, none⟩ = some (.func (.func 26) #[] #[.pointer (some ⟨n + 6, 0, none⟩)]) := by
  rw [World.cell?_setCell_other _ _ _ _ (by simp)]
  exact cell_of_one h.rest
theorem appended {w w1 w2 : World} {n N c : Nat} {a : Option Addr} {l : List V} {x : V} {v2 : Value} (he : Hid (Env w n)) (S1 : Hid (Step n w w1)) (hr : Hid (w1.heap[n]? = some (.cells #[.slice a N c] 22 (0, 0)))) (ho : Hid (w1.ownsRow (n + 7) 38 4 (.slice a N c) N (cellsV l)))
    (hz : Hid (n + 7 ≤ w1.heap.size)) (q1 : w2.ownsRow (n + 7) 38 4 v2 (l ++ [x]).length (cellsV (l ++ [x]))) (q2 : w1.grownBy w2 (Value.slice a N c).ownBlock) :
    ∃ a2 c2 M, v2 = .slice a2 M c2 ∧ w2.cell? ⟨n, 0, none⟩ = some (.slice a N c) ∧ w2.frozen? ⟨n, 0, none⟩ = false ∧ n < w2.heap.size ∧ (w2.setCell ⟨n, 0, none⟩ (.slice a2 M c2)).cell? ⟨n + 1, 0, none⟩ = some (.func (.func 26) #[] #[.pointer (some ⟨n + 6, 0, none⟩)]) ∧
      Hid (Step n w (w2.setCell ⟨n, 0, none⟩ (.slice a2 M c2))) ∧ Hid (Row (w2.setCell ⟨n, 0, none⟩ (.slice a2 M c2)) n (l ++ [x])) := by
  obtain ⟨a2, c2, rfl⟩ := own_shape q1
  have hr2 := row_then ho q2 hr
  have s2 := S1.out.trans (Step.of_grown q2 hz.out (own_above ho))
  refine ⟨a2, c2, _, rfl, cell_of_one hr2, free_of_one hr2, lt_of_block hr2, rest_cell (he.out.keep s2) _, Lib.hid (s2.trans (Step.of_set n w2 _)), Lib.hid ⟨_, one_setCell hr2, ?_, ?_⟩⟩
  · obtain ⟨h1, h2⟩ := q1
    refine ⟨h1, ?_⟩
    rcases h2 with h2 | ⟨g, cap, cur, e, b, cc, d⟩
    · exact .inl h2
    · exact .inr ⟨g, cap, cur, e, b, (Below.heap_setCell _ _ _ _ (by simp only; omega)).trans cc, d⟩
  · have := q2.size
    simpa [World.setCell] using Nat.le_trans hz.out this
set_option maxRecDepth 20000 in
set_option maxHeartbeats 1000000 in
theorem on_more (n k : Nat) (hR : RestAt n k) (w : World) (v : V) (s : List UInt8) (l : List V) (he : Hid (Env w n)) (hr : Hid (Row w n l)) (hT : Hid (Tabs w)) (hl : l.length + (k + 1) = 8) (hs : s.length ≤ 100000) (hv : v.ok) :
    Calls Tryd.prog 25 #[vv v, .string (bs s), .pointer (some ⟨n, 0, none⟩), .pointer (some ⟨n + 1, 0, none⟩)] w (Out n w l (onP (k + 1) v s)) := by
  have HC : Hid (∀ W, Hid (Tabs W) → Calls Tryd.prog 20 #[vv v] W fun e w' => e = .returned (.int .i64 (erg (may v))) ∧ Below W.heap.size W w') := Lib.hid fun W h => check_any v W h.out hv.s
  obtain ⟨S, hS⟩ : ∃ S, S = bs s := ⟨_, rfl⟩
  have HRest : Hid (∀ (W : World) (m : List V), Hid (Env W n) → Hid (Row W n m) → Hid (Tabs W) → m.length + k = 8 → Calls Tryd.prog 26 #[.string S, .pointer (some ⟨n + 6, 0, none⟩)] W (Out n W m (reads k s))) :=
    Lib.hid fun W m h1 h2 h3 h4 => by rw [hS]; exact hR W s m h1 h2 h3 h4 hs
  rw [← hS]
  clear hS hR
  obtain ⟨G, hG⟩ : ∃ G, G = reads k s := ⟨_, rfl⟩
  rw [← hG] at HRest
  obtain ⟨u, h1, h2, h3⟩ := hr.out
  obtain ⟨a, c, rfl⟩ := own_shape h2
  obtain ⟨N, hN⟩ : ∃ N, N = l.length := ⟨_, rfl⟩
  rw [← hN] at h1 h2 hl
  have HN := Lib.hid hN
  have HOwn := Lib.hid h2
  have HRow := Lib.hid h1
  clear hN h2
  obtain ⟨k0, n0, r0, s0⟩ := v
  have hc : ∀ o, (w.alloc o).cell? ⟨n, 0, none⟩ = some (.slice a N c) := fun o => by
    rw [World.cell?_alloc_past _ _ _ (show n < w.heap.size by omega)]
    exact cell_of_one h1
  have h8 : ((N : Int) == 8) = false := by simpa using (by omega : ¬ ((N : Int) = 8))
  have X := Lib.hid (Box.new w k0 n0 (r0 : Int) s0)
  have hal : Below w.heap.size w (w.alloc (.cells #[.int .u8 k0, .int .i64 n0, .int .u64 (r0 : Int), .string s0] 38)) := (Below.refl _ _).alloc (Nat.le_refl _) _
  have HA := Lib.hid hal
  have T0 := Lib.hid (hT.out.keep hal)
  have HB := Lib.hid h3
  clear h1 h3 hal
  unfold vv at HC ⊢
  dsimp only at HC ⊢
  cases hm : may ⟨k0, n0, r0, s0⟩
  · rw [hm] at HC
    have hg : onP (k + 1) ⟨k0, n0, r0, s0⟩ s = none := by simp only [onP]; rw [if_neg (by rw [hm]; decide)]
    rw [hg]
    clear hm hg hG
    go_enter Tryd.func25, Tryd.ntmps25
    go_wp2_with fail
    with_reducible refine (HC.out _ T0).mono ?_
    rintro e w1 ⟨rfl, hb1⟩
    have HB1 := Lib.hid hb1
    clear hb1
    go_wp2
    go_ret
    exact ⟨rfl, Step.of_below (HA.out.trans (HB1.out.mono HA.out.size)) HB.out, fun m hm => by cases hm⟩
  · rw [hm] at HC
    have hg : onP (k + 1) ⟨k0, n0, r0, s0⟩ s = G.map (⟨k0, n0, r0, s0⟩ :: ·) := by simp only [onP]; rw [if_pos hm, hG]
    rw [hg]
    clear hm hg hG
    go_enter Tryd.func25, Tryd.ntmps25
    go_wp2_with fail
    with_reducible refine (HC.out _ T0).mono ?_
    rintro e w1 ⟨rfl, hb1⟩
    have hbb := HA.out.trans (hb1.mono HA.out.size)
    have S1 := Lib.hid (Step.of_below hbb HB.out)
    have hrow1 : w1.heap[n]? = some (.cells #[.slice a N c] 22 (0, 0)) := (hbb.block n (lt_of_block HRow.out)).trans HRow.out
    have hc1 := cell_of_one hrow1
    obtain ⟨c0, c1, c2, c3⟩ := (show Box w1 w.heap.size k0 n0 r0 s0 from (hb1.block _ (lt_of_block X.out)).trans X.out).cells
    have HO1 := Lib.hid (own_keep HOwn.out hbb)
    have T1 := Lib.hid (hT.out.keep hbb)
    have HR1 := Lib.hid hrow1
    have HZ1 : Hid (n + 7 ≤ w1.heap.size) := Lib.hid (Nat.le_trans HB.out hbb.size)
    clear hb1 hbb hrow1 HC
    go_wp2_with (at_builtin; refine append_val (v := .slice a N c) rfl _ _ rfl ⟨k0, n0, r0, s0⟩ rfl rfl (by simp) (by rw [← HN.out]; exact HO1.out) HZ1.out (by have := HN.out; omega) ?_; intro v2 w2 q1 q2; obtain ⟨a2, c2, M, rfl, hc2, hf2, hw2, hcr, HS3, HR3⟩ := appended he S1 HR1 HO1 HZ1 q1 q2; clear q1 q2)
    go_wp2_with fail
    with_reducible refine (HRest.out _ _ (Lib.hid (he.out.keep HS3.out)) HR3 (Lib.hid (tabs_step hT.out HS3.out he.out.big)) (by have := HN.out; rw [List.length_append]; simp only [List.length_singleton]; omega)).mono ?_
    rintro e w3 ⟨rfl, hs3, hrow3⟩
    have HS4 := Lib.hid (HS3.out.trans hs3)
    have HR4 := Lib.hid hrow3
    clear hs3 hrow3
    go_wp2
    go_ret
    refine ⟨by cases G <;> rfl, HS4.out, fun m hm => ?_⟩
    cases G with
    | none => cases hm
    | some p =>
      cases hm
      have := HR4.out p rfl
      rw [List.append_assoc] at this
      exact this
theorem on_any (n k : Nat) (hR : ∀ j, k = j + 1 → RestAt n j) : OnAt n k := by
  intro w v s l he hr hT hl hs hv
  cases k with
  | zero => exact on_full n w v (bs s) l hr (by omega)
  | succ k => exact on_more n k (hR k rfl) w v s l he hr hT hl hs hv
end Go.Proofs.YtbkaphcipbhmhaaDoor.Ko6
