/- Mem.Get and Mem.Put. -/
import Derived.Test.YtkbjmbllnnghlaaMm9
import Derived.Handy
namespace Go.Proofs.Ytkbjmbllnnghlaa.Mg9
open Go Go.RowKit Go.Proofs.Ytkbjmbllnnghlaa.Pm9 Go.Proofs.Ytkbjmbllnnghlaa.Wd9 Go.Proofs.Ytkbjmbllnnghlaa.Tf9 Go.Proofs.Ytkbjmbllnnghlaa.Ta9 Go.Proofs.Ytkbjmbllnnghlaa.Mt9 Go.Proofs.Ytkbjmbllnnghlaa.Mm9
def zp : Pr := ⟨⟨#[]⟩, ⟨#[]⟩, false⟩
theorem ptr_nil : Tr.nil.ptr = .pointer none := rfl
theorem ptr_node (b : Nat) (p : Pr) (n : Int) (l r : Tr) : (Tr.node b p n l r).ptr = .pointer (some ⟨b, 0, none⟩) := rfl
/-- What a call leaves: the mem with these pairs, nothing else touched. -/
def MemTo (S : Nat → Prop) (w w' : World) (p : Nat) (l : List Pr) : Prop := ∃ t, MemAt w' (grow S w w') p l t ∧ Tread S w w'
/-- What Get answers. -/
def gotV (o : Option Pr) : Value := .tuple #[.agg #[.string (o.getD zp).k, .string (o.getD zp).v, .bool (o.getD zp).g], .bool o.isSome]
set_option maxRecDepth 20000 in
set_option maxHeartbeats 2000000 in
theorem get_any {w : World} {S : Nat → Prop} {p : Nat} {l : List Pr} {t : Tr} (h : MemAt w S p l t) (k : ByteArray) :
    Calls Try.prog 15 #[.pointer (some ⟨p, 0, none⟩), .string k] w fun e w' => e = .returned (gotV (Pm9.get k l)) ∧ Below w.heap.size w w' := by
  have hp := lt_of_at h.mem
  obtain ⟨a, ha⟩ := Tr.ptr_shape t
  obtain ⟨W, hW⟩ : ∃ W, W = w.alloc (.cells #[.string ⟨#[]⟩, .string ⟨#[]⟩, .bool false] 33) := ⟨_, rfl⟩
  have hb : Below w.heap.size w W := by rw [hW]; exact (Below.refl w.heap.size w).alloc (Nat.le_refl _) _
  have hx : W.heap[w.heap.size]? = some (pairO zp) := by rw [hW]; exact heap_new _ _
  have h2 := h.keep (w' := W) fun b _ hl => hb.block b hl
  have c0 := cell_of h2.mem 0
  have hf := find_any W k t h2.tree
  have hs := Tr.find_spec k (by rw [h.flat]; exact h.sorted : Sorted t.flat)
  rw [h.flat] at hs
  have HB := Lib.hid hb
  have r0 := cell_of hx 0
  have r1 := cell_of hx 1
  have r2 := cell_of hx 2
  have rf := free_of hx
  have rf0 := rf 0
  have rf1 := rf 1
  have rf2 := rf 2
  have HX := Lib.hid hx
  have H2 := Lib.hid h2
  rw [hW] at c0 r0 r1 r2 rf0 rf1 rf2
  simp only [ha, List.getElem?_toArray] at c0
  have HW := Lib.hid hW
  clear hb hx h2 hW rf h
  go_enter Try.func15, Try.ntmps15
  rcases hs with ⟨h1, h2⟩ | ⟨b, q, n, x, y, h1, hk, h2⟩
  · simp only [h1, ha, ptr_nil] at hf
    have HF := Lib.hid hf
    rw [h2]
    clear h1 h2 hf
    go_wp2_with (go_at_call 22; rw [← HW.out]; (with_reducible refine HF.out.mono ?_); rintro e w3 ⟨rfl, rfl⟩; rw [HW.out])

    go_returns
    exact ⟨rfl, (Below.refl w.heap.size w).alloc (Nat.le_refl _) _⟩
  · obtain ⟨x0, _⟩ := find_in H2.out.tree h1
    simp only [h1, ha, ptr_node] at hf
    have HF := Lib.hid hf
    rw [h2]
    obtain ⟨q0, q1, q2, _⟩ := node_cells x0
    rw [HW.out] at q0 q1 q2
    clear h1 h2 x0 hf
    go_wp2_with (go_at_call 22; rw [← HW.out]; (with_reducible refine HF.out.mono ?_); rintro e w3 ⟨rfl, rfl⟩; rw [HW.out])

    go_returns
    exact ⟨by rw [← hk]; rfl, (Below.refl w.heap.size w).alloc (Nat.le_refl _) _⟩
section
variable {P : Program} {md : Region.Mode} {ops : Array Oper} {Q : Exit → Act → World → Prop} {S : World → Prop}
/-- An operation that is not wanted. -/
theorem heldUn {i : Nat} {oi : Oper} {fuel : Nat} {listed : Array Bool} {a : Act} {w : World} (d : Option Tmp) (hi : ops[i]? = some oi) (hd : oi.dst = d) (hs : Region.noSelect ops = true) (hf : Region.free md ops listed i = true)
    (hr : (Region.ready md ops listed).contains i = true) (hQ : ∀ c a w, Q (.panic c) (a.put d undef) w → Q (.panic c) a w) (hw : Region.wanted oi (yielded ops a.tmps) = false) (hS : S w)
    (h : wpAnyH P md ops Q S fuel (listed.setIfInBounds i true) (a.put d undef) w) : wpAnyH P md ops Q S (fuel + 1) listed a w := by
  subst hd
  exact wpAnyH_take hi hs hf hr hQ (Or.inr ⟨hw, rfl⟩) hS h
/-- One that yields a value, whatever the world that meets S. -/
theorem heldIn {i : Nat} {oi : Oper} {fuel : Nat} {listed : Array Bool} {a : Act} {w : World} (d : Option Tmp) {v : Value} (hi : ops[i]? = some oi) (hd : oi.dst = d) (hs : Region.noSelect ops = true) (hf : Region.free md ops listed i = true)
    (hr : (Region.ready md ops listed).contains i = true) (hQ : ∀ c a w, Q (.panic c) (a.put d v) w → Q (.panic c) a w) (hw : Region.wanted oi (yielded ops a.tmps) = true) (hS : S w) (hy : ∀ w, S w → (execOp a.eval oi).run P w = .ok (.value v) w)
    (h : wpAnyH P md ops Q S fuel (listed.setIfInBounds i true) (a.put d v) w) : wpAnyH P md ops Q S (fuel + 1) listed a w := by
  subst hd
  exact wpAnyH_take hi hs hf hr hQ (Or.inl ⟨hw, hy⟩) hS h
end
theorem get_size {k : ByteArray} : ∀ {l : List Pr} {q : Pr}, Pm9.get k l = some q → q.v.size ≤ size l
  | [], q, h => by cases h
  | a :: l, q, h => by
    unfold Pm9.get at h
    simp only [size]
    split at h
    · cases h; omega
    · have := get_size h; omega
set_option maxRecDepth 20000 in
set_option maxHeartbeats 4000000 in
theorem put_any {w : World} {S : Nat → Prop} {p : Nat} {l : List Pr} {t : Tr} (h : MemAt w S p l t) (x : Pr) (hk : x.k.size ≤ 140737488351232) (hv : x.v.size ≤ 140737488351232) (hl : l.length ≤ 1152921504606846976) (hz : size l ≤ 1152921504606846976) :
    Calls Try.prog 9 #[.pointer (some ⟨p, 0, none⟩), .agg #[.string x.k, .string x.v, .bool x.g]] w fun e w' => e = .returned (.int .i64 (erg (may x))) ∧ MemTo S w w' p (Pm9.put x l) := by
  have st := St9.start h x
  have hs : Sorted t.flat := by rw [h.flat]; exact h.sorted
  have H := Lib.hid h
  obtain ⟨k, v, g⟩ := x
  dsimp only at hk hv st ⊢
  obtain ⟨W, hW⟩ : ∃ W, W = w.alloc (.cells #[.string k, .string v, .bool g] 33) := ⟨_, rfl⟩
  rw [← hW] at st
  obtain ⟨a, ha⟩ := Tr.ptr_shape t
  have HC := Lib.hid (check_any W ⟨k, v, g⟩ hk hv)
  obtain ⟨m0, m1, m2, mf, b0, b1, b2⟩ := st.cells
  rw [hW] at m0 m1 m2 b0 b1 b2
  dsimp only at b0 b1 b2
  have HW := Lib.hid hW
  have ST := Lib.hid st
  have HS := Lib.hid hs
  clear hW st h mf hs
  go_enter Try.func9, Try.ntmps9
  cases hm : may ⟨k, v, g⟩
  · rw [hm] at HC
    have hput : Pm9.put ⟨k, v, g⟩ l = l := by unfold Pm9.put; rw [hm]; rfl
    rw [hput]
    simp only [erg] at *
    clear hput hm
    go_wp2_with (go_at_call 11; rw [← HW.out]; (with_reducible refine HC.out.mono ?_); rintro e w2 ⟨rfl, hb2⟩; have ST2 := Lib.hid (ST.out.below hb2); clear hb2)
    go_ret
    exact ⟨rfl, t, St9.finish H.out ST2.out rfl rfl H.out.flat H.out.sorted⟩
  · rw [hm] at HC
    have hput : Pm9.put ⟨k, v, g⟩ l = ins ⟨k, v, g⟩ l := by unfold Pm9.put; rw [hm]; rfl
    have hsz := ins_size (p := ⟨k, v, g⟩) H.out.sorted
    have hso := ins_sorted (p := ⟨k, v, g⟩) H.out.sorted
    have hsp := Tr.find_spec k HS.out
    rw [H.out.flat] at hsp
    have hv2 : v.size ≤ 262144 := by unfold may at hm; simp at hm; omega
    have hk2 : k.size ≤ 512 := by unfold may at hm; simp at hm; omega
    rw [hput]
    simp only [erg] at *
    have HSZ := Lib.hid hsz
    have HSO := Lib.hid hso
    have HSP := Lib.hid hsp
    clear hput hm hsz hso hsp
    go_wp2_with (first
      | (go_at_call 11; rw [← HW.out]; (with_reducible refine HC.out.mono ?_); rintro e w2 ⟨rfl, hb2⟩; have ST2 := ST.out.below hb2; have HCL := Lib.hid (Sc9.clone_any v w2 (by omega)); obtain ⟨_, _, _, _, _, d1, _⟩ := ST2.cells; dsimp only at d1; have ST3 := Lib.hid ST2; clear hb2 ST2)
      | (go_at_call 21; (with_reducible refine HCL.out.mono ?_); rintro e w3 ⟨rfl, hb3⟩; have ST4 := ST3.out.below hb3; obtain ⟨n0, n1, n2, nf, f0, f1, f2⟩ := ST4.cells; rw [ha] at n0; dsimp only at f0 f1 f2; have ST5 := Lib.hid ST4; clear hb3 ST4))
    have hf := find_any w3.drew k t ST5.out.drew.tree
    have nf0 := nf 0
    have nf1 := nf 1
    have nf2 := nf 2
    clear nf
    rcases HSP.out with ⟨h1, h2⟩ | ⟨b, q, n, y, z, h1, hqk, h2⟩
    · simp only [h1, ha, ptr_nil] at hf
      have HF := Lib.hid hf
      clear hf h1 HC HCL m0 m1 m2 b0 b1 b2
      go_region_held3 (fun W => W.cell? ⟨p, 0, none⟩ = some (.pointer a) ∧ W.cell? ⟨w.heap.size, 0, none⟩ = some (.string k)) (go_keep) (first | (go_at_call 22; (with_reducible refine HF.out.mono ?_); rintro e w4 ⟨rfl, rfl⟩))
      all_goals
        go_wp2
        obtain ⟨w4, hw4⟩ : ∃ w4, w4 = w3.drew := ⟨_, rfl⟩
        have st4 := ST5.out.drew
        rw [← hw4] at st4 ⊢
        have ST6 := Lib.hid st4
        obtain ⟨n0, n1, n2, nf, f0, f1, f2⟩ := st4.cells
        rw [ha] at n0
        dsimp only at f0 f1 f2
        have HCL2 := Lib.hid (Sc9.clone_any k w4.drew (by omega))
        have H2 := Lib.hid h2
        clear hw4 st4 nf n1 n2 h2 nf0 nf1 nf2
        refine wp_region_held_drew (S := (fun W => W.cell? ⟨w.heap.size, 0, none⟩ = some (.string k) ∧ W.cell? ⟨w.heap.size, 1, none⟩ = some (.string v) ∧ W.cell? ⟨w.heap.size, 2, none⟩ = some (.bool g))) (by kernel_rfl) ?_ (fun hHeld => ?_)
        · exact ⟨f0, f1, f2⟩
        refine heldIn (i := 0) (some 54) (v := ?_) rfl rfl (by kernel_rfl) (by kernel_rfl) (by kernel_rfl) (fun _ _ _ h => h) (by rfl) (by assumption) ?_ ?_
        rotate_left
        · intro w hSw
          obtain ⟨s0, s1, s2⟩ := hSw
          go_simp
          try with_reducible rfl
        try simp only [Act.put, List.setIfInBounds_toArray, List.set_cons_zero, List.set_cons_succ]
        refine heldIn (i := 1) (some 55) (v := ?_) rfl rfl (by kernel_rfl) (by kernel_rfl) (by kernel_rfl) (fun _ _ _ h => h) (by rfl) (by assumption) ?_ ?_
        rotate_left
        · intro w hSw
          obtain ⟨s0, s1, s2⟩ := hSw
          go_simp
          try with_reducible rfl
        try simp only [Act.put, List.setIfInBounds_toArray, List.set_cons_zero, List.set_cons_succ]
        refine heldIn (i := 2) (some 56) (v := ?_) rfl rfl (by kernel_rfl) (by kernel_rfl) (by kernel_rfl) (fun _ _ _ h => h) (by rfl) (by assumption) ?_ ?_
        rotate_left
        · intro w hSw
          obtain ⟨s0, s1, s2⟩ := hSw
          go_simp
          try with_reducible rfl
        try simp only [Act.put, List.setIfInBounds_toArray, List.set_cons_zero, List.set_cons_succ]
        refine heldIn (i := 3) (some 57) (v := ?_) rfl rfl (by kernel_rfl) (by kernel_rfl) (by kernel_rfl) (fun _ _ _ h => h) (by rfl) (by assumption) ?_ ?_
        rotate_left
        · intro w hSw
          obtain ⟨s0, s1, s2⟩ := hSw
          go_simp
          try with_reducible rfl
        try simp only [Act.put, List.setIfInBounds_toArray, List.set_cons_zero, List.set_cons_succ]
        refine heldIn (i := 5) (some 59) (v := ?_) rfl rfl (by kernel_rfl) (by kernel_rfl) (by kernel_rfl) (fun _ _ _ h => h) (by rfl) (by assumption) ?_ ?_
        rotate_left
        · intro w hSw
          obtain ⟨s0, s1, s2⟩ := hSw
          go_simp
          try with_reducible rfl
        try simp only [Act.put, List.setIfInBounds_toArray, List.set_cons_zero, List.set_cons_succ]
        refine heldIn (i := 6) (some 60) (v := ?_) rfl rfl (by kernel_rfl) (by kernel_rfl) (by kernel_rfl) (fun _ _ _ h => h) (by rfl) (by assumption) ?_ ?_
        rotate_left
        · intro w hSw
          obtain ⟨s0, s1, s2⟩ := hSw
          go_simp
          try with_reducible rfl
        try simp only [Act.put, List.setIfInBounds_toArray, List.set_cons_zero, List.set_cons_succ]
        refine heldIn (i := 8) (some 62) (v := ?_) rfl rfl (by kernel_rfl) (by kernel_rfl) (by kernel_rfl) (fun _ _ _ h => h) (by rfl) (by assumption) ?_ ?_
        rotate_left
        · intro w hSw
          obtain ⟨s0, s1, s2⟩ := hSw
          go_simp
          try with_reducible rfl
        try simp only [Act.put, List.setIfInBounds_toArray, List.set_cons_zero, List.set_cons_succ]
        refine heldIn (i := 9) (some 63) (v := ?_) rfl rfl (by kernel_rfl) (by kernel_rfl) (by kernel_rfl) (fun _ _ _ h => h) (by rfl) (by assumption) ?_ ?_
        rotate_left
        · intro w hSw
          obtain ⟨s0, s1, s2⟩ := hSw
          go_simp
          try with_reducible rfl
        try simp only [Act.put, List.setIfInBounds_toArray, List.set_cons_zero, List.set_cons_succ]
        refine heldIn (i := 10) (some 64) (v := ?_) rfl rfl (by kernel_rfl) (by kernel_rfl) (by kernel_rfl) (fun _ _ _ h => h) (by rfl) (by assumption) ?_ ?_
        rotate_left
        · intro w hSw
          obtain ⟨s0, s1, s2⟩ := hSw
          go_simp
          try with_reducible rfl
        try simp only [Act.put, List.setIfInBounds_toArray, List.set_cons_zero, List.set_cons_succ]
        refine wpAnyH_ready (rs := [4, 7]) (by kernel_rfl) (by simp) ?_
        refine AllReadyH.cons rfl (fun K hK => ?_) ?_
        · go_simp
          refine hK.out _ _ ?_ (fun hHeld => ?_)
          · first | (with_reducible exact And.intro (by assumption) (And.intro (by assumption) (by assumption))) | go_keep
          clear hK K
          try simp only [Act.put, List.setIfInBounds_toArray, List.set_cons_zero, List.set_cons_succ]
          refine wpAnyH_ready (rs := [7]) (by kernel_rfl) (by simp) ?_
          refine AllReadyH.cons rfl (fun K hK => ?_) ?_
          · go_simp
            (go_at_call 21)
            (with_reducible refine HCL2.out.mono ?_)
            rintro e w5 ⟨rfl, hb5⟩
            have st7 := ST6.out.drew.below hb5
            have had := add_any ⟨k, v, g⟩ t w5 st7.tree st7.once
            obtain ⟨n0, n1, n2, nf, f0, f1, f2⟩ := st7.cells
            rw [ha] at n0 had
            dsimp only at f0 f1 f2 had
            have ST7 := Lib.hid st7
            have HAD := Lib.hid had
            clear had st7 hb5 n1 n2 nf
            refine hK.out _ _ ?_ (fun hHeld => ?_)
            · first | (with_reducible exact And.intro (by assumption) (And.intro (by assumption) (by assumption))) | go_keep
            clear hK K
            try simp only [Act.put, List.setIfInBounds_toArray, List.set_cons_zero, List.set_cons_succ]
            refine heldIn (i := 11) (some 65) (v := ?_) rfl rfl (by kernel_rfl) (by kernel_rfl) (by kernel_rfl) (fun _ _ _ h => h) (by rfl) (by assumption) ?_ ?_
            rotate_left
            · intro w hSw
              obtain ⟨s0, s1, s2⟩ := hSw
              go_simp
              try with_reducible rfl
            try simp only [Act.put, List.setIfInBounds_toArray, List.set_cons_zero, List.set_cons_succ]
            refine wpAnyH_ready (rs := [12]) (by kernel_rfl) (by simp) ?_
            refine AllReadyH.cons rfl (fun K hK => ?_) ?_
            · go_simp
              (go_at_call 23)
              (with_reducible refine HAD.out.mono ?_)
              rintro e w6 ⟨i, ai, hi, hai, rfl, ht, hT⟩
              have m6 : w6.heap[p]? = some (memO t.ptr (l.length : Int) (size l : Int)) := (hT.block p (lt_of_at ST7.out.mem) ST7.out.out).trans ST7.out.mem
              have c6 := cell_of m6 0
              have f6 := free_of m6 0
              rw [ha] at c6
              have hst8 := ST7.out.add hi hai ht hT
              obtain ⟨_, _, _, _, x0, x1, x2⟩ := hst8.cells
              have y6 := (hT.block w.heap.size (lt_of_at ST7.out.box) ST7.out.bxt).trans ST7.out.box
              have y0 := cell_of y6 0
              have y1 := cell_of y6 1
              have y2 := cell_of y6 2
              dsimp only at x0 x1 x2
              have ST8 := Lib.hid hst8
              have hne : ¬ w.heap.size = p := hst8.bxp
              clear hi hai ht hT m6 hst8 y6
              refine hK.out _ _ ?_ (fun hHeld => ?_)
              · first | (with_reducible exact And.intro (by assumption) (And.intro (by assumption) (by assumption))) | go_keep
              clear hK K
              try simp only [Act.put, List.setIfInBounds_toArray, List.set_cons_zero, List.set_cons_succ]
              refine heldIn (i := 13) (some 67) (v := ?_) rfl rfl (by kernel_rfl) (by kernel_rfl) (by kernel_rfl) (fun _ _ _ h => h) (by rfl) (by assumption) ?_ ?_
              rotate_left
              · intro w hSw
                obtain ⟨s0, s1, s2⟩ := hSw
                go_simp
                try with_reducible rfl
              try simp only [Act.put, List.setIfInBounds_toArray, List.set_cons_zero, List.set_cons_succ]
              refine heldIn (i := 14) (some 68) (v := ?_) rfl rfl (by kernel_rfl) (by kernel_rfl) (by kernel_rfl) (fun _ _ _ h => h) (by rfl) (by assumption) ?_ ?_
              rotate_left
              · intro w hSw
                obtain ⟨s0, s1, s2⟩ := hSw
                go_simp
                try with_reducible rfl
              try simp only [Act.put, List.setIfInBounds_toArray, List.set_cons_zero, List.set_cons_succ]
              refine wpAnyH_ready (rs := [15]) (by kernel_rfl) (by simp) ?_
              refine AllReadyH.cons rfl (fun K hK => ?_) ?_
              · go_simp
                refine hK.out _ _ ?_ (fun hHeld => ?_)
                · first | (with_reducible exact And.intro (by assumption) (And.intro (by assumption) (by assumption))) | go_keep
                clear hK K
                try simp only [Act.put, List.setIfInBounds_toArray, List.set_cons_zero, List.set_cons_succ]
                refine wpAnyH_done (by kernel_rfl) ?_ _
                obtain ⟨w7, hw7⟩ : ∃ w7, w7 = w6.setCell ⟨p, 0, none⟩ (.pointer ai) := ⟨_, rfl⟩
                have st8 := ST8.out
                rw [← hw7] at st8 ⊢
                have st9 := st8.count ((l.length : Int) + 1)
                obtain ⟨i0, i1, i2, nf, j0, j1, j2⟩ := st8.cells
                obtain ⟨k0, k1, k2, kf, o0, o1, o2⟩ := st9.cells
                dsimp only at j0 j1 j2 o0 o1 o2
                have nf1 := nf 1
                have nf2 := nf 2
                have kf2 := kf 2
                have ST9 := Lib.hid st9
                clear st8 st9 hw7 nf ST8 i0 k0 kf
                go_wp2
                obtain ⟨w8, hw8⟩ : ∃ w8, w8 = w7.setCell ⟨p, 1, none⟩ (.int .i64 ((l.length : Int) + 1)) := ⟨_, rfl⟩
                rw [← hw8] at k1 k2 kf2 o0 o1 o2 ST9 ⊢
                have hfin := fun W (hs : St9 w t.ids p w.heap.size ⟨k, v, g⟩ (t.add i ⟨k, v, g⟩) ((l.length : Int) + 1) ((size l : Int) + ((k.size : Int) + (v.size : Int))) W) =>
                  St9.finish (l' := ins ⟨k, v, g⟩ l) H.out hs (by rw [(HSZ.out.1 H2.out).1]; omega) (by rw [(HSZ.out.1 H2.out).2]; omega) (by rw [Tr.add_flat i ⟨k, v, g⟩ HS.out (by rw [H.out.flat]; exact H2.out), H.out.flat]) HSO.out
                have HFIN := Lib.hid hfin
                clear hw8 hfin i1 i2 nf1 nf2 j0 j1 j2
                go_region
                all_goals
                  go_wp2
                  go_ret
                  exact ⟨rfl, _, HFIN.out _ (ST9.out.drew.sz _)⟩
              exact AllReadyH.nil
            exact AllReadyH.nil
          exact AllReadyH.nil
        refine AllReadyH.cons rfl (fun K hK => ?_) ?_
        · go_simp
          (go_at_call 21)
          (with_reducible refine HCL2.out.mono ?_)
          rintro e w5 ⟨rfl, hb5⟩
          have st7 := ST6.out.drew.below hb5
          have had := add_any ⟨k, v, g⟩ t w5 st7.tree st7.once
          obtain ⟨n0, n1, n2, nf, f0, f1, f2⟩ := st7.cells
          rw [ha] at n0 had
          dsimp only at f0 f1 f2 had
          have ST7 := Lib.hid st7
          have HAD := Lib.hid had
          clear had st7 hb5 n1 n2 nf
          refine hK.out _ _ ?_ (fun hHeld => ?_)
          · first | (with_reducible exact And.intro (by assumption) (And.intro (by assumption) (by assumption))) | go_keep
          clear hK K
          try simp only [Act.put, List.setIfInBounds_toArray, List.set_cons_zero, List.set_cons_succ]
          refine heldIn (i := 11) (some 65) (v := ?_) rfl rfl (by kernel_rfl) (by kernel_rfl) (by kernel_rfl) (fun _ _ _ h => h) (by rfl) (by assumption) ?_ ?_
          rotate_left
          · intro w hSw
            obtain ⟨s0, s1, s2⟩ := hSw
            go_simp
            try with_reducible rfl
          try simp only [Act.put, List.setIfInBounds_toArray, List.set_cons_zero, List.set_cons_succ]
          refine wpAnyH_ready (rs := [4]) (by kernel_rfl) (by simp) ?_
          refine AllReadyH.cons rfl (fun K hK => ?_) ?_
          · go_simp
            refine hK.out _ _ ?_ (fun hHeld => ?_)
            · first | (with_reducible exact And.intro (by assumption) (And.intro (by assumption) (by assumption))) | go_keep
            clear hK K
            try simp only [Act.put, List.setIfInBounds_toArray, List.set_cons_zero, List.set_cons_succ]
            refine wpAnyH_ready (rs := [12]) (by kernel_rfl) (by simp) ?_
            refine AllReadyH.cons rfl (fun K hK => ?_) ?_
            · go_simp
              (go_at_call 23)
              (with_reducible refine HAD.out.mono ?_)
              rintro e w6 ⟨i, ai, hi, hai, rfl, ht, hT⟩
              have m6 : w6.heap[p]? = some (memO t.ptr (l.length : Int) (size l : Int)) := (hT.block p (lt_of_at ST7.out.mem) ST7.out.out).trans ST7.out.mem
              have c6 := cell_of m6 0
              have f6 := free_of m6 0
              rw [ha] at c6
              have hst8 := ST7.out.add hi hai ht hT
              obtain ⟨_, _, _, _, x0, x1, x2⟩ := hst8.cells
              have y6 := (hT.block w.heap.size (lt_of_at ST7.out.box) ST7.out.bxt).trans ST7.out.box
              have y0 := cell_of y6 0
              have y1 := cell_of y6 1
              have y2 := cell_of y6 2
              dsimp only at x0 x1 x2
              have ST8 := Lib.hid hst8
              have hne : ¬ w.heap.size = p := hst8.bxp
              clear hi hai ht hT m6 hst8 y6
              refine hK.out _ _ ?_ (fun hHeld => ?_)
              · first | (with_reducible exact And.intro (by assumption) (And.intro (by assumption) (by assumption))) | go_keep
              clear hK K
              try simp only [Act.put, List.setIfInBounds_toArray, List.set_cons_zero, List.set_cons_succ]
              refine heldIn (i := 13) (some 67) (v := ?_) rfl rfl (by kernel_rfl) (by kernel_rfl) (by kernel_rfl) (fun _ _ _ h => h) (by rfl) (by assumption) ?_ ?_
              rotate_left
              · intro w hSw
                obtain ⟨s0, s1, s2⟩ := hSw
                go_simp
                try with_reducible rfl
              try simp only [Act.put, List.setIfInBounds_toArray, List.set_cons_zero, List.set_cons_succ]
              refine heldIn (i := 14) (some 68) (v := ?_) rfl rfl (by kernel_rfl) (by kernel_rfl) (by kernel_rfl) (fun _ _ _ h => h) (by rfl) (by assumption) ?_ ?_
              rotate_left
              · intro w hSw
                obtain ⟨s0, s1, s2⟩ := hSw
                go_simp
                try with_reducible rfl
              try simp only [Act.put, List.setIfInBounds_toArray, List.set_cons_zero, List.set_cons_succ]
              refine wpAnyH_ready (rs := [15]) (by kernel_rfl) (by simp) ?_
              refine AllReadyH.cons rfl (fun K hK => ?_) ?_
              · go_simp
                refine hK.out _ _ ?_ (fun hHeld => ?_)
                · first | (with_reducible exact And.intro (by assumption) (And.intro (by assumption) (by assumption))) | go_keep
                clear hK K
                try simp only [Act.put, List.setIfInBounds_toArray, List.set_cons_zero, List.set_cons_succ]
                refine wpAnyH_done (by kernel_rfl) ?_ _
                obtain ⟨w7, hw7⟩ : ∃ w7, w7 = w6.setCell ⟨p, 0, none⟩ (.pointer ai) := ⟨_, rfl⟩
                have st8 := ST8.out
                rw [← hw7] at st8 ⊢
                have st9 := st8.count ((l.length : Int) + 1)
                obtain ⟨i0, i1, i2, nf, j0, j1, j2⟩ := st8.cells
                obtain ⟨k0, k1, k2, kf, o0, o1, o2⟩ := st9.cells
                dsimp only at j0 j1 j2 o0 o1 o2
                have nf1 := nf 1
                have nf2 := nf 2
                have kf2 := kf 2
                have ST9 := Lib.hid st9
                clear st8 st9 hw7 nf ST8 i0 k0 kf
                go_wp2
                obtain ⟨w8, hw8⟩ : ∃ w8, w8 = w7.setCell ⟨p, 1, none⟩ (.int .i64 ((l.length : Int) + 1)) := ⟨_, rfl⟩
                rw [← hw8] at k1 k2 kf2 o0 o1 o2 ST9 ⊢
                have hfin := fun W (hs : St9 w t.ids p w.heap.size ⟨k, v, g⟩ (t.add i ⟨k, v, g⟩) ((l.length : Int) + 1) ((size l : Int) + ((k.size : Int) + (v.size : Int))) W) =>
                  St9.finish (l' := ins ⟨k, v, g⟩ l) H.out hs (by rw [(HSZ.out.1 H2.out).1]; omega) (by rw [(HSZ.out.1 H2.out).2]; omega) (by rw [Tr.add_flat i ⟨k, v, g⟩ HS.out (by rw [H.out.flat]; exact H2.out), H.out.flat]) HSO.out
                have HFIN := Lib.hid hfin
                clear hw8 hfin i1 i2 nf1 nf2 j0 j1 j2
                go_region
                all_goals
                  go_wp2
                  go_ret
                  exact ⟨rfl, _, HFIN.out _ (ST9.out.drew.sz _)⟩
              exact AllReadyH.nil
            exact AllReadyH.nil
          exact AllReadyH.nil
        exact AllReadyH.nil
    · simp only [h1, ha, ptr_node] at hf
      have HF := Lib.hid hf
      have ST6 := ST5.out.drew
      obtain ⟨x0, x1⟩ := find_in ST6.tree h1
      obtain ⟨q0, q1, q2, q3, q4, q5, qf⟩ := node_cells x0
      clear hf HC HCL m0 m1 m2 b0 b1 b2
      go_region_held3 (fun W => W.cell? ⟨p, 0, none⟩ = some (.pointer a) ∧ W.cell? ⟨w.heap.size, 0, none⟩ = some (.string k)) (go_keep) (first | (go_at_call 22; (with_reducible refine HF.out.mono ?_); rintro e w4 ⟨rfl, rfl⟩))
      all_goals
        go_wp2
        obtain ⟨w4, hw4⟩ : ∃ w4, w4 = w3.drew := ⟨_, rfl⟩
        rw [← hw4] at ST6 q0 q1 q2 q3 q4 q5 qf x0 ⊢
        obtain ⟨n0, n1, n2, nf, f0, f1, f2⟩ := ST6.cells
        dsimp only at f0 f1 f2
        have nf2 := nf 2
        have hqs : q.v.size ≤ size l := get_size h2
        have st5 := (ST6.sz ((size l : Int) + ((v.size : Int) - (q.v.size : Int)))).drew
        obtain ⟨w5, hw5⟩ : ∃ w5, w5 = (w4.setCell ⟨p, 2, none⟩ (.int .i64 ((size l : Int) + ((v.size : Int) - (q.v.size : Int))))).drew := ⟨_, rfl⟩
        have hbp : b ≠ p := fun e => ST6.out (e ▸ x1)
        have y0 : w5.heap[b]? = some (nodeO q n y.ptr z.ptr) := by rw [hw5]; show (w4.setCell _ _).heap[b]? = _; rw [setCell_ne _ _ _ _ hbp]; exact x0
        rw [← hw5] at st5
        have HW5 := Lib.hid hw5
        have HFD := Lib.hid h1
        have H2 := Lib.hid h2
        have Y0 := Lib.hid y0
        have ST7 := Lib.hid st5
        obtain ⟨g0, g1, g2, g3, g4, g5, gf⟩ := node_cells y0
        have gf1 := gf 1
        have gf2 := gf 2
        obtain ⟨i0, i1, i2, kf, j0, j1, j2⟩ := st5.cells
        dsimp only at j0 j1 j2
        clear hw4 hw5 nf n0 n1 q0 q2 q3 q4 q5 qf nf0 nf1 x0 st5 h1 h2 y0 g3 g4 g5 gf i0 i1 i2 kf ST6 f0 f1 f2
        have hfin := fun W (hs : St9 w t.ids p w.heap.size ⟨k, v, g⟩ (t.upd k v g) (l.length : Int) ((size l : Int) + ((v.size : Int) - (q.v.size : Int))) W) =>
          St9.finish (l' := ins ⟨k, v, g⟩ l) H.out hs (by rw [(HSZ.out.2 q H2.out).1]) (by have := (HSZ.out.2 q H2.out).2; omega) (by rw [Tr.upd_flat k v g HS.out (by rw [H.out.flat, H2.out]; exact fun h => by cases h), H.out.flat]) HSO.out
        have HFIN := Lib.hid hfin
        have hw12 : ∀ W : World, W.heap = w5.heap → ((W.setCell ⟨b, 1, none⟩ (.string v)).setCell ⟨b, 2, none⟩ (.bool g)).heap[b]? = some (nodeO ⟨q.k, v, g⟩ n y.ptr z.ptr) := fun W hW => setCell_heap (setCell_heap (b := b) (cs := #[.string q.k, .string q.v, .bool q.g, .int .i64 n, y.ptr, z.ptr]) (t := 48) (fr := (0, 0)) (by rw [hW]; exact Y0.out) 1 _) 2 _
        have HW12 := Lib.hid hw12
        clear hfin hw12
        go_region
        all_goals
          go_wp2
          rw [← HW5.out]
          go_region
        all_goals
          go_wp2
          go_ret
          refine ⟨rfl, _, HFIN.out _ (ST7.out.upd (W' := _) HFD.out (HW12.out w5.drew rfl) (fun i hi => ?_) ?_)⟩
          · show ((w5.setCell ⟨b, 1, none⟩ (.string v)).setCell ⟨b, 2, none⟩ (.bool g)).heap[i]? = w5.heap[i]?
            rw [setCell_ne _ _ _ _ hi, setCell_ne _ _ _ _ hi]
          · exact (tread_join (Tread.setCell (S := (· = b)) w5 ⟨b, 1, none⟩ (.string v) rfl) (Tread.setCell _ ⟨b, 2, none⟩ (.bool g) (.inl rfl))).drew
end Go.Proofs.Ytkbjmbllnnghlaa.Mg9
