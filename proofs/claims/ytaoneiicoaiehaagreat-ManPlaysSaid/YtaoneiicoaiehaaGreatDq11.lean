/- ManPlays' walk. -/
import Derived.Test.YtaoneiicoaiehaaGreatDn11
import Derived.Test.YtaoneiicoaiehaaGreatDp11
import Derived.Test.YtaoneiicoaiehaaGreatDb2
import Derived.Deep.LoopGhost
import Derived.Deep.RegionLaw
namespace Go.Proofs.YtaoneiicoaiehaaGreat.Dq11
open Go Go.RowKit Go.Lib Go.Proofs.YtaoneiicoaiehaaGreat Go.Proofs.YtaoneiicoaiehaaGreat.Dh Go.Proofs.YtaoneiicoaiehaaGreat.Dk Go.Proofs.YtaoneiicoaiehaaGreat.Fm Go.Proofs.YtaoneiicoaiehaaGreat.Cl Go.Proofs.YtaoneiicoaiehaaGreat.Nm Go.Proofs.YtaoneiicoaiehaaGreat.St Go.Proofs.YtaoneiicoaiehaaGreat.Sy Go.Proofs.YtaoneiicoaiehaaGreat.Ol11 Go.Proofs.YtaoneiicoaiehaaGreat.Fr11 Go.Proofs.YtaoneiicoaiehaaGreat.Fq11 Go.Proofs.YtaoneiicoaiehaaGreat.Ck11 Go.Proofs.YtaoneiicoaiehaaGreat.Fz11 Go.Proofs.YtaoneiicoaiehaaGreat.Fw11 Go.Proofs.YtaoneiicoaiehaaGreat.Fx11 Go.Proofs.YtaoneiicoaiehaaGreat.Fy11 Go.Proofs.YtaoneiicoaiehaaGreat.Ap11 Go.Proofs.YtaoneiicoaiehaaGreat.Kp11 Go.Proofs.YtaoneiicoaiehaaGreat.Sv11 Go.Proofs.YtaoneiicoaiehaaGreat.Da11 Go.Proofs.YtaoneiicoaiehaaGreat.Db11 Go.Proofs.YtaoneiicoaiehaaGreat.Dc11 Go.Proofs.YtaoneiicoaiehaaGreat.Dd11 Go.Proofs.YtaoneiicoaiehaaGreat.De11 Go.Proofs.YtaoneiicoaiehaaGreat.Df11 Go.Proofs.YtaoneiicoaiehaaGreat.Dg11 Go.Proofs.YtaoneiicoaiehaaGreat.Di11 Go.Proofs.YtaoneiicoaiehaaGreat.Dj11 Go.Proofs.YtaoneiicoaiehaaGreat.Nu11 Go.Proofs.YtaoneiicoaiehaaGreat.Ma11 Go.Proofs.YtaoneiicoaiehaaGreat.Pg11 Go.Proofs.YtaoneiicoaiehaaGreat.Gb11 Go.Proofs.YtaoneiicoaiehaaGreat.Mn11 Go.Proofs.YtaoneiicoaiehaaGreat.Ld11 Go.Proofs.YtaoneiicoaiehaaGreat.Dl11 Go.Proofs.YtaoneiicoaiehaaGreat.Hv11 Go.Proofs.YtaoneiicoaiehaaGreat.Av11 Go.Proofs.YtaoneiicoaiehaaGreat.Sa11 Go.Proofs.YtaoneiicoaiehaaGreat.Dm11 Go.Proofs.YtaoneiicoaiehaaGreat.Dn11
section
variable {P : Program} {md : Region.Mode} {ops : Array Oper} {Q : Exit → Act → World → Prop} {S : World → Prop}
/-- An operation that is not wanted. -/
theorem heldUn {i : Nat} {oi : Oper} {fuel : Nat} {listed : Array Bool} {a : Act} {w : World} (d : Option Tmp) (hi : ops[i]? = some oi) (hd : oi.dst = d) (hs : Region.noSelect ops = true) (hf : Region.free md ops listed i = true)
    (hr : (Region.ready md ops listed).contains i = true) (hQ : ∀ c a w, Q (.panic c) (a.put d undef) w → Q (.panic c) a w) (hw : Region.wanted oi (yielded ops a.tmps) = false) (hS : S w)
    (h : wpAnyH P md ops Q S fuel (listed.setIfInBounds i true) (a.put d undef) w) : wpAnyH P md ops Q S (fuel + 1) listed a w := by
  subst hd
  exact wpAnyH_take hi hs hf hr hQ (Or.inr ⟨hw, rfl⟩) hS h
/-- One that yields a value, whatever the world that meets S. -/
theorem heldIn {i : Nat} {oi : Oper} {fuel : Nat} {listed : Array Bool} {a : Act} {w : World} (d : Option Tmp) {v : Value} (hi : ops[i]? = some oi) (hd : oi.dst = d) (hs : Region.noSelect ops = true) (hf : Region.free md ops listed i = true)
    (hr : (Region.ready md ops listed).contains i = true) (hQ : ∀ c a w, Q (.panic c) (a.put d v) w → Q (.panic c) a w) (hw : Region.wanted oi (yielded ops a.tmps) = true) (hS : S w) (hy : ∀ w, S w → (execOp a.eval oi).run P w = .ok (.value v) w)
    (h : wpAnyH P md ops Q S fuel (listed.setIfInBounds i true) (a.put d v) w) : wpAnyH P md ops Q S (fuel + 1) listed a w := by
  subst hd
  exact wpAnyH_take hi hs hf hr hQ (Or.inl ⟨hw, hy⟩) hS h
end
theorem bne_int (E : Int) : (E != E) = false := by simp
theorem duo_start {w0 w : World} {p : Nat} {n : Int} (h0 : 0 ≤ n) (h1 : n ≤ 16777216) (hb : Below w0.heap.size w0 w) (hf : Full w (fun x => w0.heap.size ≤ x ∧ x < w.heap.size) p ⟨n, [], [], [], -1, false⟩) :
    Duo w0 (w.alloc (diskO (.slice none 0 0) (.slice none 0 0) (.slice none 0 0) n (-1) false)) (fun x => w0.heap.size ≤ x ∧ x < w.heap.size) (fun b => b = w.heap.size) p w.heap.size ⟨n, [], [], [], -1, false⟩ ⟨n, [], [], [], -1, false⟩ :=
  ⟨hb.alloc hb.size _, Full.frame hf (fun x _ hx => heap_alloc _ _ _ hx), new_ref w n h0 h1, fun x hx => hx.1, fun x hx => by rw [hx]; exact hb.size, fun x hx => by rw [size_alloc]; have := hx.2; omega, fun x hx => by rw [size_alloc, hx]; omega, fun x hx hq => by rw [hq] at hx; have := hx.2; omega⟩
theorem duo_c {w0 w : World} {S Q : Nat → Prop} {p q : Nat} {D : St} (h : Duo w0 w S Q p q D D) : ∃ A c, w.cell? ⟨q, 2, none⟩ = some (.slice A D.loose.length c) := by
  obtain ⟨R, R', A, A', c, c', v, hi⟩ := h.ref
  obtain ⟨Av, cv, rfl⟩ := hi.row.shape
  exact ⟨Av, cv, by rw [cell_of hi.blk.2]; rfl⟩
/-- The document's row, in a later world. -/
theorem duo_row {w0 w V : World} {S Q : Nat → Prop} {p q : Nat} {D E : St} (h : Duo w0 w S Q p q D E) (hb : Below w.heap.size w V) : ∃ A c, V.cell? ⟨q, 0, none⟩ = some (.slice A (Fi.files E.now).length c) ∧ V.ownsRow 0 71 2 (.slice A (Fi.files E.now).length c) (Fi.files E.now).length (Sm.cellsF (Fi.files E.now)) := by
  obtain ⟨R, R', A, A', c, c', v, hi⟩ := h.ref
  have he := Dp11.files_eq hi.rnow hi.fit.now.uq
  rw [he]
  have hblk := (hb.block _ (lt_of_at hi.blk.2)).trans hi.blk.2
  have hr := (hi.now.keep (Q' := Q) (fun b _ hl => hb.block b hl) (fun _ x => x)).1
  refine ⟨A, c, by rw [cell_of hblk]; rfl, ?_⟩
  rw [Dp11.cells_eq]
  exact hr
theorem fit_names {D : St} (h : FitD D) : (∀ e ∈ D.now, nameOk e.1 = true) ∧ D.now.length ≤ 900 :=
  ⟨fun e he => (h.now.nm _ (List.mem_map.2 ⟨e, he, rfl⟩)).ok, by have := h.now.len; omega⟩
theorem files_len' {D : St} (h : FitD D) : (Fi.files D.now).length ≤ 1048576 := by
  rw [Fi.files_len, Fi.names_len]; have := h.now.len; omega
set_option maxRecDepth 100000 in
set_option maxHeartbeats 16000000 in
theorem walk (hsort : Sorts) (w : World) (ao : Option Addr) (cap : Nat) (l : List Sx) (h : CameIn w ao l) :
    Calls Tryz.prog 3 #[.slice ao l.length cap] w fun e w' => e = .returned (.bool true) ∧ Below w.heap.size w w' := by
  have HH := Lib.hid (heavy_any h cap)
  have HN := Lib.hid (Nw.new_any w 65536 (by omega) (by omega))
  have HCI := Lib.hid h
  clear h
  go_enter Tryz.func3, Tryz.ntmps3
  go_wp2_with fail
  refine HH.out.mono ?_
  rintro e w1 ⟨⟨r, rfl, hr⟩, rfl⟩
  clear HH
  cases r with
  | true =>
    clear hr HN
    have HA := Lib.hid (alive_any hsort w1)
    go_wp2_with fail
    refine HA.out.mono ?_
    rintro e w2 ⟨rfl, hb⟩
    have HB := Lib.hid hb
    clear hb
    go_wp2
    go_ret
    exact ⟨rfl, HB.out⟩
  | false =>
    have HV := Lib.hid (hr rfl)
    clear hr
    go_wp2_with fail
    refine HN.out.mono ?_
    rintro e w2 ⟨p, rfl, hb2, hf2⟩
    have HR := Lib.hid (Dg11.new_any w2 65536 (by omega) (by omega))
    have HS := Lib.hid (duo_start (by omega) (by omega) hb2 hf2)
    clear hb2 hf2 HN
    go_wp2_with fail
    refine HR.out.mono ?_
    rintro e w3 ⟨rfl, rfl⟩
    clear HR
    generalize w2.alloc (diskO (.slice none 0 0) (.slice none 0 0) (.slice none 0 0) 65536 (-1) false) = w3 at HS ⊢
    generalize w2.heap.size = q at HS ⊢
    go_wp2
    go_loopg [7] (l.length + 1) (fun g1 vi wr => ∃ (k : Nat) (S Q : Nat → Prop) (D : St), vi = .int .i64 (k : Int) ∧ k ≤ l.length ∧ l.length + 1 - k ≤ g1 ∧ Hid (Duo w1 wr S Q p q D D) ∧ Hid (D.loose.length ≤ 5 * k))
    case atStart => exact ⟨0, _, _, _, rfl, by omega, by omega, HS, Lib.hid (Nat.zero_le _)⟩
    case round =>
      obtain ⟨k, S, Q, D, rfl, hk, hg, HS1, HL⟩ := hrel
      clear HS
      by_cases hlt : k < l.length
      · have hin := HCI.out
        have hsl : l[k] ∈ l := List.getElem_mem hlt
        have hsok := hin.ok _ hsl
        have hs20 := HV.out.2 _ hsl
        obtain ⟨b, o, rfl, hblt, hcs⟩ := hin.cells (fun e => by rw [e] at hlt; simp at hlt)
        have hcl := (hcs k hlt).keep hblt HS1.out.bel
        obtain ⟨s, hse⟩ : ∃ s, s = l[k] := ⟨_, rfl⟩
        rw [← hse] at hsok hs20 hcl
        obtain ⟨c0, c1, c2, c3, c4, c5⟩ := hcl
        have hl60 := HV.out.1
        have hil : (k : Int) < (l.length : Int) := by omega
        have hz1 : decide ((k : Int) < (l.length : Int)) = true := decide_eq_true hil
        have hdo := does_any hsort (HS1.out.below (w' := wr.drew) ⟨rfl, rfl, rfl, Nat.le_refl _, fun _ _ => rfl⟩) s hsok hs20 (by have := HL.out; omega)
        unfold stepV at hdo
        have HL2 := Lib.hid (show (stepS D s).loose.length ≤ 5 * (k + 1) by have := step_loose D s; have := HL.out; omega)
        have hlo : (stepS D s).loose.length ≤ 1099511627776 := by have := HL2.out; omega
        obtain ⟨D2, hD2⟩ : ∃ D2, D2 = stepS D s := ⟨_, rfl⟩
        rw [← hD2] at hdo HL2 hlo
        have HDO := Lib.hid hdo
        have HLO := Lib.hid hlo
        -- region
        have HP : Hid (∀ V, Below w1.heap.size w1 V → V.cell? ⟨b, o + k * 6, none⟩ = some (.int .i64 s.o) ∧ V.cell? ⟨b, o + k * 6 + 1, none⟩ = some (.int .u64 (s.m.wal : Int)) ∧ V.cell? ⟨b, o + k * 6 + 2, none⟩ = some (.slice s.A s.m.runs.length s.c) ∧ V.cell? ⟨b, o + k * 6 + 3, none⟩ = some (.int .u64 (s.m.next : Int)) ∧ V.cell? ⟨b, o + k * 6 + 4, none⟩ = some (.int .i64 s.n) ∧ V.cell? ⟨b, o + k * 6 + 5, none⟩ = some (.int .i64 s.k)) := Lib.hid fun V hV => by
          have hx := (hcs k hlt).keep hblt hV
          rw [← hse] at hx
          exact ⟨hx.c0, hx.c1, hx.c2, hx.c3, hx.c4, hx.c5⟩
        have hbu := bne_int (used D2.now : Int)
        have hbl := bne_int (D2.loose.length : Int)
        clear hsl hsok hse hcs hin hs20 hdo hD2 hlo
        go_wp2
        refine wp_region_held_drew (S := (fun V => V.cell? ⟨b, o + k * 6, none⟩ = some (.int .i64 s.o) ∧ V.cell? ⟨b, o + k * 6 + 1, none⟩ = some (.int .u64 (s.m.wal : Int)) ∧ V.cell? ⟨b, o + k * 6 + 2, none⟩ = some (.slice s.A s.m.runs.length s.c) ∧ V.cell? ⟨b, o + k * 6 + 3, none⟩ = some (.int .u64 (s.m.next : Int)) ∧ V.cell? ⟨b, o + k * 6 + 4, none⟩ = some (.int .i64 s.n) ∧ V.cell? ⟨b, o + k * 6 + 5, none⟩ = some (.int .i64 s.k))) (by kernel_rfl) ?_ (fun hHeld => ?_)
        · exact ⟨c0, c1, c2, c3, c4, c5⟩
        refine heldIn (i := 0) (some 33) (v := ?_) rfl rfl (by kernel_rfl) (by kernel_rfl) (by kernel_rfl) (fun _ _ _ h => h) (by rfl) (by assumption) ?_ ?_
        rotate_left
        · intro w hSw
          obtain ⟨s0, s1, s2, s3, s4, s5⟩ := hSw
          go_simp
          try with_reducible rfl
        try simp only [Act.put, List.setIfInBounds_toArray, List.set_cons_zero, List.set_cons_succ]
        refine heldIn (i := 1) (some 34) (v := ?_) rfl rfl (by kernel_rfl) (by kernel_rfl) (by kernel_rfl) (fun _ _ _ h => h) (by rfl) (by assumption) ?_ ?_
        rotate_left
        · intro w hSw
          obtain ⟨s0, s1, s2, s3, s4, s5⟩ := hSw
          go_simp
          try with_reducible rfl
        try simp only [Act.put, List.setIfInBounds_toArray, List.set_cons_zero, List.set_cons_succ]
        refine heldIn (i := 2) (some 35) (v := ?_) rfl rfl (by kernel_rfl) (by kernel_rfl) (by kernel_rfl) (fun _ _ _ h => h) (by rfl) (by assumption) ?_ ?_
        rotate_left
        · intro w hSw
          obtain ⟨s0, s1, s2, s3, s4, s5⟩ := hSw
          go_simp
          try with_reducible rfl
        try simp only [Act.put, List.setIfInBounds_toArray, List.set_cons_zero, List.set_cons_succ]
        refine heldIn (i := 3) (some 36) (v := ?_) rfl rfl (by kernel_rfl) (by kernel_rfl) (by kernel_rfl) (fun _ _ _ h => h) (by rfl) (by assumption) ?_ ?_
        rotate_left
        · intro w hSw
          obtain ⟨s0, s1, s2, s3, s4, s5⟩ := hSw
          go_simp
          try with_reducible rfl
        try simp only [Act.put, List.setIfInBounds_toArray, List.set_cons_zero, List.set_cons_succ]
        refine heldIn (i := 4) (some 37) (v := ?_) rfl rfl (by kernel_rfl) (by kernel_rfl) (by kernel_rfl) (fun _ _ _ h => h) (by rfl) (by assumption) ?_ ?_
        rotate_left
        · intro w hSw
          obtain ⟨s0, s1, s2, s3, s4, s5⟩ := hSw
          go_simp
          try with_reducible rfl
        try simp only [Act.put, List.setIfInBounds_toArray, List.set_cons_zero, List.set_cons_succ]
        refine heldIn (i := 5) (some 38) (v := ?_) rfl rfl (by kernel_rfl) (by kernel_rfl) (by kernel_rfl) (fun _ _ _ h => h) (by rfl) (by assumption) ?_ ?_
        rotate_left
        · intro w hSw
          obtain ⟨s0, s1, s2, s3, s4, s5⟩ := hSw
          go_simp
          try with_reducible rfl
        try simp only [Act.put, List.setIfInBounds_toArray, List.set_cons_zero, List.set_cons_succ]
        refine wpAnyH_ready (rs := [6]) (by kernel_rfl) (by simp) ?_
        refine AllReadyH.cons rfl (fun K hK => ?_) ?_
        · go_simp
          (go_at_call 8)
          (with_reducible refine HDO.out.mono ?_)
          rintro e w4 ⟨rfl, S2, Q2, hd⟩
          obtain ⟨A9, c9, k2⟩ := duo_c hd
          obtain ⟨q0, q1, q2, q3, q4, q5⟩ := HP.out _ hd.bel
          have HD4 := Lib.hid hd
          have HU := Lib.hid (Sy.used_any hd.full)
          have HRU := Lib.hid (Db11.used_any hd.ref)
          have HLS := Lib.hid (Sy.loose_any hd.full HLO.out)
          clear hd HDO
          refine hK.out _ _ ?_ (fun hHeld => ?_)
          · exact ⟨q0, q1, q2, q3, q4, q5⟩
          clear hK K
          try simp only [Act.put, List.setIfInBounds_toArray, List.set_cons_zero, List.set_cons_succ]
          refine heldIn (i := 7) (some 40) (v := ?_) rfl rfl (by kernel_rfl) (by kernel_rfl) (by kernel_rfl) (fun _ _ _ h => h) (by rfl) (by assumption) ?_ ?_
          rotate_left
          · intro w hSw
            obtain ⟨s0, s1, s2, s3, s4, s5⟩ := hSw
            go_simp
            try with_reducible rfl
          try simp only [Act.put, List.setIfInBounds_toArray, List.set_cons_zero, List.set_cons_succ]
          refine heldIn (i := 8) (some 41) (v := ?_) rfl rfl (by kernel_rfl) (by kernel_rfl) (by kernel_rfl) (fun _ _ _ h => h) (by rfl) (by assumption) ?_ ?_
          rotate_left
          · intro w hSw
            obtain ⟨s0, s1, s2, s3, s4, s5⟩ := hSw
            go_simp
            try with_reducible rfl
          try simp only [Act.put, List.setIfInBounds_toArray, List.set_cons_zero, List.set_cons_succ]
          refine heldIn (i := 9) (some 42) (v := ?_) rfl rfl (by kernel_rfl) (by kernel_rfl) (by kernel_rfl) (fun _ _ _ h => h) (by rfl) (by assumption) ?_ ?_
          rotate_left
          · intro w hSw
            obtain ⟨s0, s1, s2, s3, s4, s5⟩ := hSw
            go_simp
            try with_reducible rfl
          try simp only [Act.put, List.setIfInBounds_toArray, List.set_cons_zero, List.set_cons_succ]
          refine heldIn (i := 11) (some 44) (v := ?_) rfl rfl (by kernel_rfl) (by kernel_rfl) (by kernel_rfl) (fun _ _ _ h => h) (by rfl) (by assumption) ?_ ?_
          rotate_left
          · intro w hSw
            obtain ⟨s0, s1, s2, s3, s4, s5⟩ := hSw
            go_simp
            try with_reducible rfl
          try simp only [Act.put, List.setIfInBounds_toArray, List.set_cons_zero, List.set_cons_succ]
          refine wpAnyH_ready (rs := [10]) (by kernel_rfl) (by simp) ?_
          refine AllReadyH.cons rfl (fun K hK => ?_) ?_
          · go_simp
            (go_at_call 9)
            (with_reducible refine HU.out.mono ?_)
            rintro e w4 ⟨rfl, rfl⟩
            refine hK.out _ _ ?_ (fun hHeld => ?_)
            · exact ⟨q0, q1, q2, q3, q4, q5⟩
            clear hK K
            try simp only [Act.put, List.setIfInBounds_toArray, List.set_cons_zero, List.set_cons_succ]
            refine wpAnyH_ready (rs := [12]) (by kernel_rfl) (by simp) ?_
            refine AllReadyH.cons rfl (fun K hK => ?_) ?_
            · go_simp
              (go_at_call 10)
              (with_reducible refine HRU.out.mono ?_)
              rintro e w4 ⟨rfl, rfl⟩
              refine hK.out _ _ ?_ (fun hHeld => ?_)
              · exact ⟨q0, q1, q2, q3, q4, q5⟩
              clear hK K
              try simp only [Act.put, List.setIfInBounds_toArray, List.set_cons_zero, List.set_cons_succ]
              refine heldIn (i := 13) (some 46) (v := ?_) rfl rfl (by kernel_rfl) (by kernel_rfl) (by kernel_rfl) (fun _ _ _ h => h) (by rfl) (by assumption) ?_ ?_
              rotate_left
              · intro w hSw
                obtain ⟨s0, s1, s2, s3, s4, s5⟩ := hSw
                go_simp
                try with_reducible rfl
              try simp only [Act.put, List.setIfInBounds_toArray, List.set_cons_zero, List.set_cons_succ]
              refine heldIn (i := 14) (some 47) (v := ?_) rfl rfl (by kernel_rfl) (by kernel_rfl) (by kernel_rfl) (fun _ _ _ h => h) (by rfl) (by assumption) ?_ ?_
              rotate_left
              · intro w hSw
                obtain ⟨s0, s1, s2, s3, s4, s5⟩ := hSw
                go_simp
                try with_reducible rfl
              try simp only [Act.put, List.setIfInBounds_toArray, List.set_cons_zero, List.set_cons_succ]
              refine heldIn (i := 15) (some 48) (v := ?_) rfl rfl (by kernel_rfl) (by kernel_rfl) (by kernel_rfl) (fun _ _ _ h => h) (by rfl) (by assumption) ?_ ?_
              rotate_left
              · intro w hSw
                obtain ⟨s0, s1, s2, s3, s4, s5⟩ := hSw
                go_simp
                try with_reducible rfl
              try simp only [Act.put, List.setIfInBounds_toArray, List.set_cons_zero, List.set_cons_succ]
              refine heldIn (i := 16) (some 49) (v := ?_) rfl rfl (by kernel_rfl) (by kernel_rfl) (by kernel_rfl) (fun _ _ _ h => h) (by rfl) (by assumption) ?_ ?_
              rotate_left
              · intro w hSw
                obtain ⟨s0, s1, s2, s3, s4, s5⟩ := hSw
                go_simp
                try with_reducible rfl
              try simp only [Act.put, List.setIfInBounds_toArray, List.set_cons_zero, List.set_cons_succ]
              refine heldIn (i := 18) (some 51) (v := ?_) rfl rfl (by kernel_rfl) (by kernel_rfl) (by kernel_rfl) (fun _ _ _ h => h) (by rfl) (by assumption) ?_ ?_
              rotate_left
              · intro w hSw
                obtain ⟨s0, s1, s2, s3, s4, s5⟩ := hSw
                go_simp
                try with_reducible rfl
              try simp only [Act.put, List.setIfInBounds_toArray, List.set_cons_zero, List.set_cons_succ]
              refine heldIn (i := 19) (some 52) (v := ?_) rfl rfl (by kernel_rfl) (by kernel_rfl) (by kernel_rfl) (fun _ _ _ h => h) (by rfl) (by assumption) ?_ ?_
              rotate_left
              · intro w hSw
                obtain ⟨s0, s1, s2, s3, s4, s5⟩ := hSw
                go_simp
                try with_reducible rfl
              try simp only [Act.put, List.setIfInBounds_toArray, List.set_cons_zero, List.set_cons_succ]
              refine heldIn (i := 20) (some 53) (v := ?_) rfl rfl (by kernel_rfl) (by kernel_rfl) (by kernel_rfl) (fun _ _ _ h => h) (by rfl) (by assumption) ?_ ?_
              rotate_left
              · intro w hSw
                obtain ⟨s0, s1, s2, s3, s4, s5⟩ := hSw
                go_simp
                try with_reducible rfl
              try simp only [Act.put, List.setIfInBounds_toArray, List.set_cons_zero, List.set_cons_succ]
              refine wpAnyH_ready (rs := [17, 21]) (by kernel_rfl) (by simp) ?_
              refine AllReadyH.cons rfl (fun K hK => ?_) ?_
              · go_simp
                (go_at_call 11)
                (with_reducible refine HLS.out.mono ?_)
                rintro e w4 ⟨rfl, rfl⟩
                refine hK.out _ _ ?_ (fun hHeld => ?_)
                · exact ⟨q0, q1, q2, q3, q4, q5⟩
                clear hK K
                try simp only [Act.put, List.setIfInBounds_toArray, List.set_cons_zero, List.set_cons_succ]
                refine wpAnyH_ready (rs := [21]) (by kernel_rfl) (by simp) ?_
                refine AllReadyH.cons rfl (fun K hK => ?_) ?_
                · go_simp
                  refine hK.out _ _ ?_ (fun hHeld => ?_)
                  · exact ⟨q0, q1, q2, q3, q4, q5⟩
                  clear hK K
                  try simp only [Act.put, List.setIfInBounds_toArray, List.set_cons_zero, List.set_cons_succ]
                  refine heldIn (i := 22) (some 55) (v := ?_) rfl rfl (by kernel_rfl) (by kernel_rfl) (by kernel_rfl) (fun _ _ _ h => h) (by rfl) (by assumption) ?_ ?_
                  rotate_left
                  · intro w hSw
                    obtain ⟨s0, s1, s2, s3, s4, s5⟩ := hSw
                    go_simp
                    try with_reducible rfl
                  try simp only [Act.put, List.setIfInBounds_toArray, List.set_cons_zero, List.set_cons_succ]
                  refine heldIn (i := 23) (some 56) (v := ?_) rfl rfl (by kernel_rfl) (by kernel_rfl) (by kernel_rfl) (fun _ _ _ h => h) (by rfl) (by assumption) ?_ ?_
                  rotate_left
                  · intro w hSw
                    obtain ⟨s0, s1, s2, s3, s4, s5⟩ := hSw
                    go_simp
                    try with_reducible rfl
                  try simp only [Act.put, List.setIfInBounds_toArray, List.set_cons_zero, List.set_cons_succ]
                  refine heldIn (i := 24) (some 57) (v := ?_) rfl rfl (by kernel_rfl) (by kernel_rfl) (by kernel_rfl) (fun _ _ _ h => h) (by rfl) (by assumption) ?_ ?_
                  rotate_left
                  · intro w hSw
                    obtain ⟨s0, s1, s2, s3, s4, s5⟩ := hSw
                    go_simp
                    try with_reducible rfl
                  try simp only [Act.put, List.setIfInBounds_toArray, List.set_cons_zero, List.set_cons_succ]
                  refine wpAnyH_done (by kernel_rfl) ?_ _
                  go_wp2
                  go_roundg (l.length - k)
                  case measure => omega
                  case rel => exact ⟨k + 1, _, _, D2, by go_num, by omega, by omega, HD4, HL2⟩
                exact AllReadyH.nil
              refine AllReadyH.cons rfl (fun K hK => ?_) ?_
              · go_simp
                refine hK.out _ _ ?_ (fun hHeld => ?_)
                · exact ⟨q0, q1, q2, q3, q4, q5⟩
                clear hK K
                try simp only [Act.put, List.setIfInBounds_toArray, List.set_cons_zero, List.set_cons_succ]
                refine heldIn (i := 22) (some 55) (v := ?_) rfl rfl (by kernel_rfl) (by kernel_rfl) (by kernel_rfl) (fun _ _ _ h => h) (by rfl) (by assumption) ?_ ?_
                rotate_left
                · intro w hSw
                  obtain ⟨s0, s1, s2, s3, s4, s5⟩ := hSw
                  go_simp
                  try with_reducible rfl
                try simp only [Act.put, List.setIfInBounds_toArray, List.set_cons_zero, List.set_cons_succ]
                refine wpAnyH_ready (rs := [17]) (by kernel_rfl) (by simp) ?_
                refine AllReadyH.cons rfl (fun K hK => ?_) ?_
                · go_simp
                  (go_at_call 11)
                  (with_reducible refine HLS.out.mono ?_)
                  rintro e w4 ⟨rfl, rfl⟩
                  refine hK.out _ _ ?_ (fun hHeld => ?_)
                  · exact ⟨q0, q1, q2, q3, q4, q5⟩
                  clear hK K
                  try simp only [Act.put, List.setIfInBounds_toArray, List.set_cons_zero, List.set_cons_succ]
                  refine heldIn (i := 23) (some 56) (v := ?_) rfl rfl (by kernel_rfl) (by kernel_rfl) (by kernel_rfl) (fun _ _ _ h => h) (by rfl) (by assumption) ?_ ?_
                  rotate_left
                  · intro w hSw
                    obtain ⟨s0, s1, s2, s3, s4, s5⟩ := hSw
                    go_simp
                    try with_reducible rfl
                  try simp only [Act.put, List.setIfInBounds_toArray, List.set_cons_zero, List.set_cons_succ]
                  refine heldIn (i := 24) (some 57) (v := ?_) rfl rfl (by kernel_rfl) (by kernel_rfl) (by kernel_rfl) (fun _ _ _ h => h) (by rfl) (by assumption) ?_ ?_
                  rotate_left
                  · intro w hSw
                    obtain ⟨s0, s1, s2, s3, s4, s5⟩ := hSw
                    go_simp
                    try with_reducible rfl
                  try simp only [Act.put, List.setIfInBounds_toArray, List.set_cons_zero, List.set_cons_succ]
                  refine wpAnyH_done (by kernel_rfl) ?_ _
                  go_wp2
                  go_roundg (l.length - k)
                  case measure => omega
                  case rel => exact ⟨k + 1, _, _, D2, by go_num, by omega, by omega, HD4, HL2⟩
                exact AllReadyH.nil
              exact AllReadyH.nil
            exact AllReadyH.nil
          exact AllReadyH.nil
        exact AllReadyH.nil
      · obtain rfl : k = l.length := by omega
        have hst : stFuse D (-1) = { D with fuse := -1, still := false } := by unfold stFuse; rw [if_pos (by omega)]
        have HF := Lib.hid (Sy.fuse_any HS1.out.full (-1) (by omega))
        have HFD := Lib.hid (Dk11.fit_of HS1.out.ref)
        clear hst
        go_wp2_with fail
        refine HF.out.mono ?_
        rintro e w4 ⟨rfl, ht⟩
        have hd := HS1.out.left ht
        have hfi := Fi.files_any hd.full (by unfold stFuse; rw [if_pos (by omega)]) (by unfold stFuse; rw [if_pos (by omega)]; exact (fit_names HFD.out).1) (by unfold stFuse; rw [if_pos (by omega)]; exact (fit_names HFD.out).2)
        have hnow : (stFuse D (-1)).now = D.now := by unfold stFuse; rw [if_pos (by omega)]
        rw [hnow] at hfi
        have HD := Lib.hid hd
        have HFI := Lib.hid hfi
        clear ht hd hfi HF hnow
        go_wp2_with fail
        refine HFI.out.mono ?_
        rintro e w5 ⟨v, rfl, hrow, hb5⟩
        obtain ⟨A, c, k0, hr0⟩ := duo_row HD.out hb5
        have HSM := Lib.hid (Sm.same_rows w5 (Fi.files D.now) hrow hr0 (files_len' HFD.out))
        have HB5 := Lib.hid (HD.out.bel.trans (hb5.mono HD.out.bel.size))
        obtain ⟨A1, c1, rfl, _⟩ := Sm.own_shape hrow
        clear hrow hb5 hr0
        go_wp2_with fail
        refine HSM.out.mono ?_
        rintro e w6 ⟨rfl, n, rfl⟩
        have HA := Lib.hid (alive_any hsort (w5.drewN n))
        go_wp2_with fail
        refine HA.out.mono ?_
        rintro e w7 ⟨rfl, hb7⟩
        have HB7 := Lib.hid hb7
        clear hb7
        go_wp2
        go_ret
        exact ⟨rfl, HB5.out.trans ((show Below w1.heap.size w5 (w5.drewN n) from ⟨rfl, rfl, rfl, Nat.le_refl _, fun _ _ => rfl⟩).trans (HB7.out.mono HB5.out.size))⟩
end Go.Proofs.YtaoneiicoaiehaaGreat.Dq11
