/- KeyOrders: which way two rows go (written by genord6.py). -/
import Derived.Test.YtbkaphcipbhmhaaDoorLq6
import Derived.Test.YtbkaphcipbhmhaaDoorPo6
import Derived.Deep.QuietTactic
import Derived.BigQuiet
namespace Go.Proofs.YtbkaphcipbhmhaaDoor.Wo6
open Go Go.RowKit Go.Proofs Go.Proofs.YtbkaphcipbhmhaaDoor.Wm Go.Proofs.YtbkaphcipbhmhaaDoor.Vm Go.Proofs.YtbkaphcipbhmhaaDoor.Vr Go.Proofs.YtbkaphcipbhmhaaDoor.Vs Go.Proofs.YtbkaphcipbhmhaaDoor.Vc Go.Proofs.YtbkaphcipbhmhaaDoor.Vf Go.Proofs.YtbkaphcipbhmhaaDoor.Vh Go.Proofs.YtbkaphcipbhmhaaDoor.Vz Go.Proofs.YtbkaphcipbhmhaaDoor.Cm Go.Proofs.YtbkaphcipbhmhaaDoor.Kl6 Go.Proofs.YtbkaphcipbhmhaaDoor.Km6 Go.Proofs.YtbkaphcipbhmhaaDoor.Kp6 Go.Proofs.YtbkaphcipbhmhaaDoor.Kh6 Go.Proofs.YtbkaphcipbhmhaaDoor.Lq6 Go.Proofs.YtbkaphcipbhmhaaDoor.Po6
/-- The two keys: their order, whether they are one, whether one begins the other one. -/
structure Keys (P Q : ByteArray) (rl sm pf : Bool) : Prop where
  lt : Op.bytesLess P.toList Q.toList = rl
  eq : (P.toList == Q.toList) = sm
  pre : pf = true ↔ ∃ z, Q.toList = P.toList ++ z
theorem good_of {l : List V} (h : mayK l = true) (hok : ∀ v ∈ l, v.ok) : Po6.Good l := fun v hv => ⟨(mayK_is h).2 v hv, hok v hv⟩
theorem bs_toList (l : List UInt8) : (bs l).toList = l := by rw [ByteArray.toList_eq]; rfl
theorem keys_of {l m : List V} (hl : mayK l = true) (hm : mayK m = true) (kl : ∀ v ∈ l, v.ok) (km : ∀ v ∈ m, v.ok) : Keys (bs (kputAll l)) (bs (kputAll m)) (rowLess l m) (same l m) (pfx l m) := by
  have gl := good_of hl kl
  have gm := good_of hm km
  refine ⟨?_, ?_, ?_⟩
  · rw [bs_toList, bs_toList]; exact bl_rows l m gl gm
  · rw [bs_toList, bs_toList]
    cases hs : same l m
    · rw [beq_eq_false_iff_ne]
      intro e
      have := rows_inj gl gm e
      subst this
      rw [Vm.same_self] at hs; cases hs
    · have := same_iff.1 hs
      subst this; simp
  · rw [bs_toList, bs_toList]; exact pfx_key l m gl gm
/-- How it ends. -/
inductive Ends (P Q : ByteArray) : Bool → Prop
  | yes (h : (P.size : Int) ≤ (Q.size : Int)) (hm : min (P.size : Int) (Q.size : Int) = (P.size : Int)) (e : ((Q.extract 0 P.size).toList == P.toList) = true) : Ends P Q true
  | no (h : (P.size : Int) ≤ (Q.size : Int)) (hm : min (P.size : Int) (Q.size : Int) = (P.size : Int)) (e : ((Q.extract 0 P.size).toList == P.toList) = false) : Ends P Q false
  | long (h : (Q.size : Int) < (P.size : Int)) : Ends P Q false
theorem ends {P Q : ByteArray} {rl sm pf : Bool} (h : Keys P Q rl sm pf) : Ends P Q pf := by
  have hP : P.toList.length = P.size := by rw [ByteArray.toList_eq]; exact Array.length_toList
  have hQ : Q.toList.length = Q.size := by rw [ByteArray.toList_eq]; exact Array.length_toList
  have he : (Q.extract 0 P.size).toList = Q.toList.take P.size := by
    have := bs_take Q.data.toList P.size
    rw [bs_of] at this
    rw [this, bs_toList, ByteArray.toList_eq]
  by_cases hle : P.size ≤ Q.size
  · cases hpf : pf with
    | true =>
      obtain ⟨z, hz⟩ := h.pre.1 hpf
      refine .yes (by omega) (by omega) ?_
      rw [he, hz, ← hP, List.take_left, beq_iff_eq]
    | false =>
      refine .no (by omega) (by omega) ?_
      rw [he, beq_eq_false_iff_ne]
      intro e
      have : pf = true := h.pre.2 ⟨Q.toList.drop P.size, by rw [← e, List.take_append_drop]⟩
      rw [hpf] at this; cases this
  · have hpf : pf = false := by
      cases hq : pf with
      | false => rfl
      | true =>
        obtain ⟨z, hz⟩ := h.pre.1 hq
        have := congrArg List.length hz
        rw [List.length_append, hP, hQ] at this; omega
    rw [hpf]
    exact .long (by omega)
theorem start_pfx (l m : List V) : (decide (l.length ≤ m.length) && pfx (l.drop 0) (m.drop 0)) = pfx l m := by
  rw [List.drop_zero, List.drop_zero]
  by_cases h : l.length ≤ m.length
  · rw [decide_eq_true h, Bool.true_and]
  · rw [decide_eq_false h, Bool.false_and, pfx_long (by omega)]
theorem en_false {P Q : ByteArray} (h : Hid (Ends P Q false)) : ((P.size : Int) ≤ (Q.size : Int) ∧ min (P.size : Int) (Q.size : Int) = (P.size : Int) ∧ ((Q.extract 0 P.size).toList == P.toList) = false) ∨ (Q.size : Int) < (P.size : Int) := by
  cases h.out with
  | no a b c => exact .inl ⟨a, b, c⟩
  | long a => exact .inr a
theorem en_true {P Q : ByteArray} (h : Hid (Ends P Q true)) : (P.size : Int) ≤ (Q.size : Int) ∧ min (P.size : Int) (Q.size : Int) = (P.size : Int) ∧ ((Q.extract 0 P.size).toList == P.toList) = true := by
  cases h.out with
  | yes a b c => exact ⟨a, b, c⟩
theorem q_rl {w : World} {A A' : Option Addr} {l m : List V} (h : Hid (Lst w A l)) (h' : Hid (Lst w A' m)) (c c' : Nat) : Hid (∀ W', Hid (Below w.heap.size w W') → Calls Tryd.prog 18 #[.slice A l.length c, .slice A' m.length c'] W' fun e w' => e = .returned (.bool (rowLess l m)) ∧ Below W'.heap.size W' w') :=
  Lib.hid fun W' hb => by
    rcases Nat.lt_or_ge m.length l.length with hc | hc
    · exact rowless_gt W' A A' c c' l m (h.out.reads.keep hb.out) (h'.out.reads.keep hb.out) ⟨h.out.len, h'.out.len⟩ h.out.bits h'.out.bits hc
    · exact rowless_le W' A A' c c' l m (h.out.reads.keep hb.out) (h'.out.reads.keep hb.out) ⟨h.out.len, h'.out.len⟩ h.out.bits h'.out.bits hc
theorem q_vsame {w : World} {A A' : Option Addr} {l m : List V} (h : Hid (Lst w A l)) (h' : Hid (Lst w A' m)) (c c' : Nat) : Hid (∀ W', Hid (Below w.heap.size w W') → Calls Tryd.prog 19 #[.slice A l.length c, .slice A' m.length c'] W' fun e w' => e = .returned (.bool (same l m)) ∧ Below W'.heap.size W' w') :=
  Lib.hid fun W' hb => Vr.same_any W' A A' c c' l m (h.out.reads.keep hb.out) (h'.out.reads.keep hb.out) ⟨h.out.len, h'.out.len⟩
set_option maxRecDepth 40000 in
set_option maxHeartbeats 2000000 in
theorem w_tt (A A' : Option Addr) (c c' : Nat) (l m : List V) (W : World) (hl : RowAt W A c l) (hm : RowAt W A' c' m) (hT : Tabs W) (h1 : mayK l = true) (h2 : mayK m = true) : Calls Tryd.prog 4 #[.slice A l.length c, .slice A' m.length c'] W fun e w' => e = .returned (.bool true) ∧ Below W.heap.size W w' := by
  have HKy := Lib.hid (keys_of h1 h2 hl.ok hm.ok)
  obtain ⟨P, hP⟩ : ∃ P, P = bs (kputAll l) := ⟨_, rfl⟩
  have HPS : Hid (bs (kputS l) = P) := Lib.hid (by unfold kputS; rw [h1]; exact hP.symm)
  obtain ⟨Q, hQ⟩ : ∃ Q, Q = bs (kputAll m) := ⟨_, rfl⟩
  have HQS : Hid (bs (kputS m) = Q) := Lib.hid (by unfold kputS; rw [h2]; exact hQ.symm)
  rw [← hP, ← hQ] at HKy
  have hPz : P.size ≤ 2000 := by rw [hP, bs_size]; have := kput_max h1; omega
  have hQz : Q.size ≤ 2000 := by rw [hQ, bs_size]; have := kput_max h2; omega
  clear hP
  clear hQ
  have H1 := Lib.hid h1
  have H2 := Lib.hid h2
  clear h1 h2
  have T0 := Lib.hid hT
  have R0 := Lib.hid (Lst.of hl)
  have S0 := Lib.hid (Lst.of hm)
  have B0 := Lib.hid (Below.refl W.heap.size W)
  have FL := q_long R0 c
  have FM := q_long S0 c'
  have FA := q_alive T0
  have FC := q_copy hl (Below.refl _ _)
  have HL := Lib.hid hl
  have HMr := Lib.hid hm
  clear hl hm hT
  go_enter Tryd.func4, Tryd.ntmps4
  go_wp2_with fail
  with_reducible refine (FL.out _ B0).mono ?_
  rintro e w1 ⟨rr, rfl, hlong, rfl⟩
  clear hlong
  cases rr
  · skip
    go_wp2_with fail
    with_reducible refine (FM.out _ B0).mono ?_
    rintro e w1 ⟨rr, rfl, hlong, rfl⟩
    clear hlong
    cases rr
    · go_wp2_with fail
      with_reducible refine (FC.out _ B0).mono ?_
      rintro e w2 ⟨A2, c2, rfl, hrd2, hb2⟩
      have T2 := Lib.hid (T0.out.keep hb2)
      have R2 := Lib.hid (R0.out.keep hb2)
      have S2 := Lib.hid (S0.out.keep hb2)
      have Q2 : Hid (Lst w2 A2 l) := Lib.hid ⟨hrd2, HL.out.ok, HL.out.count⟩
      have HW2 := Lib.hid hb2
      have FP := q_put Q2 c2 T2
      rw [HPS.out, H1.out] at FP
      replace FP : Hid (∀ W', Hid (Below w2.heap.size w2 W') → Calls Tryd.prog 10 #[.slice A2 l.length c2] W' fun e w' => e = .returned (.tuple #[.string P, .int .i64 0]) ∧ Below W'.heap.size W' w') := FP
      have B2 := Lib.hid (Below.refl w2.heap.size w2)
      have FC2 := q_copy HMr.out HW2.out
      clear hrd2 hb2 T0 R0 S0 FL FM FA FC
      go_wp2_with fail
      with_reducible refine (FP.out _ B2).mono ?_
      rintro e w3 ⟨rfl, hb⟩
      have B3 := Lib.hid (B2.out.trans (hb.mono B2.out.size))
      clear hb
      go_wp2_with fail
      with_reducible refine (FC2.out _ B3).mono ?_
      rintro e w4 ⟨A4, c4, rfl, hrd4, hb4⟩
      have hb24 := B3.out.trans (hb4.mono B3.out.size)
      have HW4 := Lib.hid (HW2.out.trans (hb24.mono HW2.out.size))
      have T4 := Lib.hid (T2.out.keep hb24)
      have R4 := Lib.hid (R2.out.keep hb24)
      have S4 := Lib.hid (S2.out.keep hb24)
      have Q4 : Hid (Lst w4 A4 m) := Lib.hid ⟨hrd4, HMr.out.ok, HMr.out.count⟩
      have B4 := Lib.hid (Below.refl w4.heap.size w4)
      have FP4 := q_put Q4 c4 T4
      rw [HQS.out, H2.out] at FP4
      replace FP4 : Hid (∀ W', Hid (Below w4.heap.size w4 W') → Calls Tryd.prog 10 #[.slice A4 m.length c4] W' fun e w' => e = .returned (.tuple #[.string Q, .int .i64 0]) ∧ Below W'.heap.size W' w') := FP4
      have FA4 := q_alive T4
      clear hrd4 hb4 hb24 FP FC2
      go_wp2_with fail
      with_reducible refine (FP4.out _ B4).mono ?_
      rintro e w5 ⟨rfl, hb⟩
      have B5 := Lib.hid (B4.out.trans (hb.mono B4.out.size))
      clear hb
      have FR := q_rl R4 S4 c c'
      have FV := q_vsame R4 S4 c c'
      obtain ⟨rl, hrl⟩ : ∃ rl, rl = rowLess l m := ⟨_, rfl⟩
      obtain ⟨sm, hsm⟩ : ∃ sm, sm = same l m := ⟨_, rfl⟩
      rw [← hrl] at FR HKy
      rw [← hsm] at FV HKy
      have klt := HKy.out.lt
      have keq := HKy.out.eq
      clear hrl hsm
      go_wp2_with fail
      with_reducible refine (FR.out _ B5).mono ?_
      rintro e w6 ⟨rfl, hb⟩
      have B6 := Lib.hid (B5.out.trans (hb.mono B5.out.size))
      clear hb
      go_wp2_with fail
      with_reducible refine (FV.out _ B6).mono ?_
      rintro e w7 ⟨rfl, hb⟩
      have B7 := Lib.hid (B6.out.trans (hb.mono B6.out.size))
      clear hb klt keq
      obtain ⟨pf, hpf⟩ : ∃ pf, pf = pfx l m := ⟨_, rfl⟩
      rw [← hpf] at HKy
      have HEn := Lib.hid (ends HKy.out)
      have HPf := Lib.hid hpf
      clear hpf
      go_wp2
      go_loopw [9, 10] (fun b i wr => ∃ (k : Nat) (bb : Bool), k ≤ l.length ∧ i = .int .i64 (k : Int) ∧ b = .bool bb ∧ Hid (bb = true → l.length ≤ m.length) ∧ Hid ((bb && pfx (l.drop k) (m.drop k)) = pf) ∧ Hid (Below w4.heap.size w4 wr)) (fun _ i _ => l.length - (intOf i).toNat)
      case atStart => exact ⟨0, decide (l.length ≤ m.length), by omega, rfl, rfl, Lib.hid (fun h => of_decide_eq_true h), Lib.hid (by rw [HPf.out]; exact start_pfx l m), B7⟩
      case round =>
        obtain ⟨k, bb, hk, rfl, rfl, hbb, hpx, hbl⟩ := hrel
        cases bb
        · have hpe : pf = false := by rw [← hpx.out, Bool.false_and]
          subst hpe
          rcases en_false HEn with ⟨g1, g2, g3⟩ | g1
          · by_cases hlt : k < l.length
            · skip
              go_wp2_with fail
              with_reducible refine (FA4.out _ hbl).mono ?_
              rintro e w9 ⟨rfl, hb⟩
              have HB := Lib.hid hb
              clear hb
              go_wp2
              go_ret
              exact ⟨rfl, HW4.out.trans ((hbl.out.trans (HB.out.mono hbl.out.size)).mono HW4.out.size)⟩
            · skip
              go_wp2_with fail
              with_reducible refine (FA4.out _ hbl).mono ?_
              rintro e w9 ⟨rfl, hb⟩
              have HB := Lib.hid hb
              clear hb
              go_wp2
              go_ret
              exact ⟨rfl, HW4.out.trans ((hbl.out.trans (HB.out.mono hbl.out.size)).mono HW4.out.size)⟩
          · by_cases hlt : k < l.length
            · skip
              go_wp2_with fail
              with_reducible refine (FA4.out _ hbl).mono ?_
              rintro e w9 ⟨rfl, hb⟩
              have HB := Lib.hid hb
              clear hb
              go_wp2
              go_ret
              exact ⟨rfl, HW4.out.trans ((hbl.out.trans (HB.out.mono hbl.out.size)).mono HW4.out.size)⟩
            · skip
              go_wp2_with fail
              with_reducible refine (FA4.out _ hbl).mono ?_
              rintro e w9 ⟨rfl, hb⟩
              have HB := Lib.hid hb
              clear hb
              go_wp2
              go_ret
              exact ⟨rfl, HW4.out.trans ((hbl.out.trans (HB.out.mono hbl.out.size)).mono HW4.out.size)⟩
        · by_cases hlt : k < l.length
          · have HLM : Hid (l.length ≤ m.length) := Lib.hid (hbb.out rfl)
            have hkm : k < m.length := by have := HLM.out; omega
            obtain ⟨b1, o1, rfl, p0, p1, p2, p3⟩ := (R4.out.reads.keep hbl.out).at_ hlt
            obtain ⟨b2, o2, rfl, q0, q1, q2, q3⟩ := (S4.out.reads.keep hbl.out).at_ hkm
            have hst := pfx_step hlt hkm
            have HX : Hid (∀ z, z = eqv l[k] m[k] → (z && pfx (l.drop (k + 1)) (m.drop (k + 1))) = pf) := Lib.hid fun z hz => by rw [hz, ← hst, ← hpx.out, Bool.true_and]
            have HE : Hid (∀ z, z = eqv l[k] m[k] → ∀ w : World, (binOp .eql 38 (vv l[k]) (vv m[k])).run Tryd.prog w = .ok (.bool z) w) := Lib.hid fun z hz w => by rw [hz]; exact Ve.run_eql _ _ w
            obtain ⟨x, hx⟩ : ∃ x, x = l[k] := ⟨_, rfl⟩
            obtain ⟨y, hy⟩ : ∃ y, y = m[k] := ⟨_, rfl⟩
            rw [← hx] at p0 p1 p2 p3 HX HE
            rw [← hy] at q0 q1 q2 q3 HX HE
            obtain ⟨z, hz⟩ : ∃ z, z = eqv x y := ⟨_, rfl⟩
            have HX2 := Lib.hid (HX.out z hz)
            have hrun := HE.out z hz
            clear hx hy hz hst HX HE
            obtain ⟨k0, n0, r0, s0⟩ := x
            obtain ⟨k1, n1, r1, s1⟩ := y
            unfold vv at hrun
            dsimp only at p0 p1 p2 p3 q0 q1 q2 q3 hrun
            have hkz : (k : Int) < (m.length : Int) := by omega
            have hlz : (k : Int) < (l.length : Int) := by omega
            go_wp2
            go_quiet (fail)
            go_wp2
            have hwk : wrap64 ((k : Int) + 1) = (k : Int) + 1 := by have := HL.out.count; unfold wrap64; omega
            rw [hwk]
            exact ⟨⟨k + 1, z, by omega, by go_num, rfl, Lib.hid (fun _ => HLM.out), HX2, Lib.hid (hbl.out.trans ((below_drewN wr _).mono hbl.out.size))⟩, by simp [intOf]; omega⟩
          · have hpt : pf = true := by
              rw [← hpx.out, Bool.true_and, List.drop_eq_nil_iff.2 (by omega)]; rfl
            subst hpt
            obtain ⟨g1, g2, g3⟩ := en_true HEn
            go_wp2_with fail
            with_reducible refine (FA4.out _ hbl).mono ?_
            rintro e w9 ⟨rfl, hb⟩
            have HB := Lib.hid hb
            clear hb
            go_wp2
            go_ret
            exact ⟨rfl, HW4.out.trans ((hbl.out.trans (HB.out.mono hbl.out.size)).mono HW4.out.size)⟩
    · skip
      go_wp2_with fail
      with_reducible refine (FA.out _ B0).mono ?_
      rintro e w9 ⟨rfl, hb⟩
      have HB := Lib.hid hb
      clear hb
      go_wp2
      go_ret
      exact ⟨rfl, HB.out⟩
  · skip
    go_wp2_with fail
    with_reducible refine (FA.out _ B0).mono ?_
    rintro e w9 ⟨rfl, hb⟩
    have HB := Lib.hid hb
    clear hb
    go_wp2
    go_ret
    exact ⟨rfl, HB.out⟩
set_option maxRecDepth 40000 in
set_option maxHeartbeats 2000000 in
theorem w_tf (A A' : Option Addr) (c c' : Nat) (l m : List V) (W : World) (hl : RowAt W A c l) (hm : RowAt W A' c' m) (hT : Tabs W) (h1 : mayK l = true) (h2 : mayK m = false) : Calls Tryd.prog 4 #[.slice A l.length c, .slice A' m.length c'] W fun e w' => e = .returned (.bool true) ∧ Below W.heap.size W w' := by
  obtain ⟨P, hP⟩ : ∃ P, P = bs (kputAll l) := ⟨_, rfl⟩
  have HPS : Hid (bs (kputS l) = P) := Lib.hid (by unfold kputS; rw [h1]; exact hP.symm)
  have HQS : Hid (bs (kputS m) = ⟨#[]⟩) := Lib.hid (by unfold kputS; rw [h2]; rfl)
  clear hP
  have H1 := Lib.hid h1
  have H2 := Lib.hid h2
  clear h1 h2
  have T0 := Lib.hid hT
  have R0 := Lib.hid (Lst.of hl)
  have S0 := Lib.hid (Lst.of hm)
  have B0 := Lib.hid (Below.refl W.heap.size W)
  have FL := q_long R0 c
  have FM := q_long S0 c'
  have FA := q_alive T0
  have FC := q_copy hl (Below.refl _ _)
  have HL := Lib.hid hl
  have HMr := Lib.hid hm
  clear hl hm hT
  go_enter Tryd.func4, Tryd.ntmps4
  go_wp2_with fail
  with_reducible refine (FL.out _ B0).mono ?_
  rintro e w1 ⟨rr, rfl, hlong, rfl⟩
  clear hlong
  cases rr
  · skip
    go_wp2_with fail
    with_reducible refine (FM.out _ B0).mono ?_
    rintro e w1 ⟨rr, rfl, hlong, rfl⟩
    clear hlong
    cases rr
    · go_wp2_with fail
      with_reducible refine (FC.out _ B0).mono ?_
      rintro e w2 ⟨A2, c2, rfl, hrd2, hb2⟩
      have T2 := Lib.hid (T0.out.keep hb2)
      have R2 := Lib.hid (R0.out.keep hb2)
      have S2 := Lib.hid (S0.out.keep hb2)
      have Q2 : Hid (Lst w2 A2 l) := Lib.hid ⟨hrd2, HL.out.ok, HL.out.count⟩
      have HW2 := Lib.hid hb2
      have FP := q_put Q2 c2 T2
      rw [HPS.out, H1.out] at FP
      replace FP : Hid (∀ W', Hid (Below w2.heap.size w2 W') → Calls Tryd.prog 10 #[.slice A2 l.length c2] W' fun e w' => e = .returned (.tuple #[.string P, .int .i64 0]) ∧ Below W'.heap.size W' w') := FP
      have B2 := Lib.hid (Below.refl w2.heap.size w2)
      have FC2 := q_copy HMr.out HW2.out
      clear hrd2 hb2 T0 R0 S0 FL FM FA FC
      go_wp2_with fail
      with_reducible refine (FP.out _ B2).mono ?_
      rintro e w3 ⟨rfl, hb⟩
      have B3 := Lib.hid (B2.out.trans (hb.mono B2.out.size))
      clear hb
      go_wp2_with fail
      with_reducible refine (FC2.out _ B3).mono ?_
      rintro e w4 ⟨A4, c4, rfl, hrd4, hb4⟩
      have hb24 := B3.out.trans (hb4.mono B3.out.size)
      have HW4 := Lib.hid (HW2.out.trans (hb24.mono HW2.out.size))
      have T4 := Lib.hid (T2.out.keep hb24)
      have R4 := Lib.hid (R2.out.keep hb24)
      have S4 := Lib.hid (S2.out.keep hb24)
      have Q4 : Hid (Lst w4 A4 m) := Lib.hid ⟨hrd4, HMr.out.ok, HMr.out.count⟩
      have B4 := Lib.hid (Below.refl w4.heap.size w4)
      have FP4 := q_put Q4 c4 T4
      rw [HQS.out, H2.out] at FP4
      replace FP4 : Hid (∀ W', Hid (Below w4.heap.size w4 W') → Calls Tryd.prog 10 #[.slice A4 m.length c4] W' fun e w' => e = .returned (.tuple #[.string ⟨#[]⟩, .int .i64 2]) ∧ Below W'.heap.size W' w') := FP4
      have FA4 := q_alive T4
      clear hrd4 hb4 hb24 FP FC2
      go_wp2_with fail
      with_reducible refine (FP4.out _ B4).mono ?_
      rintro e w5 ⟨rfl, hb⟩
      have B5 := Lib.hid (B4.out.trans (hb.mono B4.out.size))
      clear hb
      go_wp2_with fail
      with_reducible refine (FA4.out _ B5).mono ?_
      rintro e w9 ⟨rfl, hb⟩
      have HB := Lib.hid hb
      clear hb
      go_wp2
      go_ret
      exact ⟨rfl, HW4.out.trans ((B5.out.trans (HB.out.mono B5.out.size)).mono HW4.out.size)⟩
    · skip
      go_wp2_with fail
      with_reducible refine (FA.out _ B0).mono ?_
      rintro e w9 ⟨rfl, hb⟩
      have HB := Lib.hid hb
      clear hb
      go_wp2
      go_ret
      exact ⟨rfl, HB.out⟩
  · skip
    go_wp2_with fail
    with_reducible refine (FA.out _ B0).mono ?_
    rintro e w9 ⟨rfl, hb⟩
    have HB := Lib.hid hb
    clear hb
    go_wp2
    go_ret
    exact ⟨rfl, HB.out⟩
set_option maxRecDepth 40000 in
set_option maxHeartbeats 2000000 in
theorem w_ft (A A' : Option Addr) (c c' : Nat) (l m : List V) (W : World) (hl : RowAt W A c l) (hm : RowAt W A' c' m) (hT : Tabs W) (h1 : mayK l = false) (h2 : mayK m = true) : Calls Tryd.prog 4 #[.slice A l.length c, .slice A' m.length c'] W fun e w' => e = .returned (.bool true) ∧ Below W.heap.size W w' := by
  have HPS : Hid (bs (kputS l) = ⟨#[]⟩) := Lib.hid (by unfold kputS; rw [h1]; rfl)
  obtain ⟨Q, hQ⟩ : ∃ Q, Q = bs (kputAll m) := ⟨_, rfl⟩
  have HQS : Hid (bs (kputS m) = Q) := Lib.hid (by unfold kputS; rw [h2]; exact hQ.symm)
  clear hQ
  have H1 := Lib.hid h1
  have H2 := Lib.hid h2
  clear h1 h2
  have T0 := Lib.hid hT
  have R0 := Lib.hid (Lst.of hl)
  have S0 := Lib.hid (Lst.of hm)
  have B0 := Lib.hid (Below.refl W.heap.size W)
  have FL := q_long R0 c
  have FM := q_long S0 c'
  have FA := q_alive T0
  have FC := q_copy hl (Below.refl _ _)
  have HL := Lib.hid hl
  have HMr := Lib.hid hm
  clear hl hm hT
  go_enter Tryd.func4, Tryd.ntmps4
  go_wp2_with fail
  with_reducible refine (FL.out _ B0).mono ?_
  rintro e w1 ⟨rr, rfl, hlong, rfl⟩
  clear hlong
  cases rr
  · skip
    go_wp2_with fail
    with_reducible refine (FM.out _ B0).mono ?_
    rintro e w1 ⟨rr, rfl, hlong, rfl⟩
    clear hlong
    cases rr
    · go_wp2_with fail
      with_reducible refine (FC.out _ B0).mono ?_
      rintro e w2 ⟨A2, c2, rfl, hrd2, hb2⟩
      have T2 := Lib.hid (T0.out.keep hb2)
      have R2 := Lib.hid (R0.out.keep hb2)
      have S2 := Lib.hid (S0.out.keep hb2)
      have Q2 : Hid (Lst w2 A2 l) := Lib.hid ⟨hrd2, HL.out.ok, HL.out.count⟩
      have HW2 := Lib.hid hb2
      have FP := q_put Q2 c2 T2
      rw [HPS.out, H1.out] at FP
      replace FP : Hid (∀ W', Hid (Below w2.heap.size w2 W') → Calls Tryd.prog 10 #[.slice A2 l.length c2] W' fun e w' => e = .returned (.tuple #[.string ⟨#[]⟩, .int .i64 2]) ∧ Below W'.heap.size W' w') := FP
      have B2 := Lib.hid (Below.refl w2.heap.size w2)
      have FC2 := q_copy HMr.out HW2.out
      clear hrd2 hb2 T0 R0 S0 FL FM FA FC
      go_wp2_with fail
      with_reducible refine (FP.out _ B2).mono ?_
      rintro e w3 ⟨rfl, hb⟩
      have B3 := Lib.hid (B2.out.trans (hb.mono B2.out.size))
      clear hb
      go_wp2_with fail
      with_reducible refine (FC2.out _ B3).mono ?_
      rintro e w4 ⟨A4, c4, rfl, hrd4, hb4⟩
      have hb24 := B3.out.trans (hb4.mono B3.out.size)
      have HW4 := Lib.hid (HW2.out.trans (hb24.mono HW2.out.size))
      have T4 := Lib.hid (T2.out.keep hb24)
      have R4 := Lib.hid (R2.out.keep hb24)
      have S4 := Lib.hid (S2.out.keep hb24)
      have Q4 : Hid (Lst w4 A4 m) := Lib.hid ⟨hrd4, HMr.out.ok, HMr.out.count⟩
      have B4 := Lib.hid (Below.refl w4.heap.size w4)
      have FP4 := q_put Q4 c4 T4
      rw [HQS.out, H2.out] at FP4
      replace FP4 : Hid (∀ W', Hid (Below w4.heap.size w4 W') → Calls Tryd.prog 10 #[.slice A4 m.length c4] W' fun e w' => e = .returned (.tuple #[.string Q, .int .i64 0]) ∧ Below W'.heap.size W' w') := FP4
      have FA4 := q_alive T4
      clear hrd4 hb4 hb24 FP FC2
      go_wp2_with fail
      with_reducible refine (FP4.out _ B4).mono ?_
      rintro e w5 ⟨rfl, hb⟩
      have B5 := Lib.hid (B4.out.trans (hb.mono B4.out.size))
      clear hb
      go_wp2_with fail
      with_reducible refine (FA4.out _ B5).mono ?_
      rintro e w9 ⟨rfl, hb⟩
      have HB := Lib.hid hb
      clear hb
      go_wp2
      go_ret
      exact ⟨rfl, HW4.out.trans ((B5.out.trans (HB.out.mono B5.out.size)).mono HW4.out.size)⟩
    · skip
      go_wp2_with fail
      with_reducible refine (FA.out _ B0).mono ?_
      rintro e w9 ⟨rfl, hb⟩
      have HB := Lib.hid hb
      clear hb
      go_wp2
      go_ret
      exact ⟨rfl, HB.out⟩
  · skip
    go_wp2_with fail
    with_reducible refine (FA.out _ B0).mono ?_
    rintro e w9 ⟨rfl, hb⟩
    have HB := Lib.hid hb
    clear hb
    go_wp2
    go_ret
    exact ⟨rfl, HB.out⟩
set_option maxRecDepth 40000 in
set_option maxHeartbeats 2000000 in
theorem w_ff (A A' : Option Addr) (c c' : Nat) (l m : List V) (W : World) (hl : RowAt W A c l) (hm : RowAt W A' c' m) (hT : Tabs W) (h1 : mayK l = false) (h2 : mayK m = false) : Calls Tryd.prog 4 #[.slice A l.length c, .slice A' m.length c'] W fun e w' => e = .returned (.bool true) ∧ Below W.heap.size W w' := by
  have HPS : Hid (bs (kputS l) = ⟨#[]⟩) := Lib.hid (by unfold kputS; rw [h1]; rfl)
  have HQS : Hid (bs (kputS m) = ⟨#[]⟩) := Lib.hid (by unfold kputS; rw [h2]; rfl)
  have H1 := Lib.hid h1
  have H2 := Lib.hid h2
  clear h1 h2
  have T0 := Lib.hid hT
  have R0 := Lib.hid (Lst.of hl)
  have S0 := Lib.hid (Lst.of hm)
  have B0 := Lib.hid (Below.refl W.heap.size W)
  have FL := q_long R0 c
  have FM := q_long S0 c'
  have FA := q_alive T0
  have FC := q_copy hl (Below.refl _ _)
  have HL := Lib.hid hl
  have HMr := Lib.hid hm
  clear hl hm hT
  go_enter Tryd.func4, Tryd.ntmps4
  go_wp2_with fail
  with_reducible refine (FL.out _ B0).mono ?_
  rintro e w1 ⟨rr, rfl, hlong, rfl⟩
  clear hlong
  cases rr
  · skip
    go_wp2_with fail
    with_reducible refine (FM.out _ B0).mono ?_
    rintro e w1 ⟨rr, rfl, hlong, rfl⟩
    clear hlong
    cases rr
    · go_wp2_with fail
      with_reducible refine (FC.out _ B0).mono ?_
      rintro e w2 ⟨A2, c2, rfl, hrd2, hb2⟩
      have T2 := Lib.hid (T0.out.keep hb2)
      have R2 := Lib.hid (R0.out.keep hb2)
      have S2 := Lib.hid (S0.out.keep hb2)
      have Q2 : Hid (Lst w2 A2 l) := Lib.hid ⟨hrd2, HL.out.ok, HL.out.count⟩
      have HW2 := Lib.hid hb2
      have FP := q_put Q2 c2 T2
      rw [HPS.out, H1.out] at FP
      replace FP : Hid (∀ W', Hid (Below w2.heap.size w2 W') → Calls Tryd.prog 10 #[.slice A2 l.length c2] W' fun e w' => e = .returned (.tuple #[.string ⟨#[]⟩, .int .i64 2]) ∧ Below W'.heap.size W' w') := FP
      have B2 := Lib.hid (Below.refl w2.heap.size w2)
      have FC2 := q_copy HMr.out HW2.out
      clear hrd2 hb2 T0 R0 S0 FL FM FA FC
      go_wp2_with fail
      with_reducible refine (FP.out _ B2).mono ?_
      rintro e w3 ⟨rfl, hb⟩
      have B3 := Lib.hid (B2.out.trans (hb.mono B2.out.size))
      clear hb
      go_wp2_with fail
      with_reducible refine (FC2.out _ B3).mono ?_
      rintro e w4 ⟨A4, c4, rfl, hrd4, hb4⟩
      have hb24 := B3.out.trans (hb4.mono B3.out.size)
      have HW4 := Lib.hid (HW2.out.trans (hb24.mono HW2.out.size))
      have T4 := Lib.hid (T2.out.keep hb24)
      have R4 := Lib.hid (R2.out.keep hb24)
      have S4 := Lib.hid (S2.out.keep hb24)
      have Q4 : Hid (Lst w4 A4 m) := Lib.hid ⟨hrd4, HMr.out.ok, HMr.out.count⟩
      have B4 := Lib.hid (Below.refl w4.heap.size w4)
      have FP4 := q_put Q4 c4 T4
      rw [HQS.out, H2.out] at FP4
      replace FP4 : Hid (∀ W', Hid (Below w4.heap.size w4 W') → Calls Tryd.prog 10 #[.slice A4 m.length c4] W' fun e w' => e = .returned (.tuple #[.string ⟨#[]⟩, .int .i64 2]) ∧ Below W'.heap.size W' w') := FP4
      have FA4 := q_alive T4
      clear hrd4 hb4 hb24 FP FC2
      go_wp2_with fail
      with_reducible refine (FP4.out _ B4).mono ?_
      rintro e w5 ⟨rfl, hb⟩
      have B5 := Lib.hid (B4.out.trans (hb.mono B4.out.size))
      clear hb
      go_wp2_with fail
      with_reducible refine (FA4.out _ B5).mono ?_
      rintro e w9 ⟨rfl, hb⟩
      have HB := Lib.hid hb
      clear hb
      go_wp2
      go_ret
      exact ⟨rfl, HW4.out.trans ((B5.out.trans (HB.out.mono B5.out.size)).mono HW4.out.size)⟩
    · skip
      go_wp2_with fail
      with_reducible refine (FA.out _ B0).mono ?_
      rintro e w9 ⟨rfl, hb⟩
      have HB := Lib.hid hb
      clear hb
      go_wp2
      go_ret
      exact ⟨rfl, HB.out⟩
  · skip
    go_wp2_with fail
    with_reducible refine (FA.out _ B0).mono ?_
    rintro e w9 ⟨rfl, hb⟩
    have HB := Lib.hid hb
    clear hb
    go_wp2
    go_ret
    exact ⟨rfl, HB.out⟩
theorem walk (A A' : Option Addr) (c c' : Nat) (l m : List V) (W : World) (hl : RowAt W A c l) (hm : RowAt W A' c' m) (hT : Tabs W) : Calls Tryd.prog 4 #[.slice A l.length c, .slice A' m.length c'] W fun e w' => e = .returned (.bool true) ∧ Below W.heap.size W w' := by
  cases h1 : mayK l <;> cases h2 : mayK m
  · exact w_ff A A' c c' l m W hl hm hT h1 h2
  · exact w_ft A A' c c' l m W hl hm hT h1 h2
  · exact w_tf A A' c c' l m W hl hm hT h1 h2
  · exact w_tt A A' c c' l m W hl hm hT h1 h2
end Go.Proofs.YtbkaphcipbhmhaaDoor.Wo6
