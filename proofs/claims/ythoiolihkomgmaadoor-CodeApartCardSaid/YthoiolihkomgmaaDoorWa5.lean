/- CodeApart: which way two rows go (written by genapart5.py). -/
import Derived.Test.YthoiolihkomgmaaDoorLq5
import Derived.Test.YthoiolihkomgmaaDoorCp5
import Derived.Deep.RegionHeld3
import Derived.Deep.DrawnRows
namespace Go.Proofs.YthoiolihkomgmaaDoor.Wa5
open Go Go.RowKit Go.Proofs Go.Proofs.YthoiolihkomgmaaDoor.Wm Go.Proofs.YthoiolihkomgmaaDoor.Vm Go.Proofs.YthoiolihkomgmaaDoor.Vr Go.Proofs.YthoiolihkomgmaaDoor.Vs Go.Proofs.YthoiolihkomgmaaDoor.Vc Go.Proofs.YthoiolihkomgmaaDoor.Vf Go.Proofs.YthoiolihkomgmaaDoor.Vh Go.Proofs.YthoiolihkomgmaaDoor.Vz Go.Proofs.YthoiolihkomgmaaDoor.Cm Go.Proofs.YthoiolihkomgmaaDoor.Pv5 Go.Proofs.YthoiolihkomgmaaDoor.Rv5 Go.Proofs.YthoiolihkomgmaaDoor.Pw5 Go.Proofs.YthoiolihkomgmaaDoor.Qf5 Go.Proofs.YthoiolihkomgmaaDoor.Lq5
attribute [local go_sem ↓] Go.wp_at_zero Go.wp_at_succ
theorem row_apart' {l m : List V} (hl : mayRow l = true) (hm : mayRow m = true) (kl : ∀ v ∈ l, v.ok) (km : ∀ v ∈ m, v.ok) (hne : l ≠ m) {P Q : ByteArray} (hP : P = bs (putRow l)) (hQ : Q = bs (putRow m)) {N : Nat} (hN : N = min P.size Q.size) : (P.extract 0 N).toList ≠ (Q.extract 0 N).toList := by
  subst hP hQ
  rw [bs_size, bs_size] at hN
  rw [bs_take, bs_take]
  intro e
  rw [ByteArray.toList_eq, ByteArray.toList_eq] at e
  exact Cp5.row_apart hl hm kl km hne N hN e
set_option maxRecDepth 40000 in
set_option maxHeartbeats 2000000 in
theorem w_f (A A' : Option Addr) (c c' : Nat) (l m : List V) (W : World) (hl : RowAt W A c l) (hm : RowAt W A' c' m) (hT : Tabs W) (h1 : mayRow l = false) : Calls Tryd.prog 6 #[.slice A l.length c, .slice A' m.length c'] W fun e w' => e = .returned (.bool true) ∧ Below W.heap.size W w' := by
  have hPS : putRowS l = [] := by unfold putRowS; rw [h1]; rfl
  obtain ⟨Q, hQ⟩ : ∃ Q, Q = bs (putRowS m) := ⟨_, rfl⟩
  obtain ⟨E, hE⟩ : ∃ E, E = erg (mayRow m) := ⟨_, rfl⟩
  have HQ := Lib.hid hQ; have HE := Lib.hid hE
  clear hQ hE
  have T0 := Lib.hid hT
  have R0 := Lib.hid (Row.of hl)
  have S0 := Lib.hid (Row.of hm)
  have B0 := Lib.hid (Below.refl W.heap.size W)
  have FL := q_long R0 c
  have FM := q_long S0 c'
  have FA := q_alive T0
  have FC := q_copy hl (Below.refl _ _)
  have FD := q_copy hm (Below.refl _ _)
  have HL := Lib.hid hl; have HM := Lib.hid hm
  clear hl hm hT
  go_enter Tryd.func6, Tryd.ntmps6
  go_wp2_with fail
  with_reducible refine (FL.out _ B0).mono ?_
  rintro e w1 ⟨r1, rfl, h1, rfl⟩
  clear h1
  cases r1
  · go_wp2_with fail
    with_reducible refine (FM.out _ B0).mono ?_
    rintro e w1 ⟨r2, rfl, h2, rfl⟩
    clear h2
    cases r2
    · go_wp2_with fail
      with_reducible refine (FC.out _ B0).mono ?_
      rintro e w2 ⟨A2, c2, rfl, hrd2, hb2⟩
      have B2 := Lib.hid hb2
      have Q2 : Hid (Row w2 A2 l) := Lib.hid ⟨hrd2, HL.out.ok, HL.out.count⟩
      have T2 := Lib.hid (T0.out.keep hb2)
      have FR := q_putRow Q2 c2 T2
      rw [hPS, h1] at FR
      replace FR : Hid (∀ W', Hid (Below w2.heap.size w2 W') → Calls Tryd.prog 11 #[.slice A2 l.length c2] W' fun e w' => e = .returned (.tuple #[.string ⟨#[]⟩, .int .i64 2]) ∧ Below W'.heap.size W' w') := FR
      clear hrd2 hb2 FL FM
      go_wp2_with fail
      with_reducible refine (FR.out _ (Lib.hid (Below.refl _ _))).mono ?_
      rintro e w3 ⟨rfl, hb⟩
      have B3 := Lib.hid (B2.out.trans (hb.mono B2.out.size))
      clear hb FR
      go_wp2_with fail
      with_reducible refine (FD.out _ B3).mono ?_
      rintro e w4 ⟨A4, c4, rfl, hrd4, hb4⟩
      have B4 := Lib.hid (B3.out.trans (hb4.mono B3.out.size))
      have Q4 : Hid (Row w4 A4 m) := Lib.hid ⟨hrd4, HM.out.ok, HM.out.count⟩
      have T4 := Lib.hid (T0.out.keep B4.out)
      have FR := q_putRow Q4 c4 T4
      rw [← HQ.out, ← HE.out] at FR
      replace FR : Hid (∀ W', Hid (Below w4.heap.size w4 W') → Calls Tryd.prog 11 #[.slice A4 m.length c4] W' fun e w' => e = .returned (.tuple #[.string Q, .int .i64 E]) ∧ Below W'.heap.size W' w') := FR
      clear hrd4 hb4
      go_wp2_with fail
      with_reducible refine (FR.out _ (Lib.hid (Below.refl _ _))).mono ?_
      rintro e w5 ⟨rfl, hb⟩
      have B5 := Lib.hid (B4.out.trans (hb.mono B4.out.size))
      clear hb FR
      go_wp2_with fail
      with_reducible refine (FA.out _ B5).mono ?_
      rintro e w9 ⟨rfl, hb⟩
      have HB := Lib.hid hb
      clear hb
      go_wp2
      go_ret
      exact ⟨rfl, B5.out.trans (HB.out.mono B5.out.size)⟩
    · go_wp2_with fail
      with_reducible refine (FA.out _ B0).mono ?_
      rintro e w9 ⟨rfl, hb⟩
      have HB := Lib.hid hb
      clear hb
      go_wp2
      go_ret
      exact ⟨rfl, B0.out.trans (HB.out.mono B0.out.size)⟩
  · go_wp2_with fail
    with_reducible refine (FA.out _ B0).mono ?_
    rintro e w9 ⟨rfl, hb⟩
    have HB := Lib.hid hb
    clear hb
    go_wp2
    go_ret
    exact ⟨rfl, B0.out.trans (HB.out.mono B0.out.size)⟩
set_option maxRecDepth 40000 in
set_option maxHeartbeats 2000000 in
theorem w_tf (A A' : Option Addr) (c c' : Nat) (l m : List V) (W : World) (hl : RowAt W A c l) (hm : RowAt W A' c' m) (hT : Tabs W) (h1 : mayRow l = true) (h2 : mayRow m = false) : Calls Tryd.prog 6 #[.slice A l.length c, .slice A' m.length c'] W fun e w' => e = .returned (.bool true) ∧ Below W.heap.size W w' := by
  obtain ⟨P, hP⟩ : ∃ P, P = bs (putRow l) := ⟨_, rfl⟩
  have HP := Lib.hid hP
  have hPS : putRowS l = putRow l := by unfold putRowS; rw [h1]; rfl
  clear hP
  have hQS : putRowS m = [] := by unfold putRowS; rw [h2]; rfl
  have T0 := Lib.hid hT
  have R0 := Lib.hid (Row.of hl)
  have S0 := Lib.hid (Row.of hm)
  have B0 := Lib.hid (Below.refl W.heap.size W)
  have FL := q_long R0 c
  have FM := q_long S0 c'
  have FA := q_alive T0
  have FC := q_copy hl (Below.refl _ _)
  have FD := q_copy hm (Below.refl _ _)
  have HL := Lib.hid hl; have HM := Lib.hid hm
  clear hl hm hT
  go_enter Tryd.func6, Tryd.ntmps6
  go_wp2_with fail
  with_reducible refine (FL.out _ B0).mono ?_
  rintro e w1 ⟨r1, rfl, h1, rfl⟩
  clear h1
  cases r1
  · go_wp2_with fail
    with_reducible refine (FM.out _ B0).mono ?_
    rintro e w1 ⟨r2, rfl, h2, rfl⟩
    clear h2
    cases r2
    · go_wp2_with fail
      with_reducible refine (FC.out _ B0).mono ?_
      rintro e w2 ⟨A2, c2, rfl, hrd2, hb2⟩
      have B2 := Lib.hid hb2
      have Q2 : Hid (Row w2 A2 l) := Lib.hid ⟨hrd2, HL.out.ok, HL.out.count⟩
      have T2 := Lib.hid (T0.out.keep hb2)
      have FR := q_putRow Q2 c2 T2
      rw [hPS, h1] at FR
      rw [← HP.out] at FR
      replace FR : Hid (∀ W', Hid (Below w2.heap.size w2 W') → Calls Tryd.prog 11 #[.slice A2 l.length c2] W' fun e w' => e = .returned (.tuple #[.string P, .int .i64 0]) ∧ Below W'.heap.size W' w') := FR
      clear hrd2 hb2 FL FM
      go_wp2_with fail
      with_reducible refine (FR.out _ (Lib.hid (Below.refl _ _))).mono ?_
      rintro e w3 ⟨rfl, hb⟩
      have B3 := Lib.hid (B2.out.trans (hb.mono B2.out.size))
      clear hb FR
      go_wp2_with fail
      with_reducible refine (FD.out _ B3).mono ?_
      rintro e w4 ⟨A4, c4, rfl, hrd4, hb4⟩
      have B4 := Lib.hid (B3.out.trans (hb4.mono B3.out.size))
      have Q4 : Hid (Row w4 A4 m) := Lib.hid ⟨hrd4, HM.out.ok, HM.out.count⟩
      have T4 := Lib.hid (T0.out.keep B4.out)
      have FR := q_putRow Q4 c4 T4
      rw [hQS, h2] at FR
      replace FR : Hid (∀ W', Hid (Below w4.heap.size w4 W') → Calls Tryd.prog 11 #[.slice A4 m.length c4] W' fun e w' => e = .returned (.tuple #[.string ⟨#[]⟩, .int .i64 2]) ∧ Below W'.heap.size W' w') := FR
      clear hrd4 hb4
      go_wp2_with fail
      with_reducible refine (FR.out _ (Lib.hid (Below.refl _ _))).mono ?_
      rintro e w5 ⟨rfl, hb⟩
      have B5 := Lib.hid (B4.out.trans (hb.mono B4.out.size))
      clear hb FR
      go_wp2_with fail
      with_reducible refine (FA.out _ B5).mono ?_
      rintro e w9 ⟨rfl, hb⟩
      have HB := Lib.hid hb
      clear hb
      go_wp2
      go_ret
      exact ⟨rfl, B5.out.trans (HB.out.mono B5.out.size)⟩
    · go_wp2_with fail
      with_reducible refine (FA.out _ B0).mono ?_
      rintro e w9 ⟨rfl, hb⟩
      have HB := Lib.hid hb
      clear hb
      go_wp2
      go_ret
      exact ⟨rfl, B0.out.trans (HB.out.mono B0.out.size)⟩
  · go_wp2_with fail
    with_reducible refine (FA.out _ B0).mono ?_
    rintro e w9 ⟨rfl, hb⟩
    have HB := Lib.hid hb
    clear hb
    go_wp2
    go_ret
    exact ⟨rfl, B0.out.trans (HB.out.mono B0.out.size)⟩
set_option maxRecDepth 40000 in
set_option maxHeartbeats 2000000 in
theorem w_eq (A A' : Option Addr) (c c' : Nat) (l m : List V) (W : World) (hl : RowAt W A c l) (hm : RowAt W A' c' m) (hT : Tabs W) (h1 : mayRow l = true) (h2 : mayRow m = true) (he : l = m) : Calls Tryd.prog 6 #[.slice A l.length c, .slice A' m.length c'] W fun e w' => e = .returned (.bool true) ∧ Below W.heap.size W w' := by
  obtain ⟨P, hP⟩ : ∃ P, P = bs (putRow l) := ⟨_, rfl⟩
  have HP := Lib.hid hP
  have hPS : putRowS l = putRow l := by unfold putRowS; rw [h1]; rfl
  clear hP
  obtain ⟨Q, hQ⟩ : ∃ Q, Q = bs (putRow m) := ⟨_, rfl⟩
  have HQ := Lib.hid hQ
  have hQS : putRowS m = putRow m := by unfold putRowS; rw [h2]; rfl
  clear hQ
  have hs : same l m = true := same_iff.2 he
  have hPQ : P = Q := by rw [HP.out, HQ.out, he]
  subst hPQ
  clear he
  have T0 := Lib.hid hT
  have R0 := Lib.hid (Row.of hl)
  have S0 := Lib.hid (Row.of hm)
  have B0 := Lib.hid (Below.refl W.heap.size W)
  have FL := q_long R0 c
  have FM := q_long S0 c'
  have FA := q_alive T0
  have FC := q_copy hl (Below.refl _ _)
  have FD := q_copy hm (Below.refl _ _)
  have HL := Lib.hid hl; have HM := Lib.hid hm
  clear hl hm hT
  go_enter Tryd.func6, Tryd.ntmps6
  go_wp2_with fail
  with_reducible refine (FL.out _ B0).mono ?_
  rintro e w1 ⟨r1, rfl, h1, rfl⟩
  clear h1
  cases r1
  · go_wp2_with fail
    with_reducible refine (FM.out _ B0).mono ?_
    rintro e w1 ⟨r2, rfl, h2, rfl⟩
    clear h2
    cases r2
    · go_wp2_with fail
      with_reducible refine (FC.out _ B0).mono ?_
      rintro e w2 ⟨A2, c2, rfl, hrd2, hb2⟩
      have B2 := Lib.hid hb2
      have Q2 : Hid (Row w2 A2 l) := Lib.hid ⟨hrd2, HL.out.ok, HL.out.count⟩
      have T2 := Lib.hid (T0.out.keep hb2)
      have FR := q_putRow Q2 c2 T2
      rw [hPS, h1] at FR
      rw [← HP.out] at FR
      replace FR : Hid (∀ W', Hid (Below w2.heap.size w2 W') → Calls Tryd.prog 11 #[.slice A2 l.length c2] W' fun e w' => e = .returned (.tuple #[.string P, .int .i64 0]) ∧ Below W'.heap.size W' w') := FR
      clear hrd2 hb2 FL FM
      go_wp2_with fail
      with_reducible refine (FR.out _ (Lib.hid (Below.refl _ _))).mono ?_
      rintro e w3 ⟨rfl, hb⟩
      have B3 := Lib.hid (B2.out.trans (hb.mono B2.out.size))
      clear hb FR
      go_wp2_with fail
      with_reducible refine (FD.out _ B3).mono ?_
      rintro e w4 ⟨A4, c4, rfl, hrd4, hb4⟩
      have B4 := Lib.hid (B3.out.trans (hb4.mono B3.out.size))
      have Q4 : Hid (Row w4 A4 m) := Lib.hid ⟨hrd4, HM.out.ok, HM.out.count⟩
      have T4 := Lib.hid (T0.out.keep B4.out)
      have FR := q_putRow Q4 c4 T4
      rw [hQS, h2] at FR
      rw [← HQ.out] at FR
      replace FR : Hid (∀ W', Hid (Below w4.heap.size w4 W') → Calls Tryd.prog 11 #[.slice A4 m.length c4] W' fun e w' => e = .returned (.tuple #[.string P, .int .i64 0]) ∧ Below W'.heap.size W' w') := FR
      clear hrd4 hb4
      go_wp2_with fail
      with_reducible refine (FR.out _ (Lib.hid (Below.refl _ _))).mono ?_
      rintro e w5 ⟨rfl, hb⟩
      have B5 := Lib.hid (B4.out.trans (hb.mono B4.out.size))
      clear hb FR
      have FS := q_same R0 S0 c c'
      rw [hs] at FS
      go_wp2_with fail
      with_reducible refine (FS.out _ B5).mono ?_
      rintro e w6 ⟨rfl, hb⟩
      have B6 := Lib.hid (B5.out.trans (hb.mono B5.out.size))
      clear hb FS
      go_wp2_with fail
      with_reducible refine (FA.out _ B6).mono ?_
      rintro e w9 ⟨rfl, hb⟩
      have HB := Lib.hid hb
      clear hb
      go_wp2
      go_ret
      exact ⟨rfl, B6.out.trans (HB.out.mono B6.out.size)⟩
    · go_wp2_with fail
      with_reducible refine (FA.out _ B0).mono ?_
      rintro e w9 ⟨rfl, hb⟩
      have HB := Lib.hid hb
      clear hb
      go_wp2
      go_ret
      exact ⟨rfl, B0.out.trans (HB.out.mono B0.out.size)⟩
  · go_wp2_with fail
    with_reducible refine (FA.out _ B0).mono ?_
    rintro e w9 ⟨rfl, hb⟩
    have HB := Lib.hid hb
    clear hb
    go_wp2
    go_ret
    exact ⟨rfl, B0.out.trans (HB.out.mono B0.out.size)⟩
set_option maxRecDepth 40000 in
set_option maxHeartbeats 2000000 in
theorem w_ne (A A' : Option Addr) (c c' : Nat) (l m : List V) (W : World) (hl : RowAt W A c l) (hm : RowAt W A' c' m) (hT : Tabs W) (h1 : mayRow l = true) (h2 : mayRow m = true) (he : l ≠ m) : Calls Tryd.prog 6 #[.slice A l.length c, .slice A' m.length c'] W fun e w' => e = .returned (.bool true) ∧ Below W.heap.size W w' := by
  obtain ⟨P, hP⟩ : ∃ P, P = bs (putRow l) := ⟨_, rfl⟩
  have HP := Lib.hid hP
  have hPS : putRowS l = putRow l := by unfold putRowS; rw [h1]; rfl
  clear hP
  obtain ⟨Q, hQ⟩ : ∃ Q, Q = bs (putRow m) := ⟨_, rfl⟩
  have HQ := Lib.hid hQ
  have hQS : putRowS m = putRow m := by unfold putRowS; rw [h2]; rfl
  clear hQ
  have hs : same l m = false := by cases h : same l m; rfl; exact absurd (same_iff.1 h) he
  have HNE := Lib.hid he
  clear he
  have T0 := Lib.hid hT
  have R0 := Lib.hid (Row.of hl)
  have S0 := Lib.hid (Row.of hm)
  have B0 := Lib.hid (Below.refl W.heap.size W)
  have FL := q_long R0 c
  have FM := q_long S0 c'
  have FA := q_alive T0
  have FC := q_copy hl (Below.refl _ _)
  have FD := q_copy hm (Below.refl _ _)
  have HL := Lib.hid hl; have HM := Lib.hid hm
  clear hl hm hT
  go_enter Tryd.func6, Tryd.ntmps6
  go_wp2_with fail
  with_reducible refine (FL.out _ B0).mono ?_
  rintro e w1 ⟨r1, rfl, h1, rfl⟩
  clear h1
  cases r1
  · go_wp2_with fail
    with_reducible refine (FM.out _ B0).mono ?_
    rintro e w1 ⟨r2, rfl, h2, rfl⟩
    clear h2
    cases r2
    · go_wp2_with fail
      with_reducible refine (FC.out _ B0).mono ?_
      rintro e w2 ⟨A2, c2, rfl, hrd2, hb2⟩
      have B2 := Lib.hid hb2
      have Q2 : Hid (Row w2 A2 l) := Lib.hid ⟨hrd2, HL.out.ok, HL.out.count⟩
      have T2 := Lib.hid (T0.out.keep hb2)
      have FR := q_putRow Q2 c2 T2
      rw [hPS, h1] at FR
      rw [← HP.out] at FR
      replace FR : Hid (∀ W', Hid (Below w2.heap.size w2 W') → Calls Tryd.prog 11 #[.slice A2 l.length c2] W' fun e w' => e = .returned (.tuple #[.string P, .int .i64 0]) ∧ Below W'.heap.size W' w') := FR
      clear hrd2 hb2 FL FM
      go_wp2_with fail
      with_reducible refine (FR.out _ (Lib.hid (Below.refl _ _))).mono ?_
      rintro e w3 ⟨rfl, hb⟩
      have B3 := Lib.hid (B2.out.trans (hb.mono B2.out.size))
      clear hb FR
      go_wp2_with fail
      with_reducible refine (FD.out _ B3).mono ?_
      rintro e w4 ⟨A4, c4, rfl, hrd4, hb4⟩
      have B4 := Lib.hid (B3.out.trans (hb4.mono B3.out.size))
      have Q4 : Hid (Row w4 A4 m) := Lib.hid ⟨hrd4, HM.out.ok, HM.out.count⟩
      have T4 := Lib.hid (T0.out.keep B4.out)
      have FR := q_putRow Q4 c4 T4
      rw [hQS, h2] at FR
      rw [← HQ.out] at FR
      replace FR : Hid (∀ W', Hid (Below w4.heap.size w4 W') → Calls Tryd.prog 11 #[.slice A4 m.length c4] W' fun e w' => e = .returned (.tuple #[.string Q, .int .i64 0]) ∧ Below W'.heap.size W' w') := FR
      clear hrd4 hb4
      go_wp2_with fail
      with_reducible refine (FR.out _ (Lib.hid (Below.refl _ _))).mono ?_
      rintro e w5 ⟨rfl, hb⟩
      have B5 := Lib.hid (B4.out.trans (hb.mono B4.out.size))
      clear hb FR
      have FS := q_same R0 S0 c c'
      rw [hs] at FS
      go_wp2_with fail
      with_reducible refine (FS.out _ B5).mono ?_
      rintro e w6 ⟨rfl, hb⟩
      have B6 := Lib.hid (B5.out.trans (hb.mono B5.out.size))
      clear hb FS
      obtain ⟨N, hN⟩ : ∃ N, N = min P.size Q.size := ⟨_, rfl⟩
      have hmn : min (P.size : Int) (Q.size : Int) = (N : Int) := by omega
      have hap := row_apart' h1 h2 HL.out.ok HM.out.ok HNE.out HP.out HQ.out hN
      have hn1 : N ≤ P.size := by omega
      have hn2 : N ≤ Q.size := by omega
      clear hN
      have hz0 : (0 : Int) ≤ (N : Int) := by omega
      have hz1 : (N : Int) ≤ (P.size : Int) := by omega
      have hz2 : (N : Int) ≤ (Q.size : Int) := by omega
      have hne : ((P.extract 0 N).toList != (Q.extract 0 N).toList) = true := by simpa using hap
      have hne2 : ((P.extract 0 N).toList == (Q.extract 0 N).toList) = false := by simpa using hap
      clear hap
      go_wp2_with fail
      go_region_held3 (fun _ => True) (trivial) (first
        | (go_at_call 8; (with_reducible refine (FA.out _ (Lib.hid (B6.out.drew))).mono ?_); rintro e w9 ⟨rfl, hb⟩; have HB := Lib.hid hb; clear hb))
      all_goals
        go_wp2
        go_ret
        exact ⟨rfl, (B6.out.drew).trans (HB.out.mono B6.out.size)⟩
    · go_wp2_with fail
      with_reducible refine (FA.out _ B0).mono ?_
      rintro e w9 ⟨rfl, hb⟩
      have HB := Lib.hid hb
      clear hb
      go_wp2
      go_ret
      exact ⟨rfl, B0.out.trans (HB.out.mono B0.out.size)⟩
  · go_wp2_with fail
    with_reducible refine (FA.out _ B0).mono ?_
    rintro e w9 ⟨rfl, hb⟩
    have HB := Lib.hid hb
    clear hb
    go_wp2
    go_ret
    exact ⟨rfl, B0.out.trans (HB.out.mono B0.out.size)⟩
theorem walk (A : Option Addr) (c : Nat) (l : List V) (A' : Option Addr) (c' : Nat) (m : List V) (W : World) (hl : RowAt W A c l) (hm : RowAt W A' c' m) (hT : Tabs W) :
    Calls Tryd.prog 6 #[.slice A l.length c, .slice A' m.length c'] W fun e w' => e = .returned (.bool true) ∧ Below W.heap.size W w' := by
  cases h1 : mayRow l
  · exact w_f A A' c c' l m W hl hm hT h1
  · cases h2 : mayRow m
    · exact w_tf A A' c c' l m W hl hm hT h1 h2
    · by_cases he : l = m
      · exact w_eq A A' c c' l m W hl hm hT h1 h2 he
      · exact w_ne A A' c c' l m W hl hm hT h1 h2 he
end Go.Proofs.YthoiolihkomgmaaDoor.Wa5
