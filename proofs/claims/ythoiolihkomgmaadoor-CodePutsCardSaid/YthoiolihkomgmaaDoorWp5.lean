/- CodePuts: which way a value and a row go (written by genputs5.py). -/
import Derived.Test.YthoiolihkomgmaaDoorLq5
namespace Go.Proofs.YthoiolihkomgmaaDoor.Wp5
open Go Go.RowKit Go.Proofs Go.Proofs.YthoiolihkomgmaaDoor.Wm Go.Proofs.YthoiolihkomgmaaDoor.Vm Go.Proofs.YthoiolihkomgmaaDoor.Vr Go.Proofs.YthoiolihkomgmaaDoor.Vs Go.Proofs.YthoiolihkomgmaaDoor.Vc Go.Proofs.YthoiolihkomgmaaDoor.Vf Go.Proofs.YthoiolihkomgmaaDoor.Vh Go.Proofs.YthoiolihkomgmaaDoor.Vz Go.Proofs.YthoiolihkomgmaaDoor.Cm Go.Proofs.YthoiolihkomgmaaDoor.Pv5 Go.Proofs.YthoiolihkomgmaaDoor.Rv5 Go.Proofs.YthoiolihkomgmaaDoor.Pw5 Go.Proofs.YthoiolihkomgmaaDoor.Qf5 Go.Proofs.YthoiolihkomgmaaDoor.Lq5
set_option maxRecDepth 40000 in
theorem w_text (k n : Int) (r : Nat) (s : ByteArray) (A : Option Addr) (c : Nat) (l : List V) (W : World) (hv : V.ok ⟨k, n, r, s⟩) (hl : RowAt W A c l) (hT : Tabs W) (hs : 16384 < s.size) : Calls Tryd.prog 3 #[.agg #[.int .u8 k, .int .i64 n, .int .u64 (r : Int), .string s], .slice A l.length c] W fun e w' => e = .returned (.bool true) ∧ Below W.heap.size W w' := by
  have hz : decide ((16384 : Int) < (s.size : Int)) = true := decide_eq_true (by omega)
  have hA : Below W.heap.size W (W.alloc (.cells #[.int .u8 k, .int .i64 n, .int .u64 (r : Int), .string s] 24)) := (Below.refl _ _).alloc (Nat.le_refl _) _
  have X0 := Lib.hid (Box.new W k n r s)
  have T0 := Lib.hid (hT.keep hA)
  have R0 := Lib.hid ((Row.of hl).keep hA)
  have B0 := Lib.hid (Below.refl (W.alloc (.cells #[.int .u8 k, .int .i64 n, .int .u64 (r : Int), .string s] 24)).heap.size (W.alloc (.cells #[.int .u8 k, .int .i64 n, .int .u64 (r : Int), .string s] 24)))
  have FL := q_long R0 c
  have FA := q_alive T0
  have FC := q_copy hl hA
  have HL := Lib.hid hl; have HV := Lib.hid hv; have HA := Lib.hid hA
  clear hA hl hv hT
  clear FC
  go_enter Tryd.func3, Tryd.ntmps3
  go_wp2_with fail
  with_reducible refine (FL.out _ B0).mono ?_
  rintro e w1 ⟨rr, rfl, hlong, rfl⟩
  clear hlong
  cases rr
  · go_wp2_with fail
    with_reducible refine (FA.out _ B0).mono ?_
    rintro e w9 ⟨rfl, hb⟩
    have HB := Lib.hid hb
    clear hb
    go_wp2
    go_ret
    exact ⟨rfl, HA.out.trans (HB.out.mono HA.out.size)⟩
  · go_wp2_with fail
    with_reducible refine (FA.out _ B0).mono ?_
    rintro e w9 ⟨rfl, hb⟩
    have HB := Lib.hid hb
    clear hb
    go_wp2
    go_ret
    exact ⟨rfl, HA.out.trans (HB.out.mono HA.out.size)⟩
set_option maxRecDepth 40000 in
set_option maxHeartbeats 2000000 in
theorem w_tt (k n : Int) (r : Nat) (s : ByteArray) (A : Option Addr) (c : Nat) (l : List V) (W : World) (hv : V.ok ⟨k, n, r, s⟩) (hl : RowAt W A c l) (hT : Tabs W) (hs : ¬ 16384 < s.size) (hm : may ⟨k, n, r, s⟩ = true) (hr : mayRow l = true) : Calls Tryd.prog 3 #[.agg #[.int .u8 k, .int .i64 n, .int .u64 (r : Int), .string s], .slice A l.length c] W fun e w' => e = .returned (.bool true) ∧ Below W.heap.size W w' := by
  have hz : decide ((16384 : Int) < (s.size : Int)) = false := decide_eq_false (by omega)
  have hz' : ¬ ((16384 : Int) < (s.size : Int)) := by omega
  obtain ⟨P, hP⟩ : ∃ P, P = bs (put ⟨k, n, r, s⟩) := ⟨_, rfl⟩
  have HP := Lib.hid hP
  have hPS : putS ⟨k, n, r, s⟩ = put ⟨k, n, r, s⟩ := by unfold putS; rw [hm]; rfl
  clear hP
  obtain ⟨Q, hQ⟩ : ∃ Q, Q = bs (putRow l) := ⟨_, rfl⟩
  have HQ := Lib.hid hQ
  have hQS : putRowS l = putRow l := by unfold putRowS; rw [hr]; rfl
  have hQ8 : Q.size ≤ 825 := by rw [hQ, bs_size]; have := putRow_len hr; omega
  clear hQ
  have hA : Below W.heap.size W (W.alloc (.cells #[.int .u8 k, .int .i64 n, .int .u64 (r : Int), .string s] 24)) := (Below.refl _ _).alloc (Nat.le_refl _) _
  have X0 := Lib.hid (Box.new W k n r s)
  have T0 := Lib.hid (hT.keep hA)
  have R0 := Lib.hid ((Row.of hl).keep hA)
  have B0 := Lib.hid (Below.refl (W.alloc (.cells #[.int .u8 k, .int .i64 n, .int .u64 (r : Int), .string s] 24)).heap.size (W.alloc (.cells #[.int .u8 k, .int .i64 n, .int .u64 (r : Int), .string s] 24)))
  have FL := q_long R0 c
  have FA := q_alive T0
  have FC := q_copy hl hA
  have HL := Lib.hid hl; have HV := Lib.hid hv; have HA := Lib.hid hA
  clear hA hl hv hT
  go_enter Tryd.func3, Tryd.ntmps3
  go_wp2_with fail
  with_reducible refine (FL.out _ B0).mono ?_
  rintro e w1 ⟨rr, rfl, hlong, rfl⟩
  clear hlong
  cases rr
  · go_wp2_with fail
    with_reducible refine (FC.out _ B0).mono ?_
    rintro e w2 ⟨A2, c2, rfl, hrd2, hb2⟩
    have X2 := Lib.hid (X0.out.below hb2)
    have T2 := Lib.hid (T0.out.keep hb2)
    have R2 := Lib.hid (R0.out.keep hb2)
    have Q2 : Hid (Row w2 A2 l) := Lib.hid ⟨hrd2, HL.out.ok, HL.out.count⟩
    have B2 := Lib.hid (Below.refl w2.heap.size w2)
    have HW := Lib.hid (HA.out.trans (hb2.mono HA.out.size))
    obtain ⟨d0, d1, d2, d3⟩ := X2.out.cells
    have FP := q_put k n r s HV.out T2
    have FM := q_may k n r s HV.out T2
    have FR := q_putRow Q2 c2 T2
    have FRow := q_row R2 c T2
    have FS := q_same Q2 R2 c2 c
    have FA2 := q_alive T2
    rw [Lq5.same_self] at FS
    rw [hm] at FP FM
    rw [hr] at FR FRow
    rw [hPS] at FP
    rw [hQS] at FR
    have FRP := q_refput k n r s HV.out hm w2
    rw [← HP.out] at FP FRP
    have FRQ := q_refputRow R2 c hr
    rw [← HQ.out] at FR FRQ
    replace FP : Hid (∀ W', Hid (Below w2.heap.size w2 W') → Calls Tryd.prog 10 #[.agg #[.int .u8 k, .int .i64 n, .int .u64 (r : Int), .string s]] W' fun e w' => e = .returned (.tuple #[.string P, .int .i64 0]) ∧ Below W'.heap.size W' w') := FP
    replace FR : Hid (∀ W', Hid (Below w2.heap.size w2 W') → Calls Tryd.prog 11 #[.slice A2 l.length c2] W' fun e w' => e = .returned (.tuple #[.string Q, .int .i64 0]) ∧ Below W'.heap.size W' w') := FR
    clear hrd2 hb2 hPS hQS hm hr X0 T0 R0 FL FA FC
    go_wp2_with fail
    with_reducible refine (FP.out _ B2).mono ?_
    rintro e w3 ⟨rfl, hb⟩
    have B3 := Lib.hid (B2.out.trans (hb.mono B2.out.size))
    clear d0 d1 d2 d3
    obtain ⟨d0, d1, d2, d3⟩ := (X2.out.below B3.out).cells
    clear hb
    go_wp2_with fail
    with_reducible refine (FR.out _ B3).mono ?_
    rintro e w4 ⟨rfl, hb⟩
    have B4 := Lib.hid (B3.out.trans (hb.mono B3.out.size))
    clear d0 d1 d2 d3
    obtain ⟨d0, d1, d2, d3⟩ := (X2.out.below B4.out).cells
    clear hb
    go_wp2_with fail
    with_reducible refine (FS.out _ B4).mono ?_
    rintro e w5 ⟨rfl, hb⟩
    have B5 := Lib.hid (B4.out.trans (hb.mono B4.out.size))
    clear d0 d1 d2 d3
    obtain ⟨d0, d1, d2, d3⟩ := (X2.out.below B5.out).cells
    clear hb
    go_wp2_with fail
    with_reducible refine (FM.out _ B5).mono ?_
    rintro e w6 ⟨rfl, hb⟩
    have B6 := Lib.hid (B5.out.trans (hb.mono B5.out.size))
    clear d0 d1 d2 d3
    obtain ⟨d0, d1, d2, d3⟩ := (X2.out.below B6.out).cells
    clear hb
    go_wp2_with fail
    with_reducible refine (FRow.out _ B6).mono ?_
    rintro e w7 ⟨rfl, hb⟩
    have B7 := Lib.hid (B6.out.trans (hb.mono B6.out.size))
    clear d0 d1 d2 d3
    obtain ⟨d0, d1, d2, d3⟩ := (X2.out.below B7.out).cells
    clear hb
    go_wp2_with fail
    with_reducible refine (FM.out _ B7).mono ?_
    rintro e w8 ⟨rfl, hb⟩
    have B8 := Lib.hid (B7.out.trans (hb.mono B7.out.size))
    clear d0 d1 d2 d3
    obtain ⟨d0, d1, d2, d3⟩ := (X2.out.below B8.out).cells
    clear hb
    go_wp2_with fail
    with_reducible refine (FRP.out _ B8).mono ?_
    rintro e w9 ⟨rfl, hb⟩
    have B9 := Lib.hid (B8.out.trans (hb.mono B8.out.size))
    clear d0 d1 d2 d3
    obtain ⟨d0, d1, d2, d3⟩ := (X2.out.below B9.out).cells
    clear hb
    go_wp2_with fail
    with_reducible refine (FRow.out _ B9).mono ?_
    rintro e w10 ⟨rfl, hb⟩
    have B10 := Lib.hid (B9.out.trans (hb.mono B9.out.size))
    clear d0 d1 d2 d3
    obtain ⟨d0, d1, d2, d3⟩ := (X2.out.below B10.out).cells
    clear hb
    go_wp2_with fail
    with_reducible refine (FRQ.out _ B10).mono ?_
    rintro e w11 ⟨rfl, hb⟩
    have B11 := Lib.hid (B10.out.trans (hb.mono B10.out.size))
    clear d0 d1 d2 d3
    obtain ⟨d0, d1, d2, d3⟩ := (X2.out.below B11.out).cells
    clear hb
    go_wp2_with fail
    with_reducible refine (FA2.out _ B11).mono ?_
    rintro e w20 ⟨rfl, hb⟩
    have HB := Lib.hid hb
    clear hb
    go_wp2
    go_ret
    exact ⟨rfl, HW.out.trans ((B11.out.trans (HB.out.mono B11.out.size)).mono HW.out.size)⟩
  · go_wp2_with fail
    with_reducible refine (FA.out _ B0).mono ?_
    rintro e w9 ⟨rfl, hb⟩
    have HB := Lib.hid hb
    clear hb
    go_wp2
    go_ret
    exact ⟨rfl, HA.out.trans (HB.out.mono HA.out.size)⟩
set_option maxRecDepth 40000 in
set_option maxHeartbeats 2000000 in
theorem w_tf (k n : Int) (r : Nat) (s : ByteArray) (A : Option Addr) (c : Nat) (l : List V) (W : World) (hv : V.ok ⟨k, n, r, s⟩) (hl : RowAt W A c l) (hT : Tabs W) (hs : ¬ 16384 < s.size) (hm : may ⟨k, n, r, s⟩ = true) (hr : mayRow l = false) : Calls Tryd.prog 3 #[.agg #[.int .u8 k, .int .i64 n, .int .u64 (r : Int), .string s], .slice A l.length c] W fun e w' => e = .returned (.bool true) ∧ Below W.heap.size W w' := by
  have hz : decide ((16384 : Int) < (s.size : Int)) = false := decide_eq_false (by omega)
  have hz' : ¬ ((16384 : Int) < (s.size : Int)) := by omega
  obtain ⟨P, hP⟩ : ∃ P, P = bs (put ⟨k, n, r, s⟩) := ⟨_, rfl⟩
  have HP := Lib.hid hP
  have hPS : putS ⟨k, n, r, s⟩ = put ⟨k, n, r, s⟩ := by unfold putS; rw [hm]; rfl
  clear hP
  have hQS : putRowS l = [] := by unfold putRowS; rw [hr]; rfl
  have hA : Below W.heap.size W (W.alloc (.cells #[.int .u8 k, .int .i64 n, .int .u64 (r : Int), .string s] 24)) := (Below.refl _ _).alloc (Nat.le_refl _) _
  have X0 := Lib.hid (Box.new W k n r s)
  have T0 := Lib.hid (hT.keep hA)
  have R0 := Lib.hid ((Row.of hl).keep hA)
  have B0 := Lib.hid (Below.refl (W.alloc (.cells #[.int .u8 k, .int .i64 n, .int .u64 (r : Int), .string s] 24)).heap.size (W.alloc (.cells #[.int .u8 k, .int .i64 n, .int .u64 (r : Int), .string s] 24)))
  have FL := q_long R0 c
  have FA := q_alive T0
  have FC := q_copy hl hA
  have HL := Lib.hid hl; have HV := Lib.hid hv; have HA := Lib.hid hA
  clear hA hl hv hT
  go_enter Tryd.func3, Tryd.ntmps3
  go_wp2_with fail
  with_reducible refine (FL.out _ B0).mono ?_
  rintro e w1 ⟨rr, rfl, hlong, rfl⟩
  clear hlong
  cases rr
  · go_wp2_with fail
    with_reducible refine (FC.out _ B0).mono ?_
    rintro e w2 ⟨A2, c2, rfl, hrd2, hb2⟩
    have X2 := Lib.hid (X0.out.below hb2)
    have T2 := Lib.hid (T0.out.keep hb2)
    have R2 := Lib.hid (R0.out.keep hb2)
    have Q2 : Hid (Row w2 A2 l) := Lib.hid ⟨hrd2, HL.out.ok, HL.out.count⟩
    have B2 := Lib.hid (Below.refl w2.heap.size w2)
    have HW := Lib.hid (HA.out.trans (hb2.mono HA.out.size))
    obtain ⟨d0, d1, d2, d3⟩ := X2.out.cells
    have FP := q_put k n r s HV.out T2
    have FM := q_may k n r s HV.out T2
    have FR := q_putRow Q2 c2 T2
    have FRow := q_row R2 c T2
    have FS := q_same Q2 R2 c2 c
    have FA2 := q_alive T2
    rw [Lq5.same_self] at FS
    rw [hm] at FP FM
    rw [hr] at FR FRow
    rw [hPS] at FP
    rw [hQS] at FR
    have FRP := q_refput k n r s HV.out hm w2
    rw [← HP.out] at FP FRP
    replace FP : Hid (∀ W', Hid (Below w2.heap.size w2 W') → Calls Tryd.prog 10 #[.agg #[.int .u8 k, .int .i64 n, .int .u64 (r : Int), .string s]] W' fun e w' => e = .returned (.tuple #[.string P, .int .i64 0]) ∧ Below W'.heap.size W' w') := FP
    replace FR : Hid (∀ W', Hid (Below w2.heap.size w2 W') → Calls Tryd.prog 11 #[.slice A2 l.length c2] W' fun e w' => e = .returned (.tuple #[.string ⟨#[]⟩, .int .i64 2]) ∧ Below W'.heap.size W' w') := FR
    clear hrd2 hb2 hPS hQS hm hr X0 T0 R0 FL FA FC
    go_wp2_with fail
    with_reducible refine (FP.out _ B2).mono ?_
    rintro e w3 ⟨rfl, hb⟩
    have B3 := Lib.hid (B2.out.trans (hb.mono B2.out.size))
    clear d0 d1 d2 d3
    obtain ⟨d0, d1, d2, d3⟩ := (X2.out.below B3.out).cells
    clear hb
    go_wp2_with fail
    with_reducible refine (FR.out _ B3).mono ?_
    rintro e w4 ⟨rfl, hb⟩
    have B4 := Lib.hid (B3.out.trans (hb.mono B3.out.size))
    clear d0 d1 d2 d3
    obtain ⟨d0, d1, d2, d3⟩ := (X2.out.below B4.out).cells
    clear hb
    go_wp2_with fail
    with_reducible refine (FS.out _ B4).mono ?_
    rintro e w5 ⟨rfl, hb⟩
    have B5 := Lib.hid (B4.out.trans (hb.mono B4.out.size))
    clear d0 d1 d2 d3
    obtain ⟨d0, d1, d2, d3⟩ := (X2.out.below B5.out).cells
    clear hb
    go_wp2_with fail
    with_reducible refine (FM.out _ B5).mono ?_
    rintro e w6 ⟨rfl, hb⟩
    have B6 := Lib.hid (B5.out.trans (hb.mono B5.out.size))
    clear d0 d1 d2 d3
    obtain ⟨d0, d1, d2, d3⟩ := (X2.out.below B6.out).cells
    clear hb
    go_wp2_with fail
    with_reducible refine (FRow.out _ B6).mono ?_
    rintro e w7 ⟨rfl, hb⟩
    have B7 := Lib.hid (B6.out.trans (hb.mono B6.out.size))
    clear d0 d1 d2 d3
    obtain ⟨d0, d1, d2, d3⟩ := (X2.out.below B7.out).cells
    clear hb
    go_wp2_with fail
    with_reducible refine (FM.out _ B7).mono ?_
    rintro e w8 ⟨rfl, hb⟩
    have B8 := Lib.hid (B7.out.trans (hb.mono B7.out.size))
    clear d0 d1 d2 d3
    obtain ⟨d0, d1, d2, d3⟩ := (X2.out.below B8.out).cells
    clear hb
    go_wp2_with fail
    with_reducible refine (FRP.out _ B8).mono ?_
    rintro e w9 ⟨rfl, hb⟩
    have B9 := Lib.hid (B8.out.trans (hb.mono B8.out.size))
    clear d0 d1 d2 d3
    obtain ⟨d0, d1, d2, d3⟩ := (X2.out.below B9.out).cells
    clear hb
    go_wp2_with fail
    with_reducible refine (FRow.out _ B9).mono ?_
    rintro e w10 ⟨rfl, hb⟩
    have B10 := Lib.hid (B9.out.trans (hb.mono B9.out.size))
    clear d0 d1 d2 d3
    obtain ⟨d0, d1, d2, d3⟩ := (X2.out.below B10.out).cells
    clear hb
    go_wp2_with fail
    with_reducible refine (FA2.out _ B10).mono ?_
    rintro e w20 ⟨rfl, hb⟩
    have HB := Lib.hid hb
    clear hb
    go_wp2
    go_ret
    exact ⟨rfl, HW.out.trans ((B10.out.trans (HB.out.mono B10.out.size)).mono HW.out.size)⟩
  · go_wp2_with fail
    with_reducible refine (FA.out _ B0).mono ?_
    rintro e w9 ⟨rfl, hb⟩
    have HB := Lib.hid hb
    clear hb
    go_wp2
    go_ret
    exact ⟨rfl, HA.out.trans (HB.out.mono HA.out.size)⟩
set_option maxRecDepth 40000 in
set_option maxHeartbeats 2000000 in
theorem w_ft (k n : Int) (r : Nat) (s : ByteArray) (A : Option Addr) (c : Nat) (l : List V) (W : World) (hv : V.ok ⟨k, n, r, s⟩) (hl : RowAt W A c l) (hT : Tabs W) (hs : ¬ 16384 < s.size) (hm : may ⟨k, n, r, s⟩ = false) (hr : mayRow l = true) : Calls Tryd.prog 3 #[.agg #[.int .u8 k, .int .i64 n, .int .u64 (r : Int), .string s], .slice A l.length c] W fun e w' => e = .returned (.bool true) ∧ Below W.heap.size W w' := by
  have hz : decide ((16384 : Int) < (s.size : Int)) = false := decide_eq_false (by omega)
  have hz' : ¬ ((16384 : Int) < (s.size : Int)) := by omega
  have hPS : putS ⟨k, n, r, s⟩ = [] := by unfold putS; rw [hm]; rfl
  obtain ⟨Q, hQ⟩ : ∃ Q, Q = bs (putRow l) := ⟨_, rfl⟩
  have HQ := Lib.hid hQ
  have hQS : putRowS l = putRow l := by unfold putRowS; rw [hr]; rfl
  have hQ8 : Q.size ≤ 825 := by rw [hQ, bs_size]; have := putRow_len hr; omega
  clear hQ
  have hA : Below W.heap.size W (W.alloc (.cells #[.int .u8 k, .int .i64 n, .int .u64 (r : Int), .string s] 24)) := (Below.refl _ _).alloc (Nat.le_refl _) _
  have X0 := Lib.hid (Box.new W k n r s)
  have T0 := Lib.hid (hT.keep hA)
  have R0 := Lib.hid ((Row.of hl).keep hA)
  have B0 := Lib.hid (Below.refl (W.alloc (.cells #[.int .u8 k, .int .i64 n, .int .u64 (r : Int), .string s] 24)).heap.size (W.alloc (.cells #[.int .u8 k, .int .i64 n, .int .u64 (r : Int), .string s] 24)))
  have FL := q_long R0 c
  have FA := q_alive T0
  have FC := q_copy hl hA
  have HL := Lib.hid hl; have HV := Lib.hid hv; have HA := Lib.hid hA
  clear hA hl hv hT
  go_enter Tryd.func3, Tryd.ntmps3
  go_wp2_with fail
  with_reducible refine (FL.out _ B0).mono ?_
  rintro e w1 ⟨rr, rfl, hlong, rfl⟩
  clear hlong
  cases rr
  · go_wp2_with fail
    with_reducible refine (FC.out _ B0).mono ?_
    rintro e w2 ⟨A2, c2, rfl, hrd2, hb2⟩
    have X2 := Lib.hid (X0.out.below hb2)
    have T2 := Lib.hid (T0.out.keep hb2)
    have R2 := Lib.hid (R0.out.keep hb2)
    have Q2 : Hid (Row w2 A2 l) := Lib.hid ⟨hrd2, HL.out.ok, HL.out.count⟩
    have B2 := Lib.hid (Below.refl w2.heap.size w2)
    have HW := Lib.hid (HA.out.trans (hb2.mono HA.out.size))
    obtain ⟨d0, d1, d2, d3⟩ := X2.out.cells
    have FP := q_put k n r s HV.out T2
    have FM := q_may k n r s HV.out T2
    have FR := q_putRow Q2 c2 T2
    have FRow := q_row R2 c T2
    have FS := q_same Q2 R2 c2 c
    have FA2 := q_alive T2
    rw [Lq5.same_self] at FS
    rw [hm] at FP FM
    rw [hr] at FR FRow
    rw [hPS] at FP
    rw [hQS] at FR
    have FRQ := q_refputRow R2 c hr
    rw [← HQ.out] at FR FRQ
    replace FP : Hid (∀ W', Hid (Below w2.heap.size w2 W') → Calls Tryd.prog 10 #[.agg #[.int .u8 k, .int .i64 n, .int .u64 (r : Int), .string s]] W' fun e w' => e = .returned (.tuple #[.string ⟨#[]⟩, .int .i64 2]) ∧ Below W'.heap.size W' w') := FP
    replace FR : Hid (∀ W', Hid (Below w2.heap.size w2 W') → Calls Tryd.prog 11 #[.slice A2 l.length c2] W' fun e w' => e = .returned (.tuple #[.string Q, .int .i64 0]) ∧ Below W'.heap.size W' w') := FR
    clear hrd2 hb2 hPS hQS hm hr X0 T0 R0 FL FA FC
    go_wp2_with fail
    with_reducible refine (FP.out _ B2).mono ?_
    rintro e w3 ⟨rfl, hb⟩
    have B3 := Lib.hid (B2.out.trans (hb.mono B2.out.size))
    clear d0 d1 d2 d3
    obtain ⟨d0, d1, d2, d3⟩ := (X2.out.below B3.out).cells
    clear hb
    go_wp2_with fail
    with_reducible refine (FR.out _ B3).mono ?_
    rintro e w4 ⟨rfl, hb⟩
    have B4 := Lib.hid (B3.out.trans (hb.mono B3.out.size))
    clear d0 d1 d2 d3
    obtain ⟨d0, d1, d2, d3⟩ := (X2.out.below B4.out).cells
    clear hb
    go_wp2_with fail
    with_reducible refine (FS.out _ B4).mono ?_
    rintro e w5 ⟨rfl, hb⟩
    have B5 := Lib.hid (B4.out.trans (hb.mono B4.out.size))
    clear d0 d1 d2 d3
    obtain ⟨d0, d1, d2, d3⟩ := (X2.out.below B5.out).cells
    clear hb
    go_wp2_with fail
    with_reducible refine (FM.out _ B5).mono ?_
    rintro e w6 ⟨rfl, hb⟩
    have B6 := Lib.hid (B5.out.trans (hb.mono B5.out.size))
    clear d0 d1 d2 d3
    obtain ⟨d0, d1, d2, d3⟩ := (X2.out.below B6.out).cells
    clear hb
    go_wp2_with fail
    with_reducible refine (FRow.out _ B6).mono ?_
    rintro e w7 ⟨rfl, hb⟩
    have B7 := Lib.hid (B6.out.trans (hb.mono B6.out.size))
    clear d0 d1 d2 d3
    obtain ⟨d0, d1, d2, d3⟩ := (X2.out.below B7.out).cells
    clear hb
    go_wp2_with fail
    with_reducible refine (FM.out _ B7).mono ?_
    rintro e w8 ⟨rfl, hb⟩
    have B8 := Lib.hid (B7.out.trans (hb.mono B7.out.size))
    clear d0 d1 d2 d3
    obtain ⟨d0, d1, d2, d3⟩ := (X2.out.below B8.out).cells
    clear hb
    go_wp2_with fail
    with_reducible refine (FRow.out _ B8).mono ?_
    rintro e w9 ⟨rfl, hb⟩
    have B9 := Lib.hid (B8.out.trans (hb.mono B8.out.size))
    clear d0 d1 d2 d3
    obtain ⟨d0, d1, d2, d3⟩ := (X2.out.below B9.out).cells
    clear hb
    go_wp2_with fail
    with_reducible refine (FRQ.out _ B9).mono ?_
    rintro e w10 ⟨rfl, hb⟩
    have B10 := Lib.hid (B9.out.trans (hb.mono B9.out.size))
    clear d0 d1 d2 d3
    obtain ⟨d0, d1, d2, d3⟩ := (X2.out.below B10.out).cells
    clear hb
    go_wp2_with fail
    with_reducible refine (FA2.out _ B10).mono ?_
    rintro e w20 ⟨rfl, hb⟩
    have HB := Lib.hid hb
    clear hb
    go_wp2
    go_ret
    exact ⟨rfl, HW.out.trans ((B10.out.trans (HB.out.mono B10.out.size)).mono HW.out.size)⟩
  · go_wp2_with fail
    with_reducible refine (FA.out _ B0).mono ?_
    rintro e w9 ⟨rfl, hb⟩
    have HB := Lib.hid hb
    clear hb
    go_wp2
    go_ret
    exact ⟨rfl, HA.out.trans (HB.out.mono HA.out.size)⟩
set_option maxRecDepth 40000 in
set_option maxHeartbeats 2000000 in
theorem w_ff (k n : Int) (r : Nat) (s : ByteArray) (A : Option Addr) (c : Nat) (l : List V) (W : World) (hv : V.ok ⟨k, n, r, s⟩) (hl : RowAt W A c l) (hT : Tabs W) (hs : ¬ 16384 < s.size) (hm : may ⟨k, n, r, s⟩ = false) (hr : mayRow l = false) : Calls Tryd.prog 3 #[.agg #[.int .u8 k, .int .i64 n, .int .u64 (r : Int), .string s], .slice A l.length c] W fun e w' => e = .returned (.bool true) ∧ Below W.heap.size W w' := by
  have hz : decide ((16384 : Int) < (s.size : Int)) = false := decide_eq_false (by omega)
  have hz' : ¬ ((16384 : Int) < (s.size : Int)) := by omega
  have hPS : putS ⟨k, n, r, s⟩ = [] := by unfold putS; rw [hm]; rfl
  have hQS : putRowS l = [] := by unfold putRowS; rw [hr]; rfl
  have hA : Below W.heap.size W (W.alloc (.cells #[.int .u8 k, .int .i64 n, .int .u64 (r : Int), .string s] 24)) := (Below.refl _ _).alloc (Nat.le_refl _) _
  have X0 := Lib.hid (Box.new W k n r s)
  have T0 := Lib.hid (hT.keep hA)
  have R0 := Lib.hid ((Row.of hl).keep hA)
  have B0 := Lib.hid (Below.refl (W.alloc (.cells #[.int .u8 k, .int .i64 n, .int .u64 (r : Int), .string s] 24)).heap.size (W.alloc (.cells #[.int .u8 k, .int .i64 n, .int .u64 (r : Int), .string s] 24)))
  have FL := q_long R0 c
  have FA := q_alive T0
  have FC := q_copy hl hA
  have HL := Lib.hid hl; have HV := Lib.hid hv; have HA := Lib.hid hA
  clear hA hl hv hT
  go_enter Tryd.func3, Tryd.ntmps3
  go_wp2_with fail
  with_reducible refine (FL.out _ B0).mono ?_
  rintro e w1 ⟨rr, rfl, hlong, rfl⟩
  clear hlong
  cases rr
  · go_wp2_with fail
    with_reducible refine (FC.out _ B0).mono ?_
    rintro e w2 ⟨A2, c2, rfl, hrd2, hb2⟩
    have X2 := Lib.hid (X0.out.below hb2)
    have T2 := Lib.hid (T0.out.keep hb2)
    have R2 := Lib.hid (R0.out.keep hb2)
    have Q2 : Hid (Row w2 A2 l) := Lib.hid ⟨hrd2, HL.out.ok, HL.out.count⟩
    have B2 := Lib.hid (Below.refl w2.heap.size w2)
    have HW := Lib.hid (HA.out.trans (hb2.mono HA.out.size))
    obtain ⟨d0, d1, d2, d3⟩ := X2.out.cells
    have FP := q_put k n r s HV.out T2
    have FM := q_may k n r s HV.out T2
    have FR := q_putRow Q2 c2 T2
    have FRow := q_row R2 c T2
    have FS := q_same Q2 R2 c2 c
    have FA2 := q_alive T2
    rw [Lq5.same_self] at FS
    rw [hm] at FP FM
    rw [hr] at FR FRow
    rw [hPS] at FP
    rw [hQS] at FR
    replace FP : Hid (∀ W', Hid (Below w2.heap.size w2 W') → Calls Tryd.prog 10 #[.agg #[.int .u8 k, .int .i64 n, .int .u64 (r : Int), .string s]] W' fun e w' => e = .returned (.tuple #[.string ⟨#[]⟩, .int .i64 2]) ∧ Below W'.heap.size W' w') := FP
    replace FR : Hid (∀ W', Hid (Below w2.heap.size w2 W') → Calls Tryd.prog 11 #[.slice A2 l.length c2] W' fun e w' => e = .returned (.tuple #[.string ⟨#[]⟩, .int .i64 2]) ∧ Below W'.heap.size W' w') := FR
    clear hrd2 hb2 hPS hQS hm hr X0 T0 R0 FL FA FC
    go_wp2_with fail
    with_reducible refine (FP.out _ B2).mono ?_
    rintro e w3 ⟨rfl, hb⟩
    have B3 := Lib.hid (B2.out.trans (hb.mono B2.out.size))
    clear d0 d1 d2 d3
    obtain ⟨d0, d1, d2, d3⟩ := (X2.out.below B3.out).cells
    clear hb
    go_wp2_with fail
    with_reducible refine (FR.out _ B3).mono ?_
    rintro e w4 ⟨rfl, hb⟩
    have B4 := Lib.hid (B3.out.trans (hb.mono B3.out.size))
    clear d0 d1 d2 d3
    obtain ⟨d0, d1, d2, d3⟩ := (X2.out.below B4.out).cells
    clear hb
    go_wp2_with fail
    with_reducible refine (FS.out _ B4).mono ?_
    rintro e w5 ⟨rfl, hb⟩
    have B5 := Lib.hid (B4.out.trans (hb.mono B4.out.size))
    clear d0 d1 d2 d3
    obtain ⟨d0, d1, d2, d3⟩ := (X2.out.below B5.out).cells
    clear hb
    go_wp2_with fail
    with_reducible refine (FM.out _ B5).mono ?_
    rintro e w6 ⟨rfl, hb⟩
    have B6 := Lib.hid (B5.out.trans (hb.mono B5.out.size))
    clear d0 d1 d2 d3
    obtain ⟨d0, d1, d2, d3⟩ := (X2.out.below B6.out).cells
    clear hb
    go_wp2_with fail
    with_reducible refine (FRow.out _ B6).mono ?_
    rintro e w7 ⟨rfl, hb⟩
    have B7 := Lib.hid (B6.out.trans (hb.mono B6.out.size))
    clear d0 d1 d2 d3
    obtain ⟨d0, d1, d2, d3⟩ := (X2.out.below B7.out).cells
    clear hb
    go_wp2_with fail
    with_reducible refine (FM.out _ B7).mono ?_
    rintro e w8 ⟨rfl, hb⟩
    have B8 := Lib.hid (B7.out.trans (hb.mono B7.out.size))
    clear d0 d1 d2 d3
    obtain ⟨d0, d1, d2, d3⟩ := (X2.out.below B8.out).cells
    clear hb
    go_wp2_with fail
    with_reducible refine (FRow.out _ B8).mono ?_
    rintro e w9 ⟨rfl, hb⟩
    have B9 := Lib.hid (B8.out.trans (hb.mono B8.out.size))
    clear d0 d1 d2 d3
    obtain ⟨d0, d1, d2, d3⟩ := (X2.out.below B9.out).cells
    clear hb
    go_wp2_with fail
    with_reducible refine (FA2.out _ B9).mono ?_
    rintro e w20 ⟨rfl, hb⟩
    have HB := Lib.hid hb
    clear hb
    go_wp2
    go_ret
    exact ⟨rfl, HW.out.trans ((B9.out.trans (HB.out.mono B9.out.size)).mono HW.out.size)⟩
  · go_wp2_with fail
    with_reducible refine (FA.out _ B0).mono ?_
    rintro e w9 ⟨rfl, hb⟩
    have HB := Lib.hid hb
    clear hb
    go_wp2
    go_ret
    exact ⟨rfl, HA.out.trans (HB.out.mono HA.out.size)⟩
theorem walk (v : V) (A : Option Addr) (c : Nat) (l : List V) (W : World) (hv : v.ok) (hl : RowAt W A c l) (hT : Tabs W) :
    Calls Tryd.prog 3 #[vv v, .slice A l.length c] W fun e w' => e = .returned (.bool true) ∧ Below W.heap.size W w' := by
  obtain ⟨k, n, r, s⟩ := v
  by_cases hs : 16384 < s.size
  · exact w_text k n r s A c l W hv hl hT hs
  · cases hm : may ⟨k, n, r, s⟩ <;> cases hr : mayRow l
    · exact w_ff k n r s A c l W hv hl hT hs hm hr
    · exact w_ft k n r s A c l W hv hl hT hs hm hr
    · exact w_tf k n r s A c l W hv hl hT hs hm hr
    · exact w_tt k n r s A c l W hv hl hT hs hm hr
end Go.Proofs.YthoiolihkomgmaaDoor.Wp5
