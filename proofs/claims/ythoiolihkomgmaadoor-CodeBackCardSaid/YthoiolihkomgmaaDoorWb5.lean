/- CodeBack: which way a row, what stands behind it, any bytes and a cut go (written by genback5.py). -/
import Derived.Test.YthoiolihkomgmaaDoorLq5
import Derived.Test.YthoiolihkomgmaaDoorCb5
namespace Go.Proofs.YthoiolihkomgmaaDoor.Wb5
open Go Go.RowKit Go.Proofs Go.Proofs.YthoiolihkomgmaaDoor.Wm Go.Proofs.YthoiolihkomgmaaDoor.Vm Go.Proofs.YthoiolihkomgmaaDoor.Vr Go.Proofs.YthoiolihkomgmaaDoor.Vs Go.Proofs.YthoiolihkomgmaaDoor.Vc Go.Proofs.YthoiolihkomgmaaDoor.Vf Go.Proofs.YthoiolihkomgmaaDoor.Vh Go.Proofs.YthoiolihkomgmaaDoor.Vz Go.Proofs.YthoiolihkomgmaaDoor.Cm Go.Proofs.YthoiolihkomgmaaDoor.Pv5 Go.Proofs.YthoiolihkomgmaaDoor.Rv5 Go.Proofs.YthoiolihkomgmaaDoor.Rr5 Go.Proofs.YthoiolihkomgmaaDoor.Rs5 Go.Proofs.YthoiolihkomgmaaDoor.Pw5 Go.Proofs.YthoiolihkomgmaaDoor.Qf5 Go.Proofs.YthoiolihkomgmaaDoor.Lq5
def Got1 (W : World) (l : List V) (n : Int) (e : Ending) (w' : World) : Prop := ∃ b c, e = .returned (.tuple #[.slice (some ⟨b, 0, none⟩) l.length c, .int .i64 n, .int .i64 0]) ∧ Reads w' (some ⟨b, 0, none⟩) l ∧ Below W.heap.size W w'
def Got0 (W : World) (c : Int) (e : Ending) (w' : World) : Prop := e = .returned (.tuple #[.slice none 0 0, .int .i64 0, .int .i64 c]) ∧ Below W.heap.size W w'
/-- What was put is got, whatever stands behind. -/
theorem q_get1 {l : List V} (hm : mayRow l = true) (hk : ∀ v ∈ l, v.ok) {P M : ByteArray} (hP : P = bs (putRow l)) (hM : M.size ≤ 20000) {w : World} (hT : Hid (Tabs w)) :
    Hid (∀ W', Hid (Below w.heap.size w W') → Calls Tryd.prog 19 #[.string (P ++ M)] W' (Got1 W' l (P.size : Int))) := Lib.hid fun W' hb => by
  have hlen := putRow_len hm
  have hML : M.data.toList.length = M.size := Array.length_toList
  have h := (q_getRow (putRow l ++ M.data.toList) (by rw [List.length_append]; omega) hT).out W' hb
  rw [Cp5.row_put hm hk, ← bs_append, bs_of, ← hP] at h
  refine h.mono fun e w' ⟨b, c, he, hr, hbw⟩ => ⟨b, c, ?_, hr, hbw⟩
  rw [he]
  have : ((putRow l ++ M.data.toList).length : Int) - (M.data.toList.length : Int) = (P.size : Int) := by rw [hP, bs_size, List.length_append]; omega
  rw [this]
/-- All that is less is ErrEnd. -/
theorem q_get2 {l : List V} (hm : mayRow l = true) (hk : ∀ v ∈ l, v.ok) {P : ByteArray} (hP : P = bs (putRow l)) {N : Nat} (hN : N < P.size) {w : World} (hT : Hid (Tabs w)) :
    Hid (∀ W', Hid (Below w.heap.size w W') → Calls Tryd.prog 19 #[.string (P.extract 0 N)] W' (Got0 W' 6)) := Lib.hid fun W' hb => by
  have hlen := putRow_len hm
  have h := (q_getRow ((putRow l).take N) (by rw [List.length_take]; omega) hT).out W' hb
  rw [hP, bs_size] at hN
  rw [Cb5.row_cut hm hk N hN, ← bs_take, ← hP] at h
  exact h
theorem q_get3 {S : ByteArray} (hS : S.size ≤ 20000) {c : Int} (h : Cm.row S.data.toList = .bad c) {w : World} (hT : Hid (Tabs w)) :
    Hid (∀ W', Hid (Below w.heap.size w W') → Calls Tryd.prog 19 #[.string S] W' (Got0 W' c)) := Lib.hid fun W' hb => by
  have hSL : S.data.toList.length = S.size := Array.length_toList
  have h2 := (q_getRow S.data.toList (by omega) hT).out W' hb
  rw [h, bs_of] at h2
  exact h2
theorem q_get4 {S : ByteArray} (hS : S.size ≤ 20000) {m : List V} {r : List UInt8} (h : Cm.row S.data.toList = .ok m r) {n : Nat} (hn : n = (putRow m).length) {w : World} (hT : Hid (Tabs w)) :
    Hid (∀ W', Hid (Below w.heap.size w W') → Calls Tryd.prog 19 #[.string S] W' (Got1 W' m (n : Int))) := Lib.hid fun W' hb => by
  have hSL : S.data.toList.length = S.size := Array.length_toList
  have h2 := (q_getRow S.data.toList (by omega) hT).out W' hb
  have hb4 := (Cb5.row_back h).1
  rw [h, bs_of] at h2
  refine h2.mono fun e w' ⟨b, c, he, hr, hbw⟩ => ⟨b, c, ?_, hr, hbw⟩
  rw [he]
  have e5 : (S.data.toList.length : Int) - (r.length : Int) = (n : Int) := by rw [hb4, hn, List.length_append]; omega
  rw [e5]
set_option maxRecDepth 60000 in
set_option maxHeartbeats 4000000 in
theorem w_tok (A : Option Addr) (c : Nat) (l : List V) (M S : ByteArray) (x : Int) (W : World) (hl : RowAt W A c l) (hT : Tabs W) (hx : 0 ≤ x ∧ x ≤ 65535) (hs : ¬ 16384 < M.size + S.size) (h1 : mayRow l = true) (m : List V) (r : List UInt8) (h2 : Cm.row S.data.toList = .ok m r) : Calls Tryd.prog 5 #[.slice A l.length c, .string M, .string S, .int .u16 x] W fun e w' => e = .returned (.bool true) ∧ Below W.heap.size W w' := by
  have hMs : M.size ≤ 20000 := by omega
  have hSs : S.size ≤ 20000 := by omega
  have hz : decide ((16384 : Int) < (M.size : Int) + (S.size : Int)) = false := decide_eq_false (by omega)
  have hz' : ¬ ((16384 : Int) < (M.size : Int) + (S.size : Int)) := by omega
  obtain ⟨P, hP⟩ : ∃ P, P = bs (putRow l) := ⟨_, rfl⟩
  have HP := Lib.hid hP
  have hPS : putRowS l = putRow l := by unfold putRowS; rw [h1]; rfl
  have hp8 : P.size ≤ 817 := by rw [hP, bs_size]; exact putRow_len h1
  have hp0 : 0 < P.size := by rw [hP, bs_size]; exact List.length_pos_iff.2 (putRow_ne l)
  have hpe : P.toList.isEmpty = false := by
    rw [ByteArray.toList_eq, hP, bs_list]
    cases h : putRow l with
    | nil => exact absurd h (putRow_ne l)
    | cons a t => rfl
  have hsum : ¬ 9223372036854775807 < P.size + M.size := by omega
  obtain ⟨N, hNx⟩ : ∃ N : Nat, (N : Int) = x % (P.size : Int) := ⟨(x % (P.size : Int)).toNat, by have := Int.emod_nonneg x (show (P.size : Int) ≠ 0 by omega); omega⟩
  have hN : N < P.size := by have := Int.emod_lt_of_pos x (show (0 : Int) < (P.size : Int) by omega); omega
  have hx0 := hx.1
  have hxm : x % (P.size : Int) = (N : Int) := hNx.symm
  have hxt : x.tmod (P.size : Int) = (N : Int) := by rw [Int.tmod_eq_emod_of_nonneg hx.1]; exact hNx.symm
  have hxw : wrap64 x = x := by unfold wrap64; omega
  have hp1 : ¬ (P.size : Int) = 0 := by omega
  have hp2 : ¬ P.size = 0 := by omega
  have hn1 : (0 : Int) ≤ (N : Int) := by omega
  have hn2 : (N : Int) ≤ (P.size : Int) := by omega
  have hn3 : N ≤ P.size := by omega
  clear hP hNx hx
  obtain ⟨hback, hmm, hmk⟩ := Cb5.row_back h2
  have hQS : putRowS m = putRow m := by unfold putRowS; rw [hmm]; rfl
  obtain ⟨n, hn⟩ : ∃ n, n = (putRow m).length := ⟨_, rfl⟩
  have hSL : S.data.toList.length = S.size := Array.length_toList
  have hnS : n ≤ S.size := by rw [← hSL, hback, List.length_append]; omega
  have hn0 : 1 ≤ n := by have := List.length_pos_iff.2 (putRow_ne m); omega
  have hQ : S.extract 0 n = bs (putRow m) := by
    conv => lhs; rw [← bs_of S, bs_take, hback]
    rw [List.take_left' hn.symm]
  have g1 : ¬ (n : Int) < 1 := by omega
  have g2 : ¬ (S.size : Int) < (n : Int) := by omega
  have g3 : (n : Int) ≤ (S.size : Int) := by omega
  have g4 : (0 : Int) ≤ (n : Int) := by omega
  have g5 : ¬ n < 1 := by omega
  have g6 : ¬ S.size < n := by omega
  clear hback hSL
  have T0 := Lib.hid hT
  have R0 := Lib.hid (Row.of hl)
  have B0 := Lib.hid (Below.refl W.heap.size W)
  have FL := q_long R0 c
  have FA := q_alive T0
  have FC := q_copy hl (Below.refl _ _)
  have HL := Lib.hid hl
  clear hl hT
  go_enter Tryd.func5, Tryd.ntmps5
  go_wp2_with fail
  with_reducible refine (FL.out _ B0).mono ?_
  rintro e w1 ⟨r1, rfl, h1, rfl⟩
  clear h1
  cases r1
  · go_wp2_with fail
    with_reducible refine (FC.out _ B0).mono ?_
    rintro e w1 ⟨A2, c2, rfl, hrd2, hb⟩
    have B1 := Lib.hid hb
    have Q2 : Hid (Row w1 A2 l) := Lib.hid ⟨hrd2, HL.out.ok, HL.out.count⟩
    have T2 := Lib.hid (T0.out.keep hb)
    have FR := q_putRow Q2 c2 T2
    rw [hPS, h1] at FR
    rw [← HP.out] at FR
    replace FR : Hid (∀ W', Hid (Below w1.heap.size w1 W') → Calls Tryd.prog 11 #[.slice A2 l.length c2] W' fun e w' => e = .returned (.tuple #[.string P, .int .i64 0]) ∧ Below W'.heap.size W' w') := FR
    clear hrd2 hb FL
    go_wp2_with fail
    with_reducible refine (FR.out _ (Lib.hid (Below.refl _ _))).mono ?_
    rintro e w2 ⟨rfl, hb⟩
    have B2 := Lib.hid (B1.out.trans (hb.mono B1.out.size))
    clear hb FR
    have FG1 := q_get1 h1 HL.out.ok HP.out hMs T0
    have FG2 := q_get2 h1 HL.out.ok HP.out hN T0
    go_wp2_with fail
    with_reducible refine (FG1.out _ B2).mono ?_
    rintro e w3 ⟨b3, c3, rfl, hrd3, hb⟩
    have B3 := Lib.hid (B2.out.trans (hb.mono B2.out.size))
    have Q3 : Hid (Row w3 (some ⟨b3, 0, none⟩) l) := Lib.hid ⟨hrd3, HL.out.ok, HL.out.count⟩
    have R3 := Lib.hid (R0.out.keep B3.out)
    have FS := q_same Q3 R3 c3 c
    rw [Lq5.same_self] at FS
    clear hb hrd3
    go_wp2_with fail
    with_reducible refine (FS.out _ (Lib.hid (Below.refl _ _))).mono ?_
    rintro e w4 ⟨rfl, hb⟩
    have B4 := Lib.hid (B3.out.trans (hb.mono B3.out.size))
    clear hb
    go_wp2_with fail
    with_reducible refine (FG2.out _ B4).mono ?_
    rintro e w5 ⟨rfl, hb⟩
    have B5 := Lib.hid (B4.out.trans (hb.mono B4.out.size))
    clear hb
    have FG4 := q_get4 hSs h2 hn T0
    go_wp2_with fail
    with_reducible refine (FG4.out _ B5).mono ?_
    rintro e w7 ⟨b7, c7, rfl, hrd7, hb⟩
    have B7 := Lib.hid (B5.out.trans (hb.mono B5.out.size))
    have Q7 : Hid (Row w7 (some ⟨b7, 0, none⟩) m) := Lib.hid ⟨hrd7, hmk, by have := (row_is hmm).2.1; omega⟩
    have T7 := Lib.hid (T0.out.keep B7.out)
    have FQ := q_putRow Q7 c7 T7
    rw [hQS, hmm] at FQ
    rw [← hQ] at FQ
    replace FQ : Hid (∀ W', Hid (Below w7.heap.size w7 W') → Calls Tryd.prog 11 #[.slice (some ⟨b7, 0, none⟩) m.length c7] W' fun e w' => e = .returned (.tuple #[.string (S.extract 0 n), .int .i64 0]) ∧ Below W'.heap.size W' w') := FQ
    clear hb hrd7 hQ hQS hmm hmk
    go_wp2_with fail
    with_reducible refine (FQ.out _ (Lib.hid (Below.refl _ _))).mono ?_
    rintro e w8 ⟨rfl, hb⟩
    have B8 := Lib.hid (B7.out.trans (hb.mono B7.out.size))
    clear hb
    go_wp2_with fail
    with_reducible refine (FA.out _ B8).mono ?_
    rintro e w99 ⟨rfl, hb⟩
    have HB := Lib.hid hb
    clear hb
    go_wp2
    go_ret
    exact ⟨rfl, B8.out.trans (HB.out.mono B8.out.size)⟩
  · go_wp2_with fail
    with_reducible refine (FA.out _ B0).mono ?_
    rintro e w99 ⟨rfl, hb⟩
    have HB := Lib.hid hb
    clear hb
    go_wp2
    go_ret
    exact ⟨rfl, B0.out.trans (HB.out.mono B0.out.size)⟩
set_option maxRecDepth 60000 in
set_option maxHeartbeats 4000000 in
theorem w_t6 (A : Option Addr) (c : Nat) (l : List V) (M S : ByteArray) (x : Int) (W : World) (hl : RowAt W A c l) (hT : Tabs W) (hx : 0 ≤ x ∧ x ≤ 65535) (hs : ¬ 16384 < M.size + S.size) (h1 : mayRow l = true) (h2 : Cm.row S.data.toList = .bad 6) : Calls Tryd.prog 5 #[.slice A l.length c, .string M, .string S, .int .u16 x] W fun e w' => e = .returned (.bool true) ∧ Below W.heap.size W w' := by
  have hMs : M.size ≤ 20000 := by omega
  have hSs : S.size ≤ 20000 := by omega
  have hz : decide ((16384 : Int) < (M.size : Int) + (S.size : Int)) = false := decide_eq_false (by omega)
  have hz' : ¬ ((16384 : Int) < (M.size : Int) + (S.size : Int)) := by omega
  obtain ⟨P, hP⟩ : ∃ P, P = bs (putRow l) := ⟨_, rfl⟩
  have HP := Lib.hid hP
  have hPS : putRowS l = putRow l := by unfold putRowS; rw [h1]; rfl
  have hp8 : P.size ≤ 817 := by rw [hP, bs_size]; exact putRow_len h1
  have hp0 : 0 < P.size := by rw [hP, bs_size]; exact List.length_pos_iff.2 (putRow_ne l)
  have hpe : P.toList.isEmpty = false := by
    rw [ByteArray.toList_eq, hP, bs_list]
    cases h : putRow l with
    | nil => exact absurd h (putRow_ne l)
    | cons a t => rfl
  have hsum : ¬ 9223372036854775807 < P.size + M.size := by omega
  obtain ⟨N, hNx⟩ : ∃ N : Nat, (N : Int) = x % (P.size : Int) := ⟨(x % (P.size : Int)).toNat, by have := Int.emod_nonneg x (show (P.size : Int) ≠ 0 by omega); omega⟩
  have hN : N < P.size := by have := Int.emod_lt_of_pos x (show (0 : Int) < (P.size : Int) by omega); omega
  have hx0 := hx.1
  have hxm : x % (P.size : Int) = (N : Int) := hNx.symm
  have hxt : x.tmod (P.size : Int) = (N : Int) := by rw [Int.tmod_eq_emod_of_nonneg hx.1]; exact hNx.symm
  have hxw : wrap64 x = x := by unfold wrap64; omega
  have hp1 : ¬ (P.size : Int) = 0 := by omega
  have hp2 : ¬ P.size = 0 := by omega
  have hn1 : (0 : Int) ≤ (N : Int) := by omega
  have hn2 : (N : Int) ≤ (P.size : Int) := by omega
  have hn3 : N ≤ P.size := by omega
  clear hP hNx hx
  have T0 := Lib.hid hT
  have R0 := Lib.hid (Row.of hl)
  have B0 := Lib.hid (Below.refl W.heap.size W)
  have FL := q_long R0 c
  have FA := q_alive T0
  have FC := q_copy hl (Below.refl _ _)
  have HL := Lib.hid hl
  clear hl hT
  go_enter Tryd.func5, Tryd.ntmps5
  go_wp2_with fail
  with_reducible refine (FL.out _ B0).mono ?_
  rintro e w1 ⟨r1, rfl, h1, rfl⟩
  clear h1
  cases r1
  · go_wp2_with fail
    with_reducible refine (FC.out _ B0).mono ?_
    rintro e w1 ⟨A2, c2, rfl, hrd2, hb⟩
    have B1 := Lib.hid hb
    have Q2 : Hid (Row w1 A2 l) := Lib.hid ⟨hrd2, HL.out.ok, HL.out.count⟩
    have T2 := Lib.hid (T0.out.keep hb)
    have FR := q_putRow Q2 c2 T2
    rw [hPS, h1] at FR
    rw [← HP.out] at FR
    replace FR : Hid (∀ W', Hid (Below w1.heap.size w1 W') → Calls Tryd.prog 11 #[.slice A2 l.length c2] W' fun e w' => e = .returned (.tuple #[.string P, .int .i64 0]) ∧ Below W'.heap.size W' w') := FR
    clear hrd2 hb FL
    go_wp2_with fail
    with_reducible refine (FR.out _ (Lib.hid (Below.refl _ _))).mono ?_
    rintro e w2 ⟨rfl, hb⟩
    have B2 := Lib.hid (B1.out.trans (hb.mono B1.out.size))
    clear hb FR
    have FG1 := q_get1 h1 HL.out.ok HP.out hMs T0
    have FG2 := q_get2 h1 HL.out.ok HP.out hN T0
    go_wp2_with fail
    with_reducible refine (FG1.out _ B2).mono ?_
    rintro e w3 ⟨b3, c3, rfl, hrd3, hb⟩
    have B3 := Lib.hid (B2.out.trans (hb.mono B2.out.size))
    have Q3 : Hid (Row w3 (some ⟨b3, 0, none⟩) l) := Lib.hid ⟨hrd3, HL.out.ok, HL.out.count⟩
    have R3 := Lib.hid (R0.out.keep B3.out)
    have FS := q_same Q3 R3 c3 c
    rw [Lq5.same_self] at FS
    clear hb hrd3
    go_wp2_with fail
    with_reducible refine (FS.out _ (Lib.hid (Below.refl _ _))).mono ?_
    rintro e w4 ⟨rfl, hb⟩
    have B4 := Lib.hid (B3.out.trans (hb.mono B3.out.size))
    clear hb
    go_wp2_with fail
    with_reducible refine (FG2.out _ B4).mono ?_
    rintro e w5 ⟨rfl, hb⟩
    have B5 := Lib.hid (B4.out.trans (hb.mono B4.out.size))
    clear hb
    have FG3 := q_get3 hSs h2 T0
    go_wp2_with fail
    with_reducible refine (FG3.out _ B5).mono ?_
    rintro e w6 ⟨rfl, hb⟩
    have B6 := Lib.hid (B5.out.trans (hb.mono B5.out.size))
    clear hb
    go_wp2_with fail
    with_reducible refine (FA.out _ B6).mono ?_
    rintro e w99 ⟨rfl, hb⟩
    have HB := Lib.hid hb
    clear hb
    go_wp2
    go_ret
    exact ⟨rfl, B6.out.trans (HB.out.mono B6.out.size)⟩
  · go_wp2_with fail
    with_reducible refine (FA.out _ B0).mono ?_
    rintro e w99 ⟨rfl, hb⟩
    have HB := Lib.hid hb
    clear hb
    go_wp2
    go_ret
    exact ⟨rfl, B0.out.trans (HB.out.mono B0.out.size)⟩
set_option maxRecDepth 60000 in
set_option maxHeartbeats 4000000 in
theorem w_t7 (A : Option Addr) (c : Nat) (l : List V) (M S : ByteArray) (x : Int) (W : World) (hl : RowAt W A c l) (hT : Tabs W) (hx : 0 ≤ x ∧ x ≤ 65535) (hs : ¬ 16384 < M.size + S.size) (h1 : mayRow l = true) (h2 : Cm.row S.data.toList = .bad 7) : Calls Tryd.prog 5 #[.slice A l.length c, .string M, .string S, .int .u16 x] W fun e w' => e = .returned (.bool true) ∧ Below W.heap.size W w' := by
  have hMs : M.size ≤ 20000 := by omega
  have hSs : S.size ≤ 20000 := by omega
  have hz : decide ((16384 : Int) < (M.size : Int) + (S.size : Int)) = false := decide_eq_false (by omega)
  have hz' : ¬ ((16384 : Int) < (M.size : Int) + (S.size : Int)) := by omega
  obtain ⟨P, hP⟩ : ∃ P, P = bs (putRow l) := ⟨_, rfl⟩
  have HP := Lib.hid hP
  have hPS : putRowS l = putRow l := by unfold putRowS; rw [h1]; rfl
  have hp8 : P.size ≤ 817 := by rw [hP, bs_size]; exact putRow_len h1
  have hp0 : 0 < P.size := by rw [hP, bs_size]; exact List.length_pos_iff.2 (putRow_ne l)
  have hpe : P.toList.isEmpty = false := by
    rw [ByteArray.toList_eq, hP, bs_list]
    cases h : putRow l with
    | nil => exact absurd h (putRow_ne l)
    | cons a t => rfl
  have hsum : ¬ 9223372036854775807 < P.size + M.size := by omega
  obtain ⟨N, hNx⟩ : ∃ N : Nat, (N : Int) = x % (P.size : Int) := ⟨(x % (P.size : Int)).toNat, by have := Int.emod_nonneg x (show (P.size : Int) ≠ 0 by omega); omega⟩
  have hN : N < P.size := by have := Int.emod_lt_of_pos x (show (0 : Int) < (P.size : Int) by omega); omega
  have hx0 := hx.1
  have hxm : x % (P.size : Int) = (N : Int) := hNx.symm
  have hxt : x.tmod (P.size : Int) = (N : Int) := by rw [Int.tmod_eq_emod_of_nonneg hx.1]; exact hNx.symm
  have hxw : wrap64 x = x := by unfold wrap64; omega
  have hp1 : ¬ (P.size : Int) = 0 := by omega
  have hp2 : ¬ P.size = 0 := by omega
  have hn1 : (0 : Int) ≤ (N : Int) := by omega
  have hn2 : (N : Int) ≤ (P.size : Int) := by omega
  have hn3 : N ≤ P.size := by omega
  clear hP hNx hx
  have T0 := Lib.hid hT
  have R0 := Lib.hid (Row.of hl)
  have B0 := Lib.hid (Below.refl W.heap.size W)
  have FL := q_long R0 c
  have FA := q_alive T0
  have FC := q_copy hl (Below.refl _ _)
  have HL := Lib.hid hl
  clear hl hT
  go_enter Tryd.func5, Tryd.ntmps5
  go_wp2_with fail
  with_reducible refine (FL.out _ B0).mono ?_
  rintro e w1 ⟨r1, rfl, h1, rfl⟩
  clear h1
  cases r1
  · go_wp2_with fail
    with_reducible refine (FC.out _ B0).mono ?_
    rintro e w1 ⟨A2, c2, rfl, hrd2, hb⟩
    have B1 := Lib.hid hb
    have Q2 : Hid (Row w1 A2 l) := Lib.hid ⟨hrd2, HL.out.ok, HL.out.count⟩
    have T2 := Lib.hid (T0.out.keep hb)
    have FR := q_putRow Q2 c2 T2
    rw [hPS, h1] at FR
    rw [← HP.out] at FR
    replace FR : Hid (∀ W', Hid (Below w1.heap.size w1 W') → Calls Tryd.prog 11 #[.slice A2 l.length c2] W' fun e w' => e = .returned (.tuple #[.string P, .int .i64 0]) ∧ Below W'.heap.size W' w') := FR
    clear hrd2 hb FL
    go_wp2_with fail
    with_reducible refine (FR.out _ (Lib.hid (Below.refl _ _))).mono ?_
    rintro e w2 ⟨rfl, hb⟩
    have B2 := Lib.hid (B1.out.trans (hb.mono B1.out.size))
    clear hb FR
    have FG1 := q_get1 h1 HL.out.ok HP.out hMs T0
    have FG2 := q_get2 h1 HL.out.ok HP.out hN T0
    go_wp2_with fail
    with_reducible refine (FG1.out _ B2).mono ?_
    rintro e w3 ⟨b3, c3, rfl, hrd3, hb⟩
    have B3 := Lib.hid (B2.out.trans (hb.mono B2.out.size))
    have Q3 : Hid (Row w3 (some ⟨b3, 0, none⟩) l) := Lib.hid ⟨hrd3, HL.out.ok, HL.out.count⟩
    have R3 := Lib.hid (R0.out.keep B3.out)
    have FS := q_same Q3 R3 c3 c
    rw [Lq5.same_self] at FS
    clear hb hrd3
    go_wp2_with fail
    with_reducible refine (FS.out _ (Lib.hid (Below.refl _ _))).mono ?_
    rintro e w4 ⟨rfl, hb⟩
    have B4 := Lib.hid (B3.out.trans (hb.mono B3.out.size))
    clear hb
    go_wp2_with fail
    with_reducible refine (FG2.out _ B4).mono ?_
    rintro e w5 ⟨rfl, hb⟩
    have B5 := Lib.hid (B4.out.trans (hb.mono B4.out.size))
    clear hb
    have FG3 := q_get3 hSs h2 T0
    go_wp2_with fail
    with_reducible refine (FG3.out _ B5).mono ?_
    rintro e w6 ⟨rfl, hb⟩
    have B6 := Lib.hid (B5.out.trans (hb.mono B5.out.size))
    clear hb
    go_wp2_with fail
    with_reducible refine (FA.out _ B6).mono ?_
    rintro e w99 ⟨rfl, hb⟩
    have HB := Lib.hid hb
    clear hb
    go_wp2
    go_ret
    exact ⟨rfl, B6.out.trans (HB.out.mono B6.out.size)⟩
  · go_wp2_with fail
    with_reducible refine (FA.out _ B0).mono ?_
    rintro e w99 ⟨rfl, hb⟩
    have HB := Lib.hid hb
    clear hb
    go_wp2
    go_ret
    exact ⟨rfl, B0.out.trans (HB.out.mono B0.out.size)⟩
set_option maxRecDepth 60000 in
set_option maxHeartbeats 4000000 in
theorem w_fok (A : Option Addr) (c : Nat) (l : List V) (M S : ByteArray) (x : Int) (W : World) (hl : RowAt W A c l) (hT : Tabs W) (hs : ¬ 16384 < M.size + S.size) (h1 : mayRow l = false) (m : List V) (r : List UInt8) (h2 : Cm.row S.data.toList = .ok m r) : Calls Tryd.prog 5 #[.slice A l.length c, .string M, .string S, .int .u16 x] W fun e w' => e = .returned (.bool true) ∧ Below W.heap.size W w' := by
  have hMs : M.size ≤ 20000 := by omega
  have hSs : S.size ≤ 20000 := by omega
  have hz : decide ((16384 : Int) < (M.size : Int) + (S.size : Int)) = false := decide_eq_false (by omega)
  have hz' : ¬ ((16384 : Int) < (M.size : Int) + (S.size : Int)) := by omega
  have hPS : putRowS l = [] := by unfold putRowS; rw [h1]; rfl
  obtain ⟨hback, hmm, hmk⟩ := Cb5.row_back h2
  have hQS : putRowS m = putRow m := by unfold putRowS; rw [hmm]; rfl
  obtain ⟨n, hn⟩ : ∃ n, n = (putRow m).length := ⟨_, rfl⟩
  have hSL : S.data.toList.length = S.size := Array.length_toList
  have hnS : n ≤ S.size := by rw [← hSL, hback, List.length_append]; omega
  have hn0 : 1 ≤ n := by have := List.length_pos_iff.2 (putRow_ne m); omega
  have hQ : S.extract 0 n = bs (putRow m) := by
    conv => lhs; rw [← bs_of S, bs_take, hback]
    rw [List.take_left' hn.symm]
  have g1 : ¬ (n : Int) < 1 := by omega
  have g2 : ¬ (S.size : Int) < (n : Int) := by omega
  have g3 : (n : Int) ≤ (S.size : Int) := by omega
  have g4 : (0 : Int) ≤ (n : Int) := by omega
  have g5 : ¬ n < 1 := by omega
  have g6 : ¬ S.size < n := by omega
  clear hback hSL
  have T0 := Lib.hid hT
  have R0 := Lib.hid (Row.of hl)
  have B0 := Lib.hid (Below.refl W.heap.size W)
  have FL := q_long R0 c
  have FA := q_alive T0
  have FC := q_copy hl (Below.refl _ _)
  have HL := Lib.hid hl
  clear hl hT
  go_enter Tryd.func5, Tryd.ntmps5
  go_wp2_with fail
  with_reducible refine (FL.out _ B0).mono ?_
  rintro e w1 ⟨r1, rfl, h1, rfl⟩
  clear h1
  cases r1
  · go_wp2_with fail
    with_reducible refine (FC.out _ B0).mono ?_
    rintro e w1 ⟨A2, c2, rfl, hrd2, hb⟩
    have B1 := Lib.hid hb
    have Q2 : Hid (Row w1 A2 l) := Lib.hid ⟨hrd2, HL.out.ok, HL.out.count⟩
    have T2 := Lib.hid (T0.out.keep hb)
    have FR := q_putRow Q2 c2 T2
    rw [hPS, h1] at FR
    replace FR : Hid (∀ W', Hid (Below w1.heap.size w1 W') → Calls Tryd.prog 11 #[.slice A2 l.length c2] W' fun e w' => e = .returned (.tuple #[.string ⟨#[]⟩, .int .i64 2]) ∧ Below W'.heap.size W' w') := FR
    clear hrd2 hb FL
    go_wp2_with fail
    with_reducible refine (FR.out _ (Lib.hid (Below.refl _ _))).mono ?_
    rintro e w2 ⟨rfl, hb⟩
    have B2 := Lib.hid (B1.out.trans (hb.mono B1.out.size))
    clear hb FR
    have FG4 := q_get4 hSs h2 hn T0
    go_wp2_with fail
    with_reducible refine (FG4.out _ B2).mono ?_
    rintro e w7 ⟨b7, c7, rfl, hrd7, hb⟩
    have B7 := Lib.hid (B2.out.trans (hb.mono B2.out.size))
    have Q7 : Hid (Row w7 (some ⟨b7, 0, none⟩) m) := Lib.hid ⟨hrd7, hmk, by have := (row_is hmm).2.1; omega⟩
    have T7 := Lib.hid (T0.out.keep B7.out)
    have FQ := q_putRow Q7 c7 T7
    rw [hQS, hmm] at FQ
    rw [← hQ] at FQ
    replace FQ : Hid (∀ W', Hid (Below w7.heap.size w7 W') → Calls Tryd.prog 11 #[.slice (some ⟨b7, 0, none⟩) m.length c7] W' fun e w' => e = .returned (.tuple #[.string (S.extract 0 n), .int .i64 0]) ∧ Below W'.heap.size W' w') := FQ
    clear hb hrd7 hQ hQS hmm hmk
    go_wp2_with fail
    with_reducible refine (FQ.out _ (Lib.hid (Below.refl _ _))).mono ?_
    rintro e w8 ⟨rfl, hb⟩
    have B8 := Lib.hid (B7.out.trans (hb.mono B7.out.size))
    clear hb
    go_wp2_with fail
    with_reducible refine (FA.out _ B8).mono ?_
    rintro e w99 ⟨rfl, hb⟩
    have HB := Lib.hid hb
    clear hb
    go_wp2
    go_ret
    exact ⟨rfl, B8.out.trans (HB.out.mono B8.out.size)⟩
  · go_wp2_with fail
    with_reducible refine (FA.out _ B0).mono ?_
    rintro e w99 ⟨rfl, hb⟩
    have HB := Lib.hid hb
    clear hb
    go_wp2
    go_ret
    exact ⟨rfl, B0.out.trans (HB.out.mono B0.out.size)⟩
set_option maxRecDepth 60000 in
set_option maxHeartbeats 4000000 in
theorem w_f6 (A : Option Addr) (c : Nat) (l : List V) (M S : ByteArray) (x : Int) (W : World) (hl : RowAt W A c l) (hT : Tabs W) (hs : ¬ 16384 < M.size + S.size) (h1 : mayRow l = false) (h2 : Cm.row S.data.toList = .bad 6) : Calls Tryd.prog 5 #[.slice A l.length c, .string M, .string S, .int .u16 x] W fun e w' => e = .returned (.bool true) ∧ Below W.heap.size W w' := by
  have hMs : M.size ≤ 20000 := by omega
  have hSs : S.size ≤ 20000 := by omega
  have hz : decide ((16384 : Int) < (M.size : Int) + (S.size : Int)) = false := decide_eq_false (by omega)
  have hz' : ¬ ((16384 : Int) < (M.size : Int) + (S.size : Int)) := by omega
  have hPS : putRowS l = [] := by unfold putRowS; rw [h1]; rfl
  have T0 := Lib.hid hT
  have R0 := Lib.hid (Row.of hl)
  have B0 := Lib.hid (Below.refl W.heap.size W)
  have FL := q_long R0 c
  have FA := q_alive T0
  have FC := q_copy hl (Below.refl _ _)
  have HL := Lib.hid hl
  clear hl hT
  go_enter Tryd.func5, Tryd.ntmps5
  go_wp2_with fail
  with_reducible refine (FL.out _ B0).mono ?_
  rintro e w1 ⟨r1, rfl, h1, rfl⟩
  clear h1
  cases r1
  · go_wp2_with fail
    with_reducible refine (FC.out _ B0).mono ?_
    rintro e w1 ⟨A2, c2, rfl, hrd2, hb⟩
    have B1 := Lib.hid hb
    have Q2 : Hid (Row w1 A2 l) := Lib.hid ⟨hrd2, HL.out.ok, HL.out.count⟩
    have T2 := Lib.hid (T0.out.keep hb)
    have FR := q_putRow Q2 c2 T2
    rw [hPS, h1] at FR
    replace FR : Hid (∀ W', Hid (Below w1.heap.size w1 W') → Calls Tryd.prog 11 #[.slice A2 l.length c2] W' fun e w' => e = .returned (.tuple #[.string ⟨#[]⟩, .int .i64 2]) ∧ Below W'.heap.size W' w') := FR
    clear hrd2 hb FL
    go_wp2_with fail
    with_reducible refine (FR.out _ (Lib.hid (Below.refl _ _))).mono ?_
    rintro e w2 ⟨rfl, hb⟩
    have B2 := Lib.hid (B1.out.trans (hb.mono B1.out.size))
    clear hb FR
    have FG3 := q_get3 hSs h2 T0
    go_wp2_with fail
    with_reducible refine (FG3.out _ B2).mono ?_
    rintro e w3 ⟨rfl, hb⟩
    have B3 := Lib.hid (B2.out.trans (hb.mono B2.out.size))
    clear hb
    go_wp2_with fail
    with_reducible refine (FA.out _ B3).mono ?_
    rintro e w99 ⟨rfl, hb⟩
    have HB := Lib.hid hb
    clear hb
    go_wp2
    go_ret
    exact ⟨rfl, B3.out.trans (HB.out.mono B3.out.size)⟩
  · go_wp2_with fail
    with_reducible refine (FA.out _ B0).mono ?_
    rintro e w99 ⟨rfl, hb⟩
    have HB := Lib.hid hb
    clear hb
    go_wp2
    go_ret
    exact ⟨rfl, B0.out.trans (HB.out.mono B0.out.size)⟩
set_option maxRecDepth 60000 in
set_option maxHeartbeats 4000000 in
theorem w_f7 (A : Option Addr) (c : Nat) (l : List V) (M S : ByteArray) (x : Int) (W : World) (hl : RowAt W A c l) (hT : Tabs W) (hs : ¬ 16384 < M.size + S.size) (h1 : mayRow l = false) (h2 : Cm.row S.data.toList = .bad 7) : Calls Tryd.prog 5 #[.slice A l.length c, .string M, .string S, .int .u16 x] W fun e w' => e = .returned (.bool true) ∧ Below W.heap.size W w' := by
  have hMs : M.size ≤ 20000 := by omega
  have hSs : S.size ≤ 20000 := by omega
  have hz : decide ((16384 : Int) < (M.size : Int) + (S.size : Int)) = false := decide_eq_false (by omega)
  have hz' : ¬ ((16384 : Int) < (M.size : Int) + (S.size : Int)) := by omega
  have hPS : putRowS l = [] := by unfold putRowS; rw [h1]; rfl
  have T0 := Lib.hid hT
  have R0 := Lib.hid (Row.of hl)
  have B0 := Lib.hid (Below.refl W.heap.size W)
  have FL := q_long R0 c
  have FA := q_alive T0
  have FC := q_copy hl (Below.refl _ _)
  have HL := Lib.hid hl
  clear hl hT
  go_enter Tryd.func5, Tryd.ntmps5
  go_wp2_with fail
  with_reducible refine (FL.out _ B0).mono ?_
  rintro e w1 ⟨r1, rfl, h1, rfl⟩
  clear h1
  cases r1
  · go_wp2_with fail
    with_reducible refine (FC.out _ B0).mono ?_
    rintro e w1 ⟨A2, c2, rfl, hrd2, hb⟩
    have B1 := Lib.hid hb
    have Q2 : Hid (Row w1 A2 l) := Lib.hid ⟨hrd2, HL.out.ok, HL.out.count⟩
    have T2 := Lib.hid (T0.out.keep hb)
    have FR := q_putRow Q2 c2 T2
    rw [hPS, h1] at FR
    replace FR : Hid (∀ W', Hid (Below w1.heap.size w1 W') → Calls Tryd.prog 11 #[.slice A2 l.length c2] W' fun e w' => e = .returned (.tuple #[.string ⟨#[]⟩, .int .i64 2]) ∧ Below W'.heap.size W' w') := FR
    clear hrd2 hb FL
    go_wp2_with fail
    with_reducible refine (FR.out _ (Lib.hid (Below.refl _ _))).mono ?_
    rintro e w2 ⟨rfl, hb⟩
    have B2 := Lib.hid (B1.out.trans (hb.mono B1.out.size))
    clear hb FR
    have FG3 := q_get3 hSs h2 T0
    go_wp2_with fail
    with_reducible refine (FG3.out _ B2).mono ?_
    rintro e w3 ⟨rfl, hb⟩
    have B3 := Lib.hid (B2.out.trans (hb.mono B2.out.size))
    clear hb
    go_wp2_with fail
    with_reducible refine (FA.out _ B3).mono ?_
    rintro e w99 ⟨rfl, hb⟩
    have HB := Lib.hid hb
    clear hb
    go_wp2
    go_ret
    exact ⟨rfl, B3.out.trans (HB.out.mono B3.out.size)⟩
  · go_wp2_with fail
    with_reducible refine (FA.out _ B0).mono ?_
    rintro e w99 ⟨rfl, hb⟩
    have HB := Lib.hid hb
    clear hb
    go_wp2
    go_ret
    exact ⟨rfl, B0.out.trans (HB.out.mono B0.out.size)⟩
set_option maxRecDepth 60000 in
theorem w_big (A : Option Addr) (c : Nat) (l : List V) (M S : ByteArray) (x : Int) (W : World) (hl : RowAt W A c l) (hT : Tabs W) (hs : 16384 < M.size + S.size) (hM : M.size ≤ 140737488351232) (hS : S.size ≤ 140737488351232) : Calls Tryd.prog 5 #[.slice A l.length c, .string M, .string S, .int .u16 x] W fun e w' => e = .returned (.bool true) ∧ Below W.heap.size W w' := by
  have hz : decide ((16384 : Int) < (M.size : Int) + (S.size : Int)) = true := decide_eq_true (by omega)
  have hz' : (16384 : Int) < (M.size : Int) + (S.size : Int) := by omega
  have T0 := Lib.hid hT
  have R0 := Lib.hid (Row.of hl)
  have B0 := Lib.hid (Below.refl W.heap.size W)
  have FL := q_long R0 c
  have FA := q_alive T0
  have FC := q_copy hl (Below.refl _ _)
  have HL := Lib.hid hl
  clear hl hT
  go_enter Tryd.func5, Tryd.ntmps5
  go_wp2_with fail
  with_reducible refine (FL.out _ B0).mono ?_
  rintro e w1 ⟨r1, rfl, h1, rfl⟩
  clear h1
  cases r1
  · go_wp2_with fail
    with_reducible refine (FA.out _ B0).mono ?_
    rintro e w99 ⟨rfl, hb⟩
    have HB := Lib.hid hb
    clear hb
    go_wp2
    go_ret
    exact ⟨rfl, B0.out.trans (HB.out.mono B0.out.size)⟩
  · go_wp2_with fail
    with_reducible refine (FA.out _ B0).mono ?_
    rintro e w99 ⟨rfl, hb⟩
    have HB := Lib.hid hb
    clear hb
    go_wp2
    go_ret
    exact ⟨rfl, B0.out.trans (HB.out.mono B0.out.size)⟩
theorem walk (A : Option Addr) (c : Nat) (l : List V) (M S : ByteArray) (x : Int) (W : World) (hl : RowAt W A c l) (hx : 0 ≤ x ∧ x ≤ 65535) (hM : M.size ≤ 140737488351232) (hS : S.size ≤ 140737488351232) (hT : Tabs W) :
    Calls Tryd.prog 5 #[.slice A l.length c, .string M, .string S, .int .u16 x] W fun e w' => e = .returned (.bool true) ∧ Below W.heap.size W w' := by
  by_cases hs : 16384 < M.size + S.size
  · exact w_big A c l M S x W hl hT hs hM hS
  cases h1 : mayRow l
  · cases h2 : Cm.row S.data.toList with
    | ok m r => exact w_fok A c l M S x W hl hT hs h1 m r h2
    | bad d =>
      rcases Cb5.row_bad h2 with rfl | rfl
      · exact w_f6 A c l M S x W hl hT hs h1 h2
      · exact w_f7 A c l M S x W hl hT hs h1 h2
  · cases h2 : Cm.row S.data.toList with
    | ok m r => exact w_tok A c l M S x W hl hT hx hs h1 m r h2
    | bad d =>
      rcases Cb5.row_bad h2 with rfl | rfl
      · exact w_t6 A c l M S x W hl hT hx hs h1 h2
      · exact w_t7 A c l M S x W hl hT hx hs h1 h2
end Go.Proofs.YthoiolihkomgmaaDoor.Wb5
