/- KeyBack: which way a row and a text go (written by genback6.py). -/
import Derived.Test.YtbkaphcipbhmhaaDoorLq6
namespace Go.Proofs.YtbkaphcipbhmhaaDoor.Wb6
open Go Go.RowKit Go.Proofs Go.Proofs.YtbkaphcipbhmhaaDoor.Wm Go.Proofs.YtbkaphcipbhmhaaDoor.Vm Go.Proofs.YtbkaphcipbhmhaaDoor.Vr Go.Proofs.YtbkaphcipbhmhaaDoor.Vs Go.Proofs.YtbkaphcipbhmhaaDoor.Vc Go.Proofs.YtbkaphcipbhmhaaDoor.Vf Go.Proofs.YtbkaphcipbhmhaaDoor.Vh Go.Proofs.YtbkaphcipbhmhaaDoor.Vz Go.Proofs.YtbkaphcipbhmhaaDoor.Cm Go.Proofs.YtbkaphcipbhmhaaDoor.Kl6 Go.Proofs.YtbkaphcipbhmhaaDoor.Km6 Go.Proofs.YtbkaphcipbhmhaaDoor.Kp6 Go.Proofs.YtbkaphcipbhmhaaDoor.Kh6 Go.Proofs.YtbkaphcipbhmhaaDoor.Lq6
set_option maxRecDepth 40000 in
theorem w_text (A : Option Addr) (c : Nat) (l : List V) (S : ByteArray) (W : World) (hl : RowAt W A c l) (hT : Tabs W) (hs : 16384 < S.size) : Calls Tryd.prog 5 #[.slice A l.length c, .string S] W fun e w' => e = .returned (.bool true) ∧ Below W.heap.size W w' := by
  have hz : decide ((16384 : Int) < (S.size : Int)) = true := decide_eq_true (by omega)
  have T0 := Lib.hid hT
  have R0 := Lib.hid (Lst.of hl)
  have B0 := Lib.hid (Below.refl W.heap.size W)
  have FL := q_long R0 c
  have FA := q_alive T0
  have FC := q_copy hl (Below.refl _ _)
  have HL := Lib.hid hl
  clear hl hT
  clear FC
  go_enter Tryd.func5, Tryd.ntmps5
  go_wp2_with fail
  with_reducible refine (FL.out _ B0).mono ?_
  rintro e w1 ⟨rr, rfl, hlong, rfl⟩
  clear hlong
  cases rr
  · skip
    go_wp2_with fail
    with_reducible refine (FA.out _ B0).mono ?_
    rintro e w9 ⟨rfl, hb⟩
    have HB := Lib.hid hb
    clear hb
    go_wp2
    go_ret
    exact ⟨rfl, HB.out⟩
  · skip
    go_wp2_with fail
    with_reducible refine (FA.out _ B0).mono ?_
    rintro e w9 ⟨rfl, hb⟩
    have HB := Lib.hid hb
    clear hb
    go_wp2
    go_ret
    exact ⟨rfl, HB.out⟩
set_option maxRecDepth 40000 in
set_option maxHeartbeats 2000000 in
theorem w_tt (m : List V) (A : Option Addr) (c : Nat) (l : List V) (S : ByteArray) (W : World) (hl : RowAt W A c l) (hT : Tabs W) (hs : ¬ 16384 < S.size) (hr : mayK l = true) (hg : kget S.data.toList = some m) : Calls Tryd.prog 5 #[.slice A l.length c, .string S] W fun e w' => e = .returned (.bool true) ∧ Below W.heap.size W w' := by
  have hz : decide ((16384 : Int) < (S.size : Int)) = false := decide_eq_false (by omega)
  have hz' : ¬ ((16384 : Int) < (S.size : Int)) := by omega
  obtain ⟨P, hP⟩ : ∃ P, P = bs (kputAll l) := ⟨_, rfl⟩
  have HPS : Hid (bs (kputS l) = P) := Lib.hid (by unfold kputS; rw [hr]; exact hP.symm)
  have FG1 : Hid (∀ w : World, Hid (Tabs w) → Hid (∀ W', Hid (Below w.heap.size w W') → Calls Tryd.prog 14 #[.string P] W' (GotK W' (some l)))) := Lib.hid fun w hT => by
    have := q_get (kputAll l) (by have := kput_max hr; omega) hT
    rw [kget_kput hr hl.ok] at this
    rw [hP]; exact this
  clear hP
  have FG2 : Hid (∀ w : World, Hid (Tabs w) → Hid (∀ W', Hid (Below w.heap.size w W') → Calls Tryd.prog 14 #[.string S] W' (GotK W' (some m)))) := Lib.hid fun w hT => by
    have := q_get S.data.toList (by rw [Array.length_toList]; have : S.data.size = S.size := rfl; omega) hT
    rw [hg, bs_of] at this
    exact this
  have HM := Lib.hid (kget_is hg)
  have HMS : Hid (bs (kputS m) = S) := Lib.hid (by unfold kputS; rw [HM.out.2.1, if_pos rfl, ← HM.out.1]; exact bs_of S)
  have hMl : m.length ≤ 8 := (mayK_is HM.out.2.1).1
  have HR := Lib.hid hr
  clear hr hg
  have T0 := Lib.hid hT
  have R0 := Lib.hid (Lst.of hl)
  have B0 := Lib.hid (Below.refl W.heap.size W)
  have FL := q_long R0 c
  have FA := q_alive T0
  have FC := q_copy hl (Below.refl _ _)
  have HL := Lib.hid hl
  clear hl hT
  go_enter Tryd.func5, Tryd.ntmps5
  go_wp2_with fail
  with_reducible refine (FL.out _ B0).mono ?_
  rintro e w1 ⟨rr, rfl, hlong, rfl⟩
  clear hlong
  cases rr
  · skip
    go_wp2_with fail
    with_reducible refine (FC.out _ B0).mono ?_
    rintro e w2 ⟨A2, c2, rfl, hrd2, hb2⟩
    have T2 := Lib.hid (T0.out.keep hb2)
    have R2 := Lib.hid (R0.out.keep hb2)
    have Q2 : Hid (Lst w2 A2 l) := Lib.hid ⟨hrd2, HL.out.ok, HL.out.count⟩
    have HW2 := Lib.hid hb2
    have FP := q_put Q2 c2 T2
    rw [HPS.out, HR.out] at FP
    replace FP : Hid (∀ W', Hid (Below w2.heap.size w2 W') → Calls Tryd.prog 10 #[.slice A2 l.length c2] W' fun e w' => e = .returned (.tuple #[.string P, .int .i64 0]) ∧ Below W'.heap.size W' w') := FP
    have B2 := Lib.hid (Below.refl w2.heap.size w2)
    clear hrd2 hb2 T0 R0 FL FA FC
    go_wp2_with fail
    with_reducible refine (FP.out _ B2).mono ?_
    rintro e w3 ⟨rfl, hb⟩
    have B3 := Lib.hid (B2.out.trans (hb.mono B2.out.size))
    clear hb
    have FG := FG1.out w2 T2
    go_wp2_with fail
    with_reducible refine (FG.out _ B3).mono ?_
    rintro e w4 ⟨A4, c4, rfl, hrd4, hb4⟩
    have HW4 := Lib.hid (HW2.out.trans ((B3.out.trans (hb4.mono B3.out.size)).mono HW2.out.size))
    have hb24 := B3.out.trans (hb4.mono B3.out.size)
    have T4 := Lib.hid (T2.out.keep hb24)
    have R4 := Lib.hid (R2.out.keep hb24)
    have Q4 : Hid (Lst w4 A4 l) := Lib.hid ⟨hrd4, HL.out.ok, HL.out.count⟩
    have B4 := Lib.hid (Below.refl w4.heap.size w4)
    have FS := q_same Q4 R4 c4 c
    rw [Vm.same_self] at FS
    clear hrd4 hb4 hb24 FG
    go_wp2_with fail
    with_reducible refine (FS.out _ B4).mono ?_
    rintro e w5 ⟨rfl, hb⟩
    have B5 := Lib.hid (B4.out.trans (hb.mono B4.out.size))
    clear hb
    have FH := FG2.out w4 T4
    go_wp2_with fail
    with_reducible refine (FH.out _ B5).mono ?_
    rintro e w6 ⟨A6, c6, rfl, hrd6, hb6⟩
    have hb6' := B5.out.trans (hb6.mono B5.out.size)
    have HW6 := Lib.hid (HW4.out.trans (hb6'.mono HW4.out.size))
    have T6 := Lib.hid (T4.out.keep hb6')
    have Q6 : Hid (Lst w6 A6 m) := Lib.hid ⟨hrd6, HM.out.2.2, by omega⟩
    have B6 := Lib.hid (Below.refl w6.heap.size w6)
    have FQ := q_put Q6 c6 T6
    rw [HMS.out, HM.out.2.1] at FQ
    replace FQ : Hid (∀ W', Hid (Below w6.heap.size w6 W') → Calls Tryd.prog 10 #[.slice A6 m.length c6] W' fun e w' => e = .returned (.tuple #[.string S, .int .i64 0]) ∧ Below W'.heap.size W' w') := FQ
    have FA6 := q_alive T6
    clear hrd6 hb6 hb6'
    go_wp2_with fail
    with_reducible refine (FQ.out _ B6).mono ?_
    rintro e w7 ⟨rfl, hb⟩
    have B7 := Lib.hid (B6.out.trans (hb.mono B6.out.size))
    clear hb
    go_wp2_with fail
    with_reducible refine (FA6.out _ B7).mono ?_
    rintro e w9 ⟨rfl, hb⟩
    have HB := Lib.hid hb
    clear hb
    go_wp2
    go_ret
    exact ⟨rfl, HW6.out.trans ((B7.out.trans (HB.out.mono B7.out.size)).mono HW6.out.size)⟩
  · skip
    go_wp2_with fail
    with_reducible refine (FA.out _ B0).mono ?_
    rintro e w9 ⟨rfl, hb⟩
    have HB := Lib.hid hb
    clear hb
    go_wp2
    go_ret
    exact ⟨rfl, HB.out⟩
set_option maxRecDepth 40000 in
set_option maxHeartbeats 2000000 in
theorem w_tf (A : Option Addr) (c : Nat) (l : List V) (S : ByteArray) (W : World) (hl : RowAt W A c l) (hT : Tabs W) (hs : ¬ 16384 < S.size) (hr : mayK l = true) (hg : kget S.data.toList = none) : Calls Tryd.prog 5 #[.slice A l.length c, .string S] W fun e w' => e = .returned (.bool true) ∧ Below W.heap.size W w' := by
  have hz : decide ((16384 : Int) < (S.size : Int)) = false := decide_eq_false (by omega)
  have hz' : ¬ ((16384 : Int) < (S.size : Int)) := by omega
  obtain ⟨P, hP⟩ : ∃ P, P = bs (kputAll l) := ⟨_, rfl⟩
  have HPS : Hid (bs (kputS l) = P) := Lib.hid (by unfold kputS; rw [hr]; exact hP.symm)
  have FG1 : Hid (∀ w : World, Hid (Tabs w) → Hid (∀ W', Hid (Below w.heap.size w W') → Calls Tryd.prog 14 #[.string P] W' (GotK W' (some l)))) := Lib.hid fun w hT => by
    have := q_get (kputAll l) (by have := kput_max hr; omega) hT
    rw [kget_kput hr hl.ok] at this
    rw [hP]; exact this
  clear hP
  have FG2 : Hid (∀ w : World, Hid (Tabs w) → Hid (∀ W', Hid (Below w.heap.size w W') → Calls Tryd.prog 14 #[.string S] W' (GotK W' (none)))) := Lib.hid fun w hT => by
    have := q_get S.data.toList (by rw [Array.length_toList]; have : S.data.size = S.size := rfl; omega) hT
    rw [hg, bs_of] at this
    exact this
  have HR := Lib.hid hr
  clear hr hg
  have T0 := Lib.hid hT
  have R0 := Lib.hid (Lst.of hl)
  have B0 := Lib.hid (Below.refl W.heap.size W)
  have FL := q_long R0 c
  have FA := q_alive T0
  have FC := q_copy hl (Below.refl _ _)
  have HL := Lib.hid hl
  clear hl hT
  go_enter Tryd.func5, Tryd.ntmps5
  go_wp2_with fail
  with_reducible refine (FL.out _ B0).mono ?_
  rintro e w1 ⟨rr, rfl, hlong, rfl⟩
  clear hlong
  cases rr
  · skip
    go_wp2_with fail
    with_reducible refine (FC.out _ B0).mono ?_
    rintro e w2 ⟨A2, c2, rfl, hrd2, hb2⟩
    have T2 := Lib.hid (T0.out.keep hb2)
    have R2 := Lib.hid (R0.out.keep hb2)
    have Q2 : Hid (Lst w2 A2 l) := Lib.hid ⟨hrd2, HL.out.ok, HL.out.count⟩
    have HW2 := Lib.hid hb2
    have FP := q_put Q2 c2 T2
    rw [HPS.out, HR.out] at FP
    replace FP : Hid (∀ W', Hid (Below w2.heap.size w2 W') → Calls Tryd.prog 10 #[.slice A2 l.length c2] W' fun e w' => e = .returned (.tuple #[.string P, .int .i64 0]) ∧ Below W'.heap.size W' w') := FP
    have B2 := Lib.hid (Below.refl w2.heap.size w2)
    clear hrd2 hb2 T0 R0 FL FA FC
    go_wp2_with fail
    with_reducible refine (FP.out _ B2).mono ?_
    rintro e w3 ⟨rfl, hb⟩
    have B3 := Lib.hid (B2.out.trans (hb.mono B2.out.size))
    clear hb
    have FG := FG1.out w2 T2
    go_wp2_with fail
    with_reducible refine (FG.out _ B3).mono ?_
    rintro e w4 ⟨A4, c4, rfl, hrd4, hb4⟩
    have HW4 := Lib.hid (HW2.out.trans ((B3.out.trans (hb4.mono B3.out.size)).mono HW2.out.size))
    have hb24 := B3.out.trans (hb4.mono B3.out.size)
    have T4 := Lib.hid (T2.out.keep hb24)
    have R4 := Lib.hid (R2.out.keep hb24)
    have Q4 : Hid (Lst w4 A4 l) := Lib.hid ⟨hrd4, HL.out.ok, HL.out.count⟩
    have B4 := Lib.hid (Below.refl w4.heap.size w4)
    have FS := q_same Q4 R4 c4 c
    rw [Vm.same_self] at FS
    clear hrd4 hb4 hb24 FG
    go_wp2_with fail
    with_reducible refine (FS.out _ B4).mono ?_
    rintro e w5 ⟨rfl, hb⟩
    have B5 := Lib.hid (B4.out.trans (hb.mono B4.out.size))
    clear hb
    have FH := FG2.out w4 T4
    have FA6 := q_alive T4
    go_wp2_with fail
    with_reducible refine (FH.out _ B5).mono ?_
    rintro e w6 ⟨rfl, hb⟩
    have B6 := Lib.hid (B5.out.trans (hb.mono B5.out.size))
    clear hb
    go_wp2_with fail
    with_reducible refine (FA6.out _ B6).mono ?_
    rintro e w9 ⟨rfl, hb⟩
    have HB := Lib.hid hb
    clear hb
    go_wp2
    go_ret
    exact ⟨rfl, HW4.out.trans ((B6.out.trans (HB.out.mono B6.out.size)).mono HW4.out.size)⟩
  · skip
    go_wp2_with fail
    with_reducible refine (FA.out _ B0).mono ?_
    rintro e w9 ⟨rfl, hb⟩
    have HB := Lib.hid hb
    clear hb
    go_wp2
    go_ret
    exact ⟨rfl, HB.out⟩
set_option maxRecDepth 40000 in
set_option maxHeartbeats 2000000 in
theorem w_ft (m : List V) (A : Option Addr) (c : Nat) (l : List V) (S : ByteArray) (W : World) (hl : RowAt W A c l) (hT : Tabs W) (hs : ¬ 16384 < S.size) (hr : mayK l = false) (hg : kget S.data.toList = some m) : Calls Tryd.prog 5 #[.slice A l.length c, .string S] W fun e w' => e = .returned (.bool true) ∧ Below W.heap.size W w' := by
  have hz : decide ((16384 : Int) < (S.size : Int)) = false := decide_eq_false (by omega)
  have hz' : ¬ ((16384 : Int) < (S.size : Int)) := by omega
  have HPS : Hid (bs (kputS l) = ⟨#[]⟩) := Lib.hid (by unfold kputS; rw [hr]; rfl)
  have FG2 : Hid (∀ w : World, Hid (Tabs w) → Hid (∀ W', Hid (Below w.heap.size w W') → Calls Tryd.prog 14 #[.string S] W' (GotK W' (some m)))) := Lib.hid fun w hT => by
    have := q_get S.data.toList (by rw [Array.length_toList]; have : S.data.size = S.size := rfl; omega) hT
    rw [hg, bs_of] at this
    exact this
  have HM := Lib.hid (kget_is hg)
  have HMS : Hid (bs (kputS m) = S) := Lib.hid (by unfold kputS; rw [HM.out.2.1, if_pos rfl, ← HM.out.1]; exact bs_of S)
  have hMl : m.length ≤ 8 := (mayK_is HM.out.2.1).1
  have HR := Lib.hid hr
  clear hr hg
  have T0 := Lib.hid hT
  have R0 := Lib.hid (Lst.of hl)
  have B0 := Lib.hid (Below.refl W.heap.size W)
  have FL := q_long R0 c
  have FA := q_alive T0
  have FC := q_copy hl (Below.refl _ _)
  have HL := Lib.hid hl
  clear hl hT
  go_enter Tryd.func5, Tryd.ntmps5
  go_wp2_with fail
  with_reducible refine (FL.out _ B0).mono ?_
  rintro e w1 ⟨rr, rfl, hlong, rfl⟩
  clear hlong
  cases rr
  · skip
    go_wp2_with fail
    with_reducible refine (FC.out _ B0).mono ?_
    rintro e w2 ⟨A2, c2, rfl, hrd2, hb2⟩
    have T2 := Lib.hid (T0.out.keep hb2)
    have R2 := Lib.hid (R0.out.keep hb2)
    have Q2 : Hid (Lst w2 A2 l) := Lib.hid ⟨hrd2, HL.out.ok, HL.out.count⟩
    have HW2 := Lib.hid hb2
    have FP := q_put Q2 c2 T2
    rw [HPS.out, HR.out] at FP
    replace FP : Hid (∀ W', Hid (Below w2.heap.size w2 W') → Calls Tryd.prog 10 #[.slice A2 l.length c2] W' fun e w' => e = .returned (.tuple #[.string ⟨#[]⟩, .int .i64 2]) ∧ Below W'.heap.size W' w') := FP
    have B2 := Lib.hid (Below.refl w2.heap.size w2)
    clear hrd2 hb2 T0 R0 FL FA FC
    go_wp2_with fail
    with_reducible refine (FP.out _ B2).mono ?_
    rintro e w3 ⟨rfl, hb⟩
    have B3 := Lib.hid (B2.out.trans (hb.mono B2.out.size))
    clear hb
    have FH := FG2.out w2 T2
    go_wp2_with fail
    with_reducible refine (FH.out _ B3).mono ?_
    rintro e w6 ⟨A6, c6, rfl, hrd6, hb6⟩
    have hb6' := B3.out.trans (hb6.mono B3.out.size)
    have HW6 := Lib.hid (HW2.out.trans (hb6'.mono HW2.out.size))
    have T6 := Lib.hid (T2.out.keep hb6')
    have Q6 : Hid (Lst w6 A6 m) := Lib.hid ⟨hrd6, HM.out.2.2, by omega⟩
    have B6 := Lib.hid (Below.refl w6.heap.size w6)
    have FQ := q_put Q6 c6 T6
    rw [HMS.out, HM.out.2.1] at FQ
    replace FQ : Hid (∀ W', Hid (Below w6.heap.size w6 W') → Calls Tryd.prog 10 #[.slice A6 m.length c6] W' fun e w' => e = .returned (.tuple #[.string S, .int .i64 0]) ∧ Below W'.heap.size W' w') := FQ
    have FA6 := q_alive T6
    clear hrd6 hb6 hb6'
    go_wp2_with fail
    with_reducible refine (FQ.out _ B6).mono ?_
    rintro e w7 ⟨rfl, hb⟩
    have B7 := Lib.hid (B6.out.trans (hb.mono B6.out.size))
    clear hb
    go_wp2_with fail
    with_reducible refine (FA6.out _ B7).mono ?_
    rintro e w9 ⟨rfl, hb⟩
    have HB := Lib.hid hb
    clear hb
    go_wp2
    go_ret
    exact ⟨rfl, HW6.out.trans ((B7.out.trans (HB.out.mono B7.out.size)).mono HW6.out.size)⟩
  · skip
    go_wp2_with fail
    with_reducible refine (FA.out _ B0).mono ?_
    rintro e w9 ⟨rfl, hb⟩
    have HB := Lib.hid hb
    clear hb
    go_wp2
    go_ret
    exact ⟨rfl, HB.out⟩
set_option maxRecDepth 40000 in
set_option maxHeartbeats 2000000 in
theorem w_ff (A : Option Addr) (c : Nat) (l : List V) (S : ByteArray) (W : World) (hl : RowAt W A c l) (hT : Tabs W) (hs : ¬ 16384 < S.size) (hr : mayK l = false) (hg : kget S.data.toList = none) : Calls Tryd.prog 5 #[.slice A l.length c, .string S] W fun e w' => e = .returned (.bool true) ∧ Below W.heap.size W w' := by
  have hz : decide ((16384 : Int) < (S.size : Int)) = false := decide_eq_false (by omega)
  have hz' : ¬ ((16384 : Int) < (S.size : Int)) := by omega
  have HPS : Hid (bs (kputS l) = ⟨#[]⟩) := Lib.hid (by unfold kputS; rw [hr]; rfl)
  have FG2 : Hid (∀ w : World, Hid (Tabs w) → Hid (∀ W', Hid (Below w.heap.size w W') → Calls Tryd.prog 14 #[.string S] W' (GotK W' (none)))) := Lib.hid fun w hT => by
    have := q_get S.data.toList (by rw [Array.length_toList]; have : S.data.size = S.size := rfl; omega) hT
    rw [hg, bs_of] at this
    exact this
  have HR := Lib.hid hr
  clear hr hg
  have T0 := Lib.hid hT
  have R0 := Lib.hid (Lst.of hl)
  have B0 := Lib.hid (Below.refl W.heap.size W)
  have FL := q_long R0 c
  have FA := q_alive T0
  have FC := q_copy hl (Below.refl _ _)
  have HL := Lib.hid hl
  clear hl hT
  go_enter Tryd.func5, Tryd.ntmps5
  go_wp2_with fail
  with_reducible refine (FL.out _ B0).mono ?_
  rintro e w1 ⟨rr, rfl, hlong, rfl⟩
  clear hlong
  cases rr
  · skip
    go_wp2_with fail
    with_reducible refine (FC.out _ B0).mono ?_
    rintro e w2 ⟨A2, c2, rfl, hrd2, hb2⟩
    have T2 := Lib.hid (T0.out.keep hb2)
    have R2 := Lib.hid (R0.out.keep hb2)
    have Q2 : Hid (Lst w2 A2 l) := Lib.hid ⟨hrd2, HL.out.ok, HL.out.count⟩
    have HW2 := Lib.hid hb2
    have FP := q_put Q2 c2 T2
    rw [HPS.out, HR.out] at FP
    replace FP : Hid (∀ W', Hid (Below w2.heap.size w2 W') → Calls Tryd.prog 10 #[.slice A2 l.length c2] W' fun e w' => e = .returned (.tuple #[.string ⟨#[]⟩, .int .i64 2]) ∧ Below W'.heap.size W' w') := FP
    have B2 := Lib.hid (Below.refl w2.heap.size w2)
    clear hrd2 hb2 T0 R0 FL FA FC
    go_wp2_with fail
    with_reducible refine (FP.out _ B2).mono ?_
    rintro e w3 ⟨rfl, hb⟩
    have B3 := Lib.hid (B2.out.trans (hb.mono B2.out.size))
    clear hb
    have FH := FG2.out w2 T2
    have FA6 := q_alive T2
    go_wp2_with fail
    with_reducible refine (FH.out _ B3).mono ?_
    rintro e w6 ⟨rfl, hb⟩
    have B6 := Lib.hid (B3.out.trans (hb.mono B3.out.size))
    clear hb
    go_wp2_with fail
    with_reducible refine (FA6.out _ B6).mono ?_
    rintro e w9 ⟨rfl, hb⟩
    have HB := Lib.hid hb
    clear hb
    go_wp2
    go_ret
    exact ⟨rfl, HW2.out.trans ((B6.out.trans (HB.out.mono B6.out.size)).mono HW2.out.size)⟩
  · skip
    go_wp2_with fail
    with_reducible refine (FA.out _ B0).mono ?_
    rintro e w9 ⟨rfl, hb⟩
    have HB := Lib.hid hb
    clear hb
    go_wp2
    go_ret
    exact ⟨rfl, HB.out⟩
theorem walk (A : Option Addr) (c : Nat) (l : List V) (S : ByteArray) (W : World) (hl : RowAt W A c l) (hT : Tabs W) : Calls Tryd.prog 5 #[.slice A l.length c, .string S] W fun e w' => e = .returned (.bool true) ∧ Below W.heap.size W w' := by
  by_cases hs : 16384 < S.size
  · exact w_text A c l S W hl hT hs
  · cases hr : mayK l <;> cases hg : kget S.data.toList
    · exact w_ff A c l S W hl hT hs hr hg
    · exact w_ft _ A c l S W hl hT hs hr hg
    · exact w_tf A c l S W hl hT hs hr hg
    · exact w_tt _ A c l S W hl hT hs hr hg
end Go.Proofs.YtbkaphcipbhmhaaDoor.Wb6
