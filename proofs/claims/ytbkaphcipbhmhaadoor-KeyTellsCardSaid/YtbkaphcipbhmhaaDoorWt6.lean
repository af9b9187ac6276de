/- KeyTells: which way a row and a text go (written by gentell6.py). -/
import Derived.Test.YtbkaphcipbhmhaaDoorLq6
import Derived.Test.YtbkaphcipbhmhaaDoorGx6
namespace Go.Proofs.YtbkaphcipbhmhaaDoor.Wt6
open Go Go.RowKit Go.Proofs Go.Proofs.YtbkaphcipbhmhaaDoor.Wm Go.Proofs.YtbkaphcipbhmhaaDoor.Vm Go.Proofs.YtbkaphcipbhmhaaDoor.Vr Go.Proofs.YtbkaphcipbhmhaaDoor.Vs Go.Proofs.YtbkaphcipbhmhaaDoor.Vc Go.Proofs.YtbkaphcipbhmhaaDoor.Vf Go.Proofs.YtbkaphcipbhmhaaDoor.Vh Go.Proofs.YtbkaphcipbhmhaaDoor.Vz Go.Proofs.YtbkaphcipbhmhaaDoor.Cm Go.Proofs.YtbkaphcipbhmhaaDoor.Kl6 Go.Proofs.YtbkaphcipbhmhaaDoor.Km6 Go.Proofs.YtbkaphcipbhmhaaDoor.Kp6 Go.Proofs.YtbkaphcipbhmhaaDoor.Kh6 Go.Proofs.YtbkaphcipbhmhaaDoor.Lq6
theorem q_may {w : World} {A : Option Addr} {l : List V} (h : Hid (Lst w A l)) (c : Nat) (hT : Hid (Tabs w)) : Hid (∀ W', Hid (Below w.heap.size w W') → Calls Tryd.prog 12 #[.slice A l.length c] W' fun e w' => e = .returned (.bool (mayK l)) ∧ Below W'.heap.size W' w') :=
  Lib.hid fun W' hb => Qf6.may_any W' A c l (h.out.reads.keep hb.out) h.out.len h.out.ok (hT.out.keep hb.out)
theorem q_refput {w : World} {A : Option Addr} {l : List V} (h : Hid (Lst w A l)) (c : Nat) (hm : mayK l = true) : Hid (∀ W', Hid (Below w.heap.size w W') → Calls Tryd.prog 13 #[.slice A l.length c] W' fun e w' => e = .returned (.string (bs (kputAll l))) ∧ Below W'.heap.size W' w') :=
  Lib.hid fun W' hb => Qf6.put_any W' A c l (h.out.reads.keep hb.out) hm h.out.ok
theorem q_refget (s : List UInt8) (hs : s.length ≤ 90000) {w : World} (hT : Hid (Tabs w)) : Hid (∀ W', Hid (Below w.heap.size w W') → Calls Tryd.prog 15 #[.string (bs s)] W' (GotK W' (kget s))) :=
  Lib.hid fun W' hb => by
    have := Gx6.refget_any s W' hs (hT.out.keep hb.out)
    rw [rget_eq (by omega)] at this
    exact this
theorem lst_nil (w : World) (A : Option Addr) : Lst w A [] := ⟨Reads.nil _ _, fun v hv => (nomatch hv), by simp⟩
set_option maxRecDepth 40000 in
theorem w_text (A : Option Addr) (c : Nat) (l : List V) (S : ByteArray) (W : World) (hl : RowAt W A c l) (hT : Tabs W) (hs : 16384 < S.size) : Calls Tryd.prog 3 #[.slice A l.length c, .string S] W fun e w' => e = .returned (.bool true) ∧ Below W.heap.size W w' := by
  have hz : decide ((16384 : Int) < (S.size : Int)) = true := decide_eq_true (by omega)
  have T0 := Lib.hid hT
  have R0 := Lib.hid (Lst.of hl)
  have B0 := Lib.hid (Below.refl W.heap.size W)
  have FL := q_long R0 c
  have FA := q_alive T0
  have FC := q_copy hl (Below.refl _ _)
  have HL := Lib.hid hl
  clear hl hT
  clear FC
  go_enter Tryd.func3, Tryd.ntmps3
  go_wp2_with fail
  with_reducible refine (FL.out _ B0).mono ?_
  rintro e w1 ⟨rr, rfl, hlong, rfl⟩
  clear hlong
  cases rr
  · skip
    go_wp2_with fail
    with_reducible refine (FA.out _ B0).mono ?_
    rintro e w9 ⟨rfl, hb⟩
    have HB := Lib.hid hb
    clear hb
    go_wp2
    go_ret
    exact ⟨rfl, HB.out⟩
  · skip
    go_wp2_with fail
    with_reducible refine (FA.out _ B0).mono ?_
    rintro e w9 ⟨rfl, hb⟩
    have HB := Lib.hid hb
    clear hb
    go_wp2
    go_ret
    exact ⟨rfl, HB.out⟩
set_option maxRecDepth 40000 in
set_option maxHeartbeats 2000000 in
theorem w_tt (m : List V) (A : Option Addr) (c : Nat) (l : List V) (S : ByteArray) (W : World) (hl : RowAt W A c l) (hT : Tabs W) (hs : ¬ 16384 < S.size) (hr : mayK l = true) (hg : kget S.data.toList = some m) : Calls Tryd.prog 3 #[.slice A l.length c, .string S] W fun e w' => e = .returned (.bool true) ∧ Below W.heap.size W w' := by
  have hz : decide ((16384 : Int) < (S.size : Int)) = false := decide_eq_false (by omega)
  have hz' : ¬ ((16384 : Int) < (S.size : Int)) := by omega
  obtain ⟨P, hP⟩ : ∃ P, P = bs (kputAll l) := ⟨_, rfl⟩
  have HPS : Hid (bs (kputS l) = P) := Lib.hid (by unfold kputS; rw [hr]; exact hP.symm)
  have HPP := Lib.hid hP
  clear hP
  have FG0 : Hid (∀ w : World, Hid (Tabs w) → Hid (∀ W', Hid (Below w.heap.size w W') → Calls Tryd.prog 14 #[.string S] W' (GotK W' (some m)))) := Lib.hid fun w hT => by
    have := q_get S.data.toList (by rw [Array.length_toList]; have : S.data.size = S.size := rfl; omega) hT
    rw [hg, bs_of] at this
    exact this
  have FR0 : Hid (∀ w : World, Hid (Tabs w) → Hid (∀ W', Hid (Below w.heap.size w W') → Calls Tryd.prog 15 #[.string S] W' (GotK W' (some m)))) := Lib.hid fun w hT => by
    have := q_refget S.data.toList (by rw [Array.length_toList]; have : S.data.size = S.size := rfl; omega) hT
    rw [hg, bs_of] at this
    exact this
  obtain ⟨Q, hQ⟩ : ∃ Q, Q = bs (Ka6.after S.data.toList).1 := ⟨_, rfl⟩
  obtain ⟨z, hzz⟩ : ∃ z, z = (Ka6.after S.data.toList).2 := ⟨_, rfl⟩
  have FF : Hid (∀ W : World, Calls Tryd.prog 16 #[.string S] W fun e w' => e = .returned (.tuple #[.string Q, .bool z]) ∧ Below W.heap.size W w') := Lib.hid fun W => by rw [hQ, hzz]; exact Ka6.after_any W S (by omega)
  have FH : Hid (∀ W : World, Calls Tryd.prog 17 #[.string S] W fun e w' => e = .returned (.tuple #[.string Q, .bool z]) ∧ Below W.heap.size W w') := Lib.hid fun W => by rw [hQ, hzz]; exact Ka6.refafter_any W S (by omega)
  clear hQ hzz
  have HM := Lib.hid (kget_is hg)
  have hMl : m.length ≤ 8 := (mayK_is HM.out.2.1).1
  have HR := Lib.hid hr
  clear hr hg
  have T0 := Lib.hid hT
  have R0 := Lib.hid (Lst.of hl)
  have B0 := Lib.hid (Below.refl W.heap.size W)
  have FL := q_long R0 c
  have FA := q_alive T0
  have FC := q_copy hl (Below.refl _ _)
  have HL := Lib.hid hl
  clear hl hT
  go_enter Tryd.func3, Tryd.ntmps3
  go_wp2_with fail
  with_reducible refine (FL.out _ B0).mono ?_
  rintro e w1 ⟨rr, rfl, hlong, rfl⟩
  clear hlong
  cases rr
  · skip
    go_wp2_with fail
    with_reducible refine (FC.out _ B0).mono ?_
    rintro e w2 ⟨A2, c2, rfl, hrd2, hb2⟩
    have T2 := Lib.hid (T0.out.keep hb2)
    have R2 := Lib.hid (R0.out.keep hb2)
    have Q2 : Hid (Lst w2 A2 l) := Lib.hid ⟨hrd2, HL.out.ok, HL.out.count⟩
    have HW2 := Lib.hid hb2
    have FP := q_put Q2 c2 T2
    rw [HPS.out, HR.out] at FP
    replace FP : Hid (∀ W', Hid (Below w2.heap.size w2 W') → Calls Tryd.prog 10 #[.slice A2 l.length c2] W' fun e w' => e = .returned (.tuple #[.string P, .int .i64 0]) ∧ Below W'.heap.size W' w') := FP
    have FS := q_same Q2 R2 c2 c
    rw [Vm.same_self] at FS
    have FM := q_may R2 c T2
    rw [HR.out] at FM
    have FQ := q_refput R2 c HR.out
    rw [← HPP.out] at FQ
    have FG := FG0.out w2 T2
    have B2 := Lib.hid (Below.refl w2.heap.size w2)
    clear hrd2 hb2 T0 R0 FL FA FC
    go_wp2_with fail
    with_reducible refine (FP.out _ B2).mono ?_
    rintro e w3 ⟨rfl, hb⟩
    have B3 := Lib.hid (B2.out.trans (hb.mono B2.out.size))
    clear hb
    go_wp2_with fail
    with_reducible refine (FS.out _ B3).mono ?_
    rintro e w4 ⟨rfl, hb⟩
    have B4 := Lib.hid (B3.out.trans (hb.mono B3.out.size))
    clear hb
    go_wp2_with fail
    with_reducible refine (FM.out _ B4).mono ?_
    rintro e w5 ⟨rfl, hb⟩
    have B5 := Lib.hid (B4.out.trans (hb.mono B4.out.size))
    clear hb
    go_wp2_with fail
    with_reducible refine (FQ.out _ B5).mono ?_
    rintro e w6 ⟨rfl, hb⟩
    have B6 := Lib.hid (B5.out.trans (hb.mono B5.out.size))
    clear hb
    go_wp2_with fail
    with_reducible refine (FG.out _ B6).mono ?_
    rintro e w10 ⟨A6, c6, rfl, hrd6, hb6⟩
    have hb6' := B6.out.trans (hb6.mono B6.out.size)
    have HW10 := Lib.hid (HW2.out.trans (hb6'.mono HW2.out.size))
    have T10 := Lib.hid (T2.out.keep hb6')
    have Q10 : Hid (Lst w10 A6 m) := Lib.hid ⟨hrd6, HM.out.2.2, by omega⟩
    have B10 := Lib.hid (Below.refl w10.heap.size w10)
    have FR := FR0.out w10 T10
    clear hrd6 hb6 hb6'
    go_wp2_with fail
    with_reducible refine (FR.out _ B10).mono ?_
    rintro e w11 ⟨A7, c7, rfl, hrd7, hb7⟩
    have HW11 := Lib.hid (HW10.out.trans (hb7.mono HW10.out.size))
    have T11 := Lib.hid (T10.out.keep hb7)
    have Q11 : Hid (Lst w11 A6 m) := Lib.hid (Q10.out.keep hb7)
    have P11 : Hid (Lst w11 A7 m) := Lib.hid ⟨hrd7, HM.out.2.2, by omega⟩
    have B11 := Lib.hid (Below.refl w11.heap.size w11)
    have FS2 := q_same Q11 P11 c6 c7
    rw [Vm.same_self] at FS2
    have FA2 := q_alive T11
    clear hrd7 hb7
    go_wp2_with fail
    with_reducible refine (FF.out _).mono ?_
    rintro e w12 ⟨rfl, hb⟩
    have B12 := Lib.hid (B11.out.trans (hb.mono B11.out.size))
    clear hb
    go_wp2_with fail
    with_reducible refine (FH.out _).mono ?_
    rintro e w13 ⟨rfl, hb⟩
    have B13 := Lib.hid (B12.out.trans (hb.mono B12.out.size))
    clear hb
    go_wp2_with fail
    with_reducible refine (FS2.out _ B13).mono ?_
    rintro e w14 ⟨rfl, hb⟩
    have B14 := Lib.hid (B13.out.trans (hb.mono B13.out.size))
    clear hb
    go_wp2_with fail
    with_reducible refine (FA2.out _ B14).mono ?_
    rintro e w9 ⟨rfl, hb⟩
    have HB := Lib.hid hb
    clear hb
    go_wp2
    go_ret
    exact ⟨rfl, HW11.out.trans ((B14.out.trans (HB.out.mono B14.out.size)).mono HW11.out.size)⟩
  · skip
    go_wp2_with fail
    with_reducible refine (FA.out _ B0).mono ?_
    rintro e w9 ⟨rfl, hb⟩
    have HB := Lib.hid hb
    clear hb
    go_wp2
    go_ret
    exact ⟨rfl, HB.out⟩
set_option maxRecDepth 40000 in
set_option maxHeartbeats 2000000 in
theorem w_tf (A : Option Addr) (c : Nat) (l : List V) (S : ByteArray) (W : World) (hl : RowAt W A c l) (hT : Tabs W) (hs : ¬ 16384 < S.size) (hr : mayK l = true) (hg : kget S.data.toList = none) : Calls Tryd.prog 3 #[.slice A l.length c, .string S] W fun e w' => e = .returned (.bool true) ∧ Below W.heap.size W w' := by
  have hz : decide ((16384 : Int) < (S.size : Int)) = false := decide_eq_false (by omega)
  have hz' : ¬ ((16384 : Int) < (S.size : Int)) := by omega
  obtain ⟨P, hP⟩ : ∃ P, P = bs (kputAll l) := ⟨_, rfl⟩
  have HPS : Hid (bs (kputS l) = P) := Lib.hid (by unfold kputS; rw [hr]; exact hP.symm)
  have HPP := Lib.hid hP
  clear hP
  have FG0 : Hid (∀ w : World, Hid (Tabs w) → Hid (∀ W', Hid (Below w.heap.size w W') → Calls Tryd.prog 14 #[.string S] W' (GotK W' (none)))) := Lib.hid fun w hT => by
    have := q_get S.data.toList (by rw [Array.length_toList]; have : S.data.size = S.size := rfl; omega) hT
    rw [hg, bs_of] at this
    exact this
  have FR0 : Hid (∀ w : World, Hid (Tabs w) → Hid (∀ W', Hid (Below w.heap.size w W') → Calls Tryd.prog 15 #[.string S] W' (GotK W' (none)))) := Lib.hid fun w hT => by
    have := q_refget S.data.toList (by rw [Array.length_toList]; have : S.data.size = S.size := rfl; omega) hT
    rw [hg, bs_of] at this
    exact this
  obtain ⟨Q, hQ⟩ : ∃ Q, Q = bs (Ka6.after S.data.toList).1 := ⟨_, rfl⟩
  obtain ⟨z, hzz⟩ : ∃ z, z = (Ka6.after S.data.toList).2 := ⟨_, rfl⟩
  have FF : Hid (∀ W : World, Calls Tryd.prog 16 #[.string S] W fun e w' => e = .returned (.tuple #[.string Q, .bool z]) ∧ Below W.heap.size W w') := Lib.hid fun W => by rw [hQ, hzz]; exact Ka6.after_any W S (by omega)
  have FH : Hid (∀ W : World, Calls Tryd.prog 17 #[.string S] W fun e w' => e = .returned (.tuple #[.string Q, .bool z]) ∧ Below W.heap.size W w') := Lib.hid fun W => by rw [hQ, hzz]; exact Ka6.refafter_any W S (by omega)
  clear hQ hzz
  have HR := Lib.hid hr
  clear hr hg
  have T0 := Lib.hid hT
  have R0 := Lib.hid (Lst.of hl)
  have B0 := Lib.hid (Below.refl W.heap.size W)
  have FL := q_long R0 c
  have FA := q_alive T0
  have FC := q_copy hl (Below.refl _ _)
  have HL := Lib.hid hl
  clear hl hT
  go_enter Tryd.func3, Tryd.ntmps3
  go_wp2_with fail
  with_reducible refine (FL.out _ B0).mono ?_
  rintro e w1 ⟨rr, rfl, hlong, rfl⟩
  clear hlong
  cases rr
  · skip
    go_wp2_with fail
    with_reducible refine (FC.out _ B0).mono ?_
    rintro e w2 ⟨A2, c2, rfl, hrd2, hb2⟩
    have T2 := Lib.hid (T0.out.keep hb2)
    have R2 := Lib.hid (R0.out.keep hb2)
    have Q2 : Hid (Lst w2 A2 l) := Lib.hid ⟨hrd2, HL.out.ok, HL.out.count⟩
    have HW2 := Lib.hid hb2
    have FP := q_put Q2 c2 T2
    rw [HPS.out, HR.out] at FP
    replace FP : Hid (∀ W', Hid (Below w2.heap.size w2 W') → Calls Tryd.prog 10 #[.slice A2 l.length c2] W' fun e w' => e = .returned (.tuple #[.string P, .int .i64 0]) ∧ Below W'.heap.size W' w') := FP
    have FS := q_same Q2 R2 c2 c
    rw [Vm.same_self] at FS
    have FM := q_may R2 c T2
    rw [HR.out] at FM
    have FQ := q_refput R2 c HR.out
    rw [← HPP.out] at FQ
    have FG := FG0.out w2 T2
    have B2 := Lib.hid (Below.refl w2.heap.size w2)
    clear hrd2 hb2 T0 R0 FL FA FC
    go_wp2_with fail
    with_reducible refine (FP.out _ B2).mono ?_
    rintro e w3 ⟨rfl, hb⟩
    have B3 := Lib.hid (B2.out.trans (hb.mono B2.out.size))
    clear hb
    go_wp2_with fail
    with_reducible refine (FS.out _ B3).mono ?_
    rintro e w4 ⟨rfl, hb⟩
    have B4 := Lib.hid (B3.out.trans (hb.mono B3.out.size))
    clear hb
    go_wp2_with fail
    with_reducible refine (FM.out _ B4).mono ?_
    rintro e w5 ⟨rfl, hb⟩
    have B5 := Lib.hid (B4.out.trans (hb.mono B4.out.size))
    clear hb
    go_wp2_with fail
    with_reducible refine (FQ.out _ B5).mono ?_
    rintro e w6 ⟨rfl, hb⟩
    have B6 := Lib.hid (B5.out.trans (hb.mono B5.out.size))
    clear hb
    go_wp2_with fail
    with_reducible refine (FG.out _ B6).mono ?_
    rintro e w10 ⟨rfl, hb6⟩
    have hb6' := B6.out.trans (hb6.mono B6.out.size)
    have HW10 := Lib.hid (HW2.out.trans (hb6'.mono HW2.out.size))
    have T10 := Lib.hid (T2.out.keep hb6')
    have B10 := Lib.hid (Below.refl w10.heap.size w10)
    have FR := FR0.out w10 T10
    clear hb6 hb6'
    go_wp2_with fail
    with_reducible refine (FR.out _ B10).mono ?_
    rintro e w11 ⟨rfl, hb7⟩
    have HW11 := Lib.hid (HW10.out.trans (hb7.mono HW10.out.size))
    have T11 := Lib.hid (T10.out.keep hb7)
    have B11 := Lib.hid (Below.refl w11.heap.size w11)
    have FS2 : Hid (∀ W', Hid (Below w11.heap.size w11 W') → Calls Tryd.prog 11 #[.slice none 0 0, .slice none 0 0] W' fun e w' => e = .returned (.bool true) ∧ Below W'.heap.size W' w') := q_same (Lib.hid (lst_nil w11 none)) (Lib.hid (lst_nil w11 none)) 0 0
    have FA2 := q_alive T11
    clear hb7
    go_wp2_with fail
    with_reducible refine (FF.out _).mono ?_
    rintro e w12 ⟨rfl, hb⟩
    have B12 := Lib.hid (B11.out.trans (hb.mono B11.out.size))
    clear hb
    go_wp2_with fail
    with_reducible refine (FH.out _).mono ?_
    rintro e w13 ⟨rfl, hb⟩
    have B13 := Lib.hid (B12.out.trans (hb.mono B12.out.size))
    clear hb
    go_wp2_with fail
    with_reducible refine (FS2.out _ B13).mono ?_
    rintro e w14 ⟨rfl, hb⟩
    have B14 := Lib.hid (B13.out.trans (hb.mono B13.out.size))
    clear hb
    go_wp2_with fail
    with_reducible refine (FA2.out _ B14).mono ?_
    rintro e w9 ⟨rfl, hb⟩
    have HB := Lib.hid hb
    clear hb
    go_wp2
    go_ret
    exact ⟨rfl, HW11.out.trans ((B14.out.trans (HB.out.mono B14.out.size)).mono HW11.out.size)⟩
  · skip
    go_wp2_with fail
    with_reducible refine (FA.out _ B0).mono ?_
    rintro e w9 ⟨rfl, hb⟩
    have HB := Lib.hid hb
    clear hb
    go_wp2
    go_ret
    exact ⟨rfl, HB.out⟩
set_option maxRecDepth 40000 in
set_option maxHeartbeats 2000000 in
theorem w_ft (m : List V) (A : Option Addr) (c : Nat) (l : List V) (S : ByteArray) (W : World) (hl : RowAt W A c l) (hT : Tabs W) (hs : ¬ 16384 < S.size) (hr : mayK l = false) (hg : kget S.data.toList = some m) : Calls Tryd.prog 3 #[.slice A l.length c, .string S] W fun e w' => e = .returned (.bool true) ∧ Below W.heap.size W w' := by
  have hz : decide ((16384 : Int) < (S.size : Int)) = false := decide_eq_false (by omega)
  have hz' : ¬ ((16384 : Int) < (S.size : Int)) := by omega
  have HPS : Hid (bs (kputS l) = ⟨#[]⟩) := Lib.hid (by unfold kputS; rw [hr]; rfl)
  have FG0 : Hid (∀ w : World, Hid (Tabs w) → Hid (∀ W', Hid (Below w.heap.size w W') → Calls Tryd.prog 14 #[.string S] W' (GotK W' (some m)))) := Lib.hid fun w hT => by
    have := q_get S.data.toList (by rw [Array.length_toList]; have : S.data.size = S.size := rfl; omega) hT
    rw [hg, bs_of] at this
    exact this
  have FR0 : Hid (∀ w : World, Hid (Tabs w) → Hid (∀ W', Hid (Below w.heap.size w W') → Calls Tryd.prog 15 #[.string S] W' (GotK W' (some m)))) := Lib.hid fun w hT => by
    have := q_refget S.data.toList (by rw [Array.length_toList]; have : S.data.size = S.size := rfl; omega) hT
    rw [hg, bs_of] at this
    exact this
  obtain ⟨Q, hQ⟩ : ∃ Q, Q = bs (Ka6.after S.data.toList).1 := ⟨_, rfl⟩
  obtain ⟨z, hzz⟩ : ∃ z, z = (Ka6.after S.data.toList).2 := ⟨_, rfl⟩
  have FF : Hid (∀ W : World, Calls Tryd.prog 16 #[.string S] W fun e w' => e = .returned (.tuple #[.string Q, .bool z]) ∧ Below W.heap.size W w') := Lib.hid fun W => by rw [hQ, hzz]; exact Ka6.after_any W S (by omega)
  have FH : Hid (∀ W : World, Calls Tryd.prog 17 #[.string S] W fun e w' => e = .returned (.tuple #[.string Q, .bool z]) ∧ Below W.heap.size W w') := Lib.hid fun W => by rw [hQ, hzz]; exact Ka6.refafter_any W S (by omega)
  clear hQ hzz
  have HM := Lib.hid (kget_is hg)
  have hMl : m.length ≤ 8 := (mayK_is HM.out.2.1).1
  have HR := Lib.hid hr
  clear hr hg
  have T0 := Lib.hid hT
  have R0 := Lib.hid (Lst.of hl)
  have B0 := Lib.hid (Below.refl W.heap.size W)
  have FL := q_long R0 c
  have FA := q_alive T0
  have FC := q_copy hl (Below.refl _ _)
  have HL := Lib.hid hl
  clear hl hT
  go_enter Tryd.func3, Tryd.ntmps3
  go_wp2_with fail
  with_reducible refine (FL.out _ B0).mono ?_
  rintro e w1 ⟨rr, rfl, hlong, rfl⟩
  clear hlong
  cases rr
  · skip
    go_wp2_with fail
    with_reducible refine (FC.out _ B0).mono ?_
    rintro e w2 ⟨A2, c2, rfl, hrd2, hb2⟩
    have T2 := Lib.hid (T0.out.keep hb2)
    have R2 := Lib.hid (R0.out.keep hb2)
    have Q2 : Hid (Lst w2 A2 l) := Lib.hid ⟨hrd2, HL.out.ok, HL.out.count⟩
    have HW2 := Lib.hid hb2
    have FP := q_put Q2 c2 T2
    rw [HPS.out, HR.out] at FP
    replace FP : Hid (∀ W', Hid (Below w2.heap.size w2 W') → Calls Tryd.prog 10 #[.slice A2 l.length c2] W' fun e w' => e = .returned (.tuple #[.string ⟨#[]⟩, .int .i64 2]) ∧ Below W'.heap.size W' w') := FP
    have FS := q_same Q2 R2 c2 c
    rw [Vm.same_self] at FS
    have FM := q_may R2 c T2
    rw [HR.out] at FM
    have FG := FG0.out w2 T2
    have B2 := Lib.hid (Below.refl w2.heap.size w2)
    clear hrd2 hb2 T0 R0 FL FA FC
    go_wp2_with fail
    with_reducible refine (FP.out _ B2).mono ?_
    rintro e w3 ⟨rfl, hb⟩
    have B3 := Lib.hid (B2.out.trans (hb.mono B2.out.size))
    clear hb
    go_wp2_with fail
    with_reducible refine (FS.out _ B3).mono ?_
    rintro e w4 ⟨rfl, hb⟩
    have B4 := Lib.hid (B3.out.trans (hb.mono B3.out.size))
    clear hb
    go_wp2_with fail
    with_reducible refine (FM.out _ B4).mono ?_
    rintro e w5 ⟨rfl, hb⟩
    have B5 := Lib.hid (B4.out.trans (hb.mono B4.out.size))
    clear hb
    go_wp2_with fail
    with_reducible refine (FG.out _ B5).mono ?_
    rintro e w10 ⟨A6, c6, rfl, hrd6, hb6⟩
    have hb6' := B5.out.trans (hb6.mono B5.out.size)
    have HW10 := Lib.hid (HW2.out.trans (hb6'.mono HW2.out.size))
    have T10 := Lib.hid (T2.out.keep hb6')
    have Q10 : Hid (Lst w10 A6 m) := Lib.hid ⟨hrd6, HM.out.2.2, by omega⟩
    have B10 := Lib.hid (Below.refl w10.heap.size w10)
    have FR := FR0.out w10 T10
    clear hrd6 hb6 hb6'
    go_wp2_with fail
    with_reducible refine (FR.out _ B10).mono ?_
    rintro e w11 ⟨A7, c7, rfl, hrd7, hb7⟩
    have HW11 := Lib.hid (HW10.out.trans (hb7.mono HW10.out.size))
    have T11 := Lib.hid (T10.out.keep hb7)
    have Q11 : Hid (Lst w11 A6 m) := Lib.hid (Q10.out.keep hb7)
    have P11 : Hid (Lst w11 A7 m) := Lib.hid ⟨hrd7, HM.out.2.2, by omega⟩
    have B11 := Lib.hid (Below.refl w11.heap.size w11)
    have FS2 := q_same Q11 P11 c6 c7
    rw [Vm.same_self] at FS2
    have FA2 := q_alive T11
    clear hrd7 hb7
    go_wp2_with fail
    with_reducible refine (FF.out _).mono ?_
    rintro e w12 ⟨rfl, hb⟩
    have B12 := Lib.hid (B11.out.trans (hb.mono B11.out.size))
    clear hb
    go_wp2_with fail
    with_reducible refine (FH.out _).mono ?_
    rintro e w13 ⟨rfl, hb⟩
    have B13 := Lib.hid (B12.out.trans (hb.mono B12.out.size))
    clear hb
    go_wp2_with fail
    with_reducible refine (FS2.out _ B13).mono ?_
    rintro e w14 ⟨rfl, hb⟩
    have B14 := Lib.hid (B13.out.trans (hb.mono B13.out.size))
    clear hb
    go_wp2_with fail
    with_reducible refine (FA2.out _ B14).mono ?_
    rintro e w9 ⟨rfl, hb⟩
    have HB := Lib.hid hb
    clear hb
    go_wp2
    go_ret
    exact ⟨rfl, HW11.out.trans ((B14.out.trans (HB.out.mono B14.out.size)).mono HW11.out.size)⟩
  · skip
    go_wp2_with fail
    with_reducible refine (FA.out _ B0).mono ?_
    rintro e w9 ⟨rfl, hb⟩
    have HB := Lib.hid hb
    clear hb
    go_wp2
    go_ret
    exact ⟨rfl, HB.out⟩
set_option maxRecDepth 40000 in
set_option maxHeartbeats 2000000 in
theorem w_ff (A : Option Addr) (c : Nat) (l : List V) (S : ByteArray) (W : World) (hl : RowAt W A c l) (hT : Tabs W) (hs : ¬ 16384 < S.size) (hr : mayK l = false) (hg : kget S.data.toList = none) : Calls Tryd.prog 3 #[.slice A l.length c, .string S] W fun e w' => e = .returned (.bool true) ∧ Below W.heap.size W w' := by
  have hz : decide ((16384 : Int) < (S.size : Int)) = false := decide_eq_false (by omega)
  have hz' : ¬ ((16384 : Int) < (S.size : Int)) := by omega
  have HPS : Hid (bs (kputS l) = ⟨#[]⟩) := Lib.hid (by unfold kputS; rw [hr]; rfl)
  have FG0 : Hid (∀ w : World, Hid (Tabs w) → Hid (∀ W', Hid (Below w.heap.size w W') → Calls Tryd.prog 14 #[.string S] W' (GotK W' (none)))) := Lib.hid fun w hT => by
    have := q_get S.data.toList (by rw [Array.length_toList]; have : S.data.size = S.size := rfl; omega) hT
    rw [hg, bs_of] at this
    exact this
  have FR0 : Hid (∀ w : World, Hid (Tabs w) → Hid (∀ W', Hid (Below w.heap.size w W') → Calls Tryd.prog 15 #[.string S] W' (GotK W' (none)))) := Lib.hid fun w hT => by
    have := q_refget S.data.toList (by rw [Array.length_toList]; have : S.data.size = S.size := rfl; omega) hT
    rw [hg, bs_of] at this
    exact this
  obtain ⟨Q, hQ⟩ : ∃ Q, Q = bs (Ka6.after S.data.toList).1 := ⟨_, rfl⟩
  obtain ⟨z, hzz⟩ : ∃ z, z = (Ka6.after S.data.toList).2 := ⟨_, rfl⟩
  have FF : Hid (∀ W : World, Calls Tryd.prog 16 #[.string S] W fun e w' => e = .returned (.tuple #[.string Q, .bool z]) ∧ Below W.heap.size W w') := Lib.hid fun W => by rw [hQ, hzz]; exact Ka6.after_any W S (by omega)
  have FH : Hid (∀ W : World, Calls Tryd.prog 17 #[.string S] W fun e w' => e = .returned (.tuple #[.string Q, .bool z]) ∧ Below W.heap.size W w') := Lib.hid fun W => by rw [hQ, hzz]; exact Ka6.refafter_any W S (by omega)
  clear hQ hzz
  have HR := Lib.hid hr
  clear hr hg
  have T0 := Lib.hid hT
  have R0 := Lib.hid (Lst.of hl)
  have B0 := Lib.hid (Below.refl W.heap.size W)
  have FL := q_long R0 c
  have FA := q_alive T0
  have FC := q_copy hl (Below.refl _ _)
  have HL := Lib.hid hl
  clear hl hT
  go_enter Tryd.func3, Tryd.ntmps3
  go_wp2_with fail
  with_reducible refine (FL.out _ B0).mono ?_
  rintro e w1 ⟨rr, rfl, hlong, rfl⟩
  clear hlong
  cases rr
  · skip
    go_wp2_with fail
    with_reducible refine (FC.out _ B0).mono ?_
    rintro e w2 ⟨A2, c2, rfl, hrd2, hb2⟩
    have T2 := Lib.hid (T0.out.keep hb2)
    have R2 := Lib.hid (R0.out.keep hb2)
    have Q2 : Hid (Lst w2 A2 l) := Lib.hid ⟨hrd2, HL.out.ok, HL.out.count⟩
    have HW2 := Lib.hid hb2
    have FP := q_put Q2 c2 T2
    rw [HPS.out, HR.out] at FP
    replace FP : Hid (∀ W', Hid (Below w2.heap.size w2 W') → Calls Tryd.prog 10 #[.slice A2 l.length c2] W' fun e w' => e = .returned (.tuple #[.string ⟨#[]⟩, .int .i64 2]) ∧ Below W'.heap.size W' w') := FP
    have FS := q_same Q2 R2 c2 c
    rw [Vm.same_self] at FS
    have FM := q_may R2 c T2
    rw [HR.out] at FM
    have FG := FG0.out w2 T2
    have B2 := Lib.hid (Below.refl w2.heap.size w2)
    clear hrd2 hb2 T0 R0 FL FA FC
    go_wp2_with fail
    with_reducible refine (FP.out _ B2).mono ?_
    rintro e w3 ⟨rfl, hb⟩
    have B3 := Lib.hid (B2.out.trans (hb.mono B2.out.size))
    clear hb
    go_wp2_with fail
    with_reducible refine (FS.out _ B3).mono ?_
    rintro e w4 ⟨rfl, hb⟩
    have B4 := Lib.hid (B3.out.trans (hb.mono B3.out.size))
    clear hb
    go_wp2_with fail
    with_reducible refine (FM.out _ B4).mono ?_
    rintro e w5 ⟨rfl, hb⟩
    have B5 := Lib.hid (B4.out.trans (hb.mono B4.out.size))
    clear hb
    go_wp2_with fail
    with_reducible refine (FG.out _ B5).mono ?_
    rintro e w10 ⟨rfl, hb6⟩
    have hb6' := B5.out.trans (hb6.mono B5.out.size)
    have HW10 := Lib.hid (HW2.out.trans (hb6'.mono HW2.out.size))
    have T10 := Lib.hid (T2.out.keep hb6')
    have B10 := Lib.hid (Below.refl w10.heap.size w10)
    have FR := FR0.out w10 T10
    clear hb6 hb6'
    go_wp2_with fail
    with_reducible refine (FR.out _ B10).mono ?_
    rintro e w11 ⟨rfl, hb7⟩
    have HW11 := Lib.hid (HW10.out.trans (hb7.mono HW10.out.size))
    have T11 := Lib.hid (T10.out.keep hb7)
    have B11 := Lib.hid (Below.refl w11.heap.size w11)
    have FS2 : Hid (∀ W', Hid (Below w11.heap.size w11 W') → Calls Tryd.prog 11 #[.slice none 0 0, .slice none 0 0] W' fun e w' => e = .returned (.bool true) ∧ Below W'.heap.size W' w') := q_same (Lib.hid (lst_nil w11 none)) (Lib.hid (lst_nil w11 none)) 0 0
    have FA2 := q_alive T11
    clear hb7
    go_wp2_with fail
    with_reducible refine (FF.out _).mono ?_
    rintro e w12 ⟨rfl, hb⟩
    have B12 := Lib.hid (B11.out.trans (hb.mono B11.out.size))
    clear hb
    go_wp2_with fail
    with_reducible refine (FH.out _).mono ?_
    rintro e w13 ⟨rfl, hb⟩
    have B13 := Lib.hid (B12.out.trans (hb.mono B12.out.size))
    clear hb
    go_wp2_with fail
    with_reducible refine (FS2.out _ B13).mono ?_
    rintro e w14 ⟨rfl, hb⟩
    have B14 := Lib.hid (B13.out.trans (hb.mono B13.out.size))
    clear hb
    go_wp2_with fail
    with_reducible refine (FA2.out _ B14).mono ?_
    rintro e w9 ⟨rfl, hb⟩
    have HB := Lib.hid hb
    clear hb
    go_wp2
    go_ret
    exact ⟨rfl, HW11.out.trans ((B14.out.trans (HB.out.mono B14.out.size)).mono HW11.out.size)⟩
  · skip
    go_wp2_with fail
    with_reducible refine (FA.out _ B0).mono ?_
    rintro e w9 ⟨rfl, hb⟩
    have HB := Lib.hid hb
    clear hb
    go_wp2
    go_ret
    exact ⟨rfl, HB.out⟩
theorem walk (A : Option Addr) (c : Nat) (l : List V) (S : ByteArray) (W : World) (hl : RowAt W A c l) (hT : Tabs W) : Calls Tryd.prog 3 #[.slice A l.length c, .string S] W fun e w' => e = .returned (.bool true) ∧ Below W.heap.size W w' := by
  by_cases hs : 16384 < S.size
  · exact w_text A c l S W hl hT hs
  · cases hr : mayK l <;> cases hg : kget S.data.toList
    · exact w_ff A c l S W hl hT hs hr hg
    · exact w_ft _ A c l S W hl hT hs hr hg
    · exact w_tf A c l S W hl hT hs hr hg
    · exact w_tt _ A c l S W hl hT hs hr hg
end Go.Proofs.YtbkaphcipbhmhaaDoor.Wt6
