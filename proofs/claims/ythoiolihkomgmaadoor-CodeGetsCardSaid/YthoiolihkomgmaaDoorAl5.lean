/- The chapter's examples: the contract of the statements' own 'alive'. -/
import Derived.Test.YthoiolihkomgmaaDoorRr5
import Derived.Test.YthoiolihkomgmaaDoorRs5
import Derived.Test.YthoiolihkomgmaaDoorPw5
import Derived.Laws.IdiomStrings
namespace Go.Proofs.YthoiolihkomgmaaDoor.Al5
open Go Go.RowKit Go.Proofs Go.Proofs.YthoiolihkomgmaaDoor.Wm Go.Proofs.YthoiolihkomgmaaDoor.Vm Go.Proofs.YthoiolihkomgmaaDoor.Vr Go.Proofs.YthoiolihkomgmaaDoor.Vs Go.Proofs.YthoiolihkomgmaaDoor.Vc Go.Proofs.YthoiolihkomgmaaDoor.Cm Go.Proofs.YthoiolihkomgmaaDoor.Rr5 Go.Proofs.YthoiolihkomgmaaDoor.Rs5 Go.Proofs.YthoiolihkomgmaaDoor.Pw5
theorem tabs_lt {w : World} (h : Tabs w) : 1 < w.heap.size := by
  have hc := (h.2 0 (by omega)).1
  rcases Nat.lt_or_ge (valid_ren.g 4) w.heap.size with h' | h'
  · exact Nat.lt_of_le_of_lt (by decide) h'
  · simp [World.cell?, Array.getElem?_eq_none h'] at hc
theorem m1 : may ⟨2, -2, 0, ⟨#[]⟩⟩ = true := (may_is _).2 (.int (-2))
theorem m2 : may ⟨5, 0, 0, ⟨#[97, 98]⟩⟩ = true := (may_is _).2 (.string _ (by decide) ((Lib.validD_cons 97 [98] (by decide)).trans ((Lib.validD_cons 98 [] (by decide)).trans rfl)))
theorem p1 : putS ⟨2, -2, 0, ⟨#[]⟩⟩ = [2, 254, 255, 255, 255, 255, 255, 255, 255] := by unfold putS; rw [m1, if_pos rfl]; decide
theorem p2 : putS ⟨5, 0, 0, ⟨#[97, 98]⟩⟩ = [5, 2, 97, 98] := by unfold putS; rw [m2, if_pos rfl]; decide
theorem r1 : Cm.row [1, 1, 2] = .bad 7 := rfl
theorem r2 : Cm.row [1, 1] = .bad 6 := rfl
theorem r3 : mayRow [] = false := rfl
set_option maxRecDepth 20000 in
theorem alive_any (w : World) (hT : Tabs w) : Calls Tryd.prog 8 #[] w fun e w' => e = .returned (.bool true) ∧ Below w.heap.size w w' := by
  have HT := Lib.hid hT
  have P1 : Hid (∀ W, Tabs W → Calls Tryd.prog 10 #[.agg #[.int .u8 2, .int .i64 (-2), .int .u64 0, .string ⟨#[]⟩]] W fun e w' => e = .returned (.tuple #[.string ⟨#[2, 254, 255, 255, 255, 255, 255, 255, 255]⟩, .int .i64 0]) ∧ Below W.heap.size W w') := Lib.hid fun W h => by
    have := put_any ⟨2, -2, 0, ⟨#[]⟩⟩ W h (Nat.zero_le _) (by show (0 : Nat) < _; omega)
    rw [p1, m1] at this
    exact this
  have P2 : Hid (∀ W, Tabs W → Calls Tryd.prog 10 #[.agg #[.int .u8 5, .int .i64 0, .int .u64 0, .string ⟨#[97, 98]⟩]] W fun e w' => e = .returned (.tuple #[.string ⟨#[5, 2, 97, 98]⟩, .int .i64 0]) ∧ Below W.heap.size W w') := Lib.hid fun W h => by
    have := put_any ⟨5, 0, 0, ⟨#[97, 98]⟩⟩ W h (by show (2 : Nat) ≤ _; omega) (by show (0 : Nat) < _; omega)
    rw [p2, m2] at this
    exact this
  have G1 : Hid (∀ W, Tabs W → Calls Tryd.prog 19 #[.string ⟨#[1, 1, 2]⟩] W fun e w' => e = .returned (.tuple #[.slice none 0 0, .int .i64 0, .int .i64 7]) ∧ Below W.heap.size W w') := Lib.hid fun W h => getRow_any [1, 1, 2] W (by decide) h (tabs_lt h)
  have G2 : Hid (∀ W, Tabs W → Calls Tryd.prog 19 #[.string ⟨#[1, 1]⟩] W fun e w' => e = .returned (.tuple #[.slice none 0 0, .int .i64 0, .int .i64 6]) ∧ Below W.heap.size W w') := Lib.hid fun W h => getRow_any [1, 1] W (by decide) h (tabs_lt h)
  have P3 : Hid (∀ W, Tabs W → Calls Tryd.prog 11 #[.slice none 0 0] W fun e w' => e = .returned (.tuple #[.string ⟨#[]⟩, .int .i64 2]) ∧ Below W.heap.size W w') := Lib.hid fun W h =>
    putRow_any W none 0 [] (Reads.nil _ _) (by decide) (fun v hv => by cases hv) (fun v hv => by cases hv) h
  clear hT
  go_enter Tryd.func8, Tryd.ntmps8
  go_wp2_with fail
  with_reducible refine (P1.out _ HT.out).mono ?_
  rintro e w1 ⟨rfl, hb1⟩
  have HB1 := Lib.hid hb1
  clear hb1 P1
  go_wp2_with fail
  with_reducible refine (P2.out _ (HT.out.keep HB1.out)).mono ?_
  rintro e w2 ⟨rfl, hb2⟩
  have HB2 := Lib.hid (HB1.out.trans (hb2.mono HB1.out.size))
  clear hb2 HB1 P2
  go_wp2_with fail
  with_reducible refine (G1.out _ (HT.out.keep HB2.out)).mono ?_
  rintro e w3 ⟨rfl, hb3⟩
  have HB3 := Lib.hid (HB2.out.trans (hb3.mono HB2.out.size))
  clear hb3 HB2 G1
  go_wp2_with fail
  with_reducible refine (G2.out _ (HT.out.keep HB3.out)).mono ?_
  rintro e w4 ⟨rfl, hb4⟩
  have HB4 := Lib.hid (HB3.out.trans (hb4.mono HB3.out.size))
  clear hb4 HB3 G2
  go_wp2_with fail
  with_reducible refine (P3.out _ (HT.out.keep HB4.out)).mono ?_
  rintro e w5 ⟨rfl, hb5⟩
  have HB5 := Lib.hid (HB4.out.trans (hb5.mono HB4.out.size))
  clear hb5 HB4 P3
  go_wp2
  go_ret
  exact ⟨rfl, HB5.out⟩
end Go.Proofs.YthoiolihkomgmaaDoor.Al5
