/- The contract of disk.Room. -/
import Derived.Test.YtaoneiicoaiehaaDb2
namespace Go.Proofs.Ytaoneiicoaiehaa.Ro11
set_option maxRecDepth 100000
open Go Go.RowKit Go.Lib Go.Proofs.Ytaoneiicoaiehaa.Mp Go.Proofs.Ytaoneiicoaiehaa.Dh Go.Proofs.Ytaoneiicoaiehaa.Ext Go.Proofs.Ytaoneiicoaiehaa.Fm Go.Proofs.Ytaoneiicoaiehaa.Dk Go.Proofs.Ytaoneiicoaiehaa.Cl Go.Proofs.Ytaoneiicoaiehaa.Bu Go.Proofs.Ytaoneiicoaiehaa.Ch Go.Proofs.Ytaoneiicoaiehaa.Nm Go.Proofs.Ytaoneiicoaiehaa.St
theorem may_any (w : World) (n : Int) :
    Calls Try.prog 31 #[.int .i64 n] w fun e w' => e = .returned (.bool (decide (0 ≤ n ∧ n ≤ 16777216))) ∧ w' = w := by
  by_cases h0 : 0 ≤ n
  · by_cases h1 : n ≤ 16777216
    · rw [decide_eq_true ⟨h0, h1⟩]
      go_enter Try.func31, Try.ntmps31
      go_wp2
      go_ret
      exact ⟨rfl, rfl⟩
    · rw [decide_eq_false (show ¬ (0 ≤ n ∧ n ≤ 16777216) by omega)]
      go_enter Try.func31, Try.ntmps31
      go_wp2
      go_ret
      exact ⟨rfl, rfl⟩
  · rw [decide_eq_false (show ¬ (0 ≤ n ∧ n ≤ 16777216) by omega)]
    go_enter Try.func31, Try.ntmps31
    go_wp2
    go_ret
    exact ⟨rfl, rfl⟩
def stRoom (D : St) (n : Int) : St := if 0 ≤ n ∧ n ≤ 16777216 then { D with room := n } else D
theorem room_any {S : Nat → Prop} {w : World} {p : Nat} {D : St} (h : Full w S p D) (n : Int) :
    Calls Try.prog 19 #[.pointer (some ⟨p, 0, none⟩), .int .i64 n] w fun e w' => (∃ k : Int, e = .returned (.int .i64 k)) ∧ To S w w' p (stRoom D n) := by
  have HM := Lib.hid (may_any w n)
  have hto := To.refl h
  obtain ⟨d, g1, g2, g3, g4, g5, g6, g7, g8⟩ := h
  unfold stRoom
  by_cases hr : 0 ≤ n ∧ n ≤ 16777216
  · rw [if_pos hr]
    rw [decide_eq_true hr] at HM
    have c0 : w.cell? ⟨p, 0, none⟩ = some (.int .i64 d.room) := DskAt.c g1 0
    have f0 := DskAt.f g1 0
    have HD : Hid (To S w (w.setCell ⟨p, 0, none⟩ (.int .i64 n)) p { D with room := n }) := Lib.hid (by
      have hr2 := mkSet g1 0 (.int .i64 n) { d with room := n } rfl ⟨rfl, rfl, rfl, rfl, rfl, rfl⟩
      exact ⟨hr2.tread, _, hr2.at_, LooseAt.keep g2 (Ch.Ran.keepPlain hr2), rfl, g4, g5, g6, g7, ⟨g8.oks, g8.runs, g8.used, hr, g8.fuse⟩⟩)
    clear g1 g2 g3 g4 g5 g6 g7 g8 hto hr
    go_enter Try.func19, Try.ntmps19
    go_wp2_with (go_at_call 31; refine HM.out.mono ?_; rintro e w1 ⟨rfl, rfl⟩)
    go_ret
    exact ⟨⟨_, rfl⟩, HD.out⟩
  · rw [if_neg hr]
    rw [decide_eq_false hr] at HM
    have HD := Lib.hid hto
    clear g1 g2 g3 g4 g5 g6 g7 g8 hto hr
    go_enter Try.func19, Try.ntmps19
    go_wp2_with (go_at_call 31; refine HM.out.mono ?_; rintro e w1 ⟨rfl, rfl⟩)
    go_ret
    exact ⟨⟨_, rfl⟩, HD.out⟩
end Go.Proofs.Ytaoneiicoaiehaa.Ro11
