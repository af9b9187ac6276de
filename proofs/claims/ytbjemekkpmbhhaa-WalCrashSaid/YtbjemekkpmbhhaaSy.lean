/- The contracts of disk.Sync, Fuse, Used, Loose and Crash. -/
import Derived.Test.YtbjemekkpmbhhaaRn
namespace Go.Proofs.Ytbjemekkpmbhhaa.Sy
open Go Go.RowKit Go.Lib Go.Proofs.Ytbjemekkpmbhhaa.Mp Go.Proofs.Ytbjemekkpmbhhaa.Dh Go.Proofs.Ytbjemekkpmbhhaa.Ext Go.Proofs.Ytbjemekkpmbhhaa.Fm Go.Proofs.Ytbjemekkpmbhhaa.Dk Go.Proofs.Ytbjemekkpmbhhaa.Cl Go.Proofs.Ytbjemekkpmbhhaa.Bu Go.Proofs.Ytbjemekkpmbhhaa.Ch Go.Proofs.Ytbjemekkpmbhhaa.La Go.Proofs.Ytbjemekkpmbhhaa.Co Go.Proofs.Ytbjemekkpmbhhaa.Se Go.Proofs.Ytbjemekkpmbhhaa.Nm Go.Proofs.Ytbjemekkpmbhhaa.St Go.Proofs.Ytbjemekkpmbhhaa.Ap Go.Proofs.Ytbjemekkpmbhhaa.Tr Go.Proofs.Ytbjemekkpmbhhaa.Kl
/-- The first n loose calls are made sure. -/
theorem settle_any {S : Nat → Prop} {w : World} {p : Nat} {d : Dsk} (h : DskAt w S p d) (l : List Cmd) (hl : LooseAt w S d.lv l) (n : Nat) (hn : n ≤ l.length) (hok : oks (view d.es2) l) (hu : used (view d.es2) ≤ 16777216) :
    Calls Try.prog 36 #[.pointer (some ⟨p, 0, none⟩), .int .i64 n] w fun e w' => e = .returned (.tuple #[]) ∧
      ∃ es' c', view es' = runs (view d.es2) (l.take n) ∧ Ran S w w' p { d with es2 := es', c2 := c', lv := .slice none 0 0 } := by
  rcases hl with ⟨hlv, rfl⟩ | ⟨b, cap, cs, hlv, ha, h1, h2, h3, h4⟩
  · have : n = 0 := by simpa using hn
    subst this
    refine (settle_nil h hlv).mono ?_
    rintro e w' ⟨rfl, hr⟩
    exact ⟨rfl, d.es2, d.c2, rfl, hr⟩
  · exact settle_some h l n b cap cs hlv hn h1 h2 ha h3 h4 hok hu
theorem sync_still {S : Nat → Prop} {w : World} {p : Nat} {D : St} (h : Full w S p D) (hst : D.still = true) :
    Calls Try.prog 27 #[.pointer (some ⟨p, 0, none⟩)] w fun e w' => e = .returned (.int .i64 20) ∧ w' = w := by
  obtain ⟨d, g1, g2, g3, g4, g5, g6, g7, g8⟩ := h
  have HR := Lib.hid (ready_still g1 (g7.trans hst) (.slice none 0 0))
  clear hst g1 g2 g3 g4 g5 g6 g7 g8
  go_enter Try.func27, Try.ntmps27
  go_wp2_with (go_at_call 38; refine HR.out.mono ?_; rintro e w1 ⟨rfl, rfl⟩)
  go_ret
  exact ⟨rfl, rfl⟩
set_option maxHeartbeats 1000000 in
theorem sync_any {S : Nat → Prop} {w : World} {p : Nat} {D : St} (h : Full w S p D) (hlen : D.loose.length ≤ 1099511627776) :
    Calls Try.prog 27 #[.pointer (some ⟨p, 0, none⟩)] w fun e w' => e = .returned (.int .i64 (stSync D).1) ∧ To S w w' p (stSync D).2 := by
  unfold stSync
  by_cases hst : D.still = true
  · rw [if_pos hst]
    refine (sync_still h hst).mono ?_
    rintro e w' ⟨rfl, rfl⟩
    exact ⟨rfl, To.refl h⟩
  rw [if_neg hst]
  obtain ⟨d, g1, g2, g3, g4, g5, g6, g7, g8⟩ := h
  have HR := Lib.hid (ready_none g1 (by rw [g7]; simpa using hst))
  obtain ⟨b1, b2, b3, b4, b5, b6, b7, b8, b9, b10, b11⟩ := burn_full g3 g6 g7
  have hgb := Good.burnt g8
  have HB0 := burn_any g1 (by rw [g6]; exact g8.fuse)
  rw [b1] at HB0
  rcases burnt_or D with hb | hb
  · rw [if_pos hb]
    rw [hb] at HB0
    have HB := Lib.hid HB0
    have HL : Hid (∀ w1, Ran S w w1 p (burn d).2 → w1.cell? ⟨p, 5, none⟩ = some d.lv ∧ Calls Try.prog 36 #[.pointer (some ⟨p, 0, none⟩), .int .i64 D.loose.length] w1 fun e w' => e = .returned (.tuple #[]) ∧
        ∃ es' c', view es' = runs (view d.es2) (D.loose.take D.loose.length) ∧ Ran S w w' p { (burn d).2 with es2 := es', c2 := c', lv := .slice none 0 0 }) := Lib.hid fun w1 hr => by
      refine ⟨by rw [← b7]; exact DskAt.c hr.at_ 5, ?_⟩
      refine (settle_any hr.at_ D.loose (by rw [b7]; exact LooseAt.keep g2 (Ch.Ran.keepPlain hr)) D.loose.length (Nat.le_refl _) (by rw [b6, g5]; exact g8.oks) (by rw [b6, g5]; exact g8.used)).mono ?_
      rintro e w' ⟨rfl, es', c', hv, hr2⟩
      exact ⟨rfl, es', c', by rw [hv, b6], Ran.trans hr hr2⟩
    obtain ⟨a, cp, hlv⟩ := LooseAt.shape g2
    rw [hlv] at HL
    have HD : Hid (∀ w' es' c', view es' = runs (view d.es2) (D.loose.take D.loose.length) → Ran S w w' p { (burn d).2 with es2 := es', c2 := c', lv := .slice none 0 0 } → To S w w' p { (burnt D).2 with sure := D.now, loose := [] }) := Lib.hid fun w' es' c' hv hr => by
      refine ⟨hr.tread, _, hr.at_, .inl ⟨rfl, rfl⟩, b2, ?_, ?_, b3, b4, ?_⟩
      · show view (burn d).2.es1 = (burnt D).2.now
        rw [b5, g4, b8]
      · show view es' = D.now
        rw [hv, List.take_length, g5, g8.runs]
      · exact ⟨trivial, by show D.now = (burnt D).2.now; rw [b8], g8.now, hgb.room, hgb.fuse⟩
    clear hst HB0 g1 g2 g3 g4 g5 g6 g7 g8 b1 b2 b3 b4 b5 b6 b7 b8 b9 b10 b11 hgb hlv
    have hlen' : (D.loose.length : Int) ≤ 9223372036854775807 := by omega
    go_enter Try.func27, Try.ntmps27
    go_wp2_with (first | (go_at_call 38; refine HR.out.mono ?_; rintro e w1 ⟨rfl, rfl⟩) | (go_at_call 44; refine HB.out.mono ?_; rintro e w1 ⟨rfl, hr⟩; have hq := HL.out w1 hr; have q5 := hq.1; have HQ := Lib.hid hq.2; clear hq hr) | (go_at_call 36; refine (by assumption : Hid (Calls _ _ _ _ _)).out.mono ?_; rintro e w2 ⟨rfl, es', c', hv, hr2⟩; have HZ := Lib.hid (HD.out w2 es' c' hv hr2); clear hv hr2))
    go_ret
    exact ⟨rfl, (by assumption : Hid (To _ _ _ _ _)).out⟩
  · rw [if_neg (by rw [hb]; decide)]
    rw [hb] at HB0 ⊢
    have HB := Lib.hid HB0
    have HD : Hid (∀ w', Ran S w w' p (burn d).2 → To S w w' p (burnt D).2) := Lib.hid fun w' hr => by
      refine ⟨hr.tread, _, hr.at_, ?_, b2, ?_, ?_, b3, b4, hgb⟩
      · rw [b7, b10]; exact LooseAt.keep g2 (Ch.Ran.keepPlain hr)
      · rw [b5, g4, b8]
      · rw [b6, g5, b9]
    clear hst HB0 g1 g2 g3 g4 g5 g6 g7 g8 b1 b2 b3 b4 b5 b6 b7 b8 b9 b10 b11 hgb hb
    go_enter Try.func27, Try.ntmps27
    go_wp2_with (first | (go_at_call 38; refine HR.out.mono ?_; rintro e w1 ⟨rfl, rfl⟩) | (go_at_call 44; refine HB.out.mono ?_; rintro e w1 ⟨rfl, hr⟩; have HZ := Lib.hid (HD.out w1 hr); clear hr))
    go_ret
    exact ⟨rfl, (by assumption : Hid (To _ _ _ _ _)).out⟩
theorem loose_any {S : Nat → Prop} {w : World} {p : Nat} {D : St} (h : Full w S p D) (hlen : D.loose.length ≤ 1099511627776) :
    Calls Try.prog 26 #[.pointer (some ⟨p, 0, none⟩)] w fun e w' => e = .returned (.int .i64 D.loose.length) ∧ w' = w := by
  obtain ⟨d, g1, g2, g3, g4, g5, g6, g7, g8⟩ := h
  obtain ⟨a, cp, hlv⟩ := LooseAt.shape g2
  have c5 : w.cell? ⟨p, 5, none⟩ = some (.slice a D.loose.length cp) := by rw [← hlv]; exact DskAt.c g1 5
  clear g1 g2 g3 g4 g5 g6 g7 g8 hlv
  go_enter Try.func26, Try.ntmps26
  go_wp2
  go_ret
  exact ⟨rfl, rfl⟩
def stFuse (D : St) (n : Int) : St := if n < 0 then { D with fuse := -1, still := false } else { D with fuse := n }
theorem fuse_any {S : Nat → Prop} {w : World} {p : Nat} {D : St} (h : Full w S p D) (n : Int) (hn : n ≤ 9223372036854775807) :
    Calls Try.prog 11 #[.pointer (some ⟨p, 0, none⟩), .int .i64 n] w fun e w' => e = .returned (.int .i64 0) ∧ To S w w' p (stFuse D n) := by
  obtain ⟨d, g1, g2, g3, g4, g5, g6, g7, g8⟩ := h
  unfold stFuse
  by_cases hneg : n < 0
  · rw [if_pos hneg]
    have HM := Lib.hid (mend_any g1)
    have HD : Hid (∀ w', Ran S w w' p { d with fuse := -1, still := false } → To S w w' p { D with fuse := -1, still := false }) := Lib.hid fun w' hr =>
      ⟨hr.tread, _, hr.at_, LooseAt.keep g2 (Ch.Ran.keepPlain hr), g3, g4, g5, rfl, rfl, ⟨g8.oks, g8.runs, g8.used, g8.room, ⟨Int.le_refl _, (by decide : (-1 : Int) ≤ 9223372036854775807)⟩⟩⟩
    clear g1 g2 g3 g4 g5 g6 g7 g8
    go_enter Try.func11, Try.ntmps11
    go_wp2_with (go_at_call 35; refine HM.out.mono ?_; rintro e w1 ⟨rfl, hr⟩; have HZ := Lib.hid (HD.out w1 hr); clear hr)
    go_ret
    exact ⟨rfl, (by assumption : Hid (To _ _ _ _ _)).out⟩
  · rw [if_neg hneg]
    have c6 : w.cell? ⟨p, 6, none⟩ = some (.int .i64 d.fuse) := DskAt.c g1 6
    have f6 := DskAt.f g1 6
    have HD : Hid (To S w (w.setCell ⟨p, 6, none⟩ (.int .i64 n)) p { D with fuse := n }) := Lib.hid (by
      have hr := mkSet g1 6 (.int .i64 n) { d with fuse := n } rfl ⟨rfl, rfl, rfl, rfl, rfl, rfl⟩
      exact ⟨hr.tread, _, hr.at_, LooseAt.keep g2 (Ch.Ran.keepPlain hr), g3, g4, g5, rfl, g7, ⟨g8.oks, g8.runs, g8.used, g8.room, by show -1 ≤ n ∧ n ≤ 9223372036854775807; omega⟩⟩)
    clear g1 g2 g3 g4 g5 g6 g7 g8
    go_enter Try.func11, Try.ntmps11
    go_wp2
    go_ret
    exact ⟨rfl, HD.out⟩
end Go.Proofs.Ytbjemekkpmbhhaa.Sy
