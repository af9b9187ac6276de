/- The contract of disk.Crash, for every disk. -/
import Derived.Test.YtbjemekkpmbhhaaCs
namespace Go.Proofs.Ytbjemekkpmbhhaa.Ca
open Go Go.RowKit Go.Lib Go.Proofs.Ytbjemekkpmbhhaa.Mp Go.Proofs.Ytbjemekkpmbhhaa.Dh Go.Proofs.Ytbjemekkpmbhhaa.Ext Go.Proofs.Ytbjemekkpmbhhaa.Fm Go.Proofs.Ytbjemekkpmbhhaa.Dk Go.Proofs.Ytbjemekkpmbhhaa.Cl Go.Proofs.Ytbjemekkpmbhhaa.Bu Go.Proofs.Ytbjemekkpmbhhaa.Ch Go.Proofs.Ytbjemekkpmbhhaa.La Go.Proofs.Ytbjemekkpmbhhaa.Co Go.Proofs.Ytbjemekkpmbhhaa.Se Go.Proofs.Ytbjemekkpmbhhaa.Nm Go.Proofs.Ytbjemekkpmbhhaa.St Go.Proofs.Ytbjemekkpmbhhaa.Ap Go.Proofs.Ytbjemekkpmbhhaa.Tr Go.Proofs.Ytbjemekkpmbhhaa.Kl Go.Proofs.Ytbjemekkpmbhhaa.Sy Go.Proofs.Ytbjemekkpmbhhaa.Cr Go.Proofs.Ytbjemekkpmbhhaa.Cs
theorem crash_wiped (D : St) (keep t : Int) : stCrash D keep t = wiped D (crashed D keep t) := rfl
theorem crashed_low (D : St) (keep t : Int) (h : t ≤ 0) : crashed D keep t = runs D.sure (D.loose.take (keeps D keep)) := by
  unfold crashed
  split
  · rw [if_neg (by omega)]
  · rfl
theorem crashed_end (D : St) (keep t : Int) (h : keeps D keep = D.loose.length) : crashed D keep t = runs D.sure (D.loose.take (keeps D keep)) := by
  unfold crashed
  have : D.loose[keeps D keep]? = none := by rw [h]; simp
  rw [this]
theorem crashed_other (D : St) (keep t : Int) (c : Cmd) (h : D.loose[keeps D keep]? = some c) (hc : ∀ k s, c ≠ .app k s) : crashed D keep t = runs D.sure (D.loose.take (keeps D keep)) := by
  unfold crashed
  rw [h]
  cases c with
  | app k s => exact absurd rfl (hc k s)
  | cut k n => rfl
  | mov j k => rfl
  | rem k => rfl
theorem crashed_torn (D : St) (keep t : Int) (k s : ByteArray) (h : D.loose[keeps D keep]? = some (.app k s)) (ht : 0 < t) : crashed D keep t = Cmd.run (runs D.sure (D.loose.take (keeps D keep))) (.app k (torn s t)) := by
  unfold crashed
  rw [h]
  show (if 0 < t then _ else _) = _
  rw [if_pos ht]
theorem crash_any {S : Nat → Prop} {w : World} {p : Nat} {D : St} (h : Full w S p D) (keep t : Int) (hk : -9223372036854775808 ≤ keep ∧ keep ≤ 9223372036854775807) (ht : t ≤ 9223372036854775807) (hlen : D.loose.length ≤ 1099511627776) :
    Calls Try.prog 12 #[.pointer (some ⟨p, 0, none⟩), .int .i64 keep, .int .i64 t] w fun e w' => e = .returned (.int .i64 0) ∧ To S w w' p (stCrash D keep t) := by
  obtain ⟨d, g1, g2, g3, g4, g5, g6, g7, g8⟩ := h
  rw [crash_wiped]
  obtain ⟨m, hm⟩ : ∃ m : Int, m = if keep < 0 then 0 else keep := ⟨_, rfl⟩
  have hm0 : 0 ≤ m := by rw [hm]; split <;> omega
  have hK : (keeps D keep : Int) = if (D.loose.length : Int) < m then (D.loose.length : Int) else m := by
    unfold keeps
    rw [hm]
    split <;> split <;> omega
  have hKL : keeps D keep ≤ D.loose.length := by
    have : (keeps D keep : Int) ≤ D.loose.length := by rw [hK]; split <;> omega
    omega
  have hset := settle_any g1 D.loose g2 (keeps D keep) hKL (by rw [g5]; exact g8.oks) (by rw [g5]; exact g8.used)
  have hF : used (runs D.sure (D.loose.take (keeps D keep))) ≤ 16777216 := runs_used _ _ (oks_take _ _ _ g8.oks) g8.used
  have hplain : Settled S w p (keeps D keep) (fun w1 => Tail S w w1 p (.map (some d.m1)) (.int .i64 (used (view d.es1))) D (runs D.sure (D.loose.take (keeps D keep)))) := by
    refine hset.mono ?_
    rintro e w1 ⟨rfl, es', c', hv, hr⟩
    exact ⟨rfl, tail_of (d2 := { d with es2 := es', c2 := c', lv := .slice none 0 0 }) _ hr rfl (by show view es' = _; rw [hv, g5]) g3 g8.room hF⟩
  rcases g2 with ⟨hlv, hnil⟩ | ⟨b, cap, cs, hlv, ha, h1, h2, h3, h4⟩
  · have c5 : w.cell? ⟨p, 5, none⟩ = some (.slice none 0 0) := by rw [← hlv]; exact DskAt.c g1 5
    have hK0 : keeps D keep = 0 := by rw [hnil] at hKL; simpa using hKL
    rw [crashed_end D keep t (by rw [hK0, hnil]; rfl)]
    have e2 : (if 0 < m then 0 else m) = 0 := by split <;> omega
    have hs : Settled S w p 0 (fun w1 => Tail S w w1 p (.map (some d.m1)) (.int .i64 (used (view d.es1))) D (runs D.sure (D.loose.take (keeps D keep)))) := by
      have := hplain
      rw [hK0] at this ⊢
      exact this
    by_cases hlow : t ≤ 0
    · exact walk_none_low keep t m c5 hk.1 hk.2 hm.symm e2 _ _ D _ hs hlow
    · exact walk_none_all keep t m c5 hk.1 hk.2 hm.symm e2 _ _ D _ hs (by omega)
  · have c5 : w.cell? ⟨p, 5, none⟩ = some (.slice (some ⟨b, 0, none⟩) D.loose.length cap) := by rw [← hlv]; exact DskAt.c g1 5
    unfold maxLen at h2
    by_cases hlow : t ≤ 0
    · rw [crashed_low D keep t hlow]
      exact walk_low keep t m (keeps D keep) D.loose.length cap b c5 hk.1 hk.2 hlen h1 h2 hm.symm hK.symm hKL _ _ D _ hplain hlow
    by_cases hend : keeps D keep = D.loose.length
    · rw [crashed_end D keep t hend]
      exact walk_all keep t m (keeps D keep) D.loose.length cap b c5 hk.1 hk.2 hlen h1 h2 hm.symm hK.symm hKL _ _ D _ hplain (by omega) hend
    have hlt : keeps D keep < D.loose.length := by omega
    have hmK : m = (keeps D keep : Int) := by
      rw [hK]; split
      · rename_i hx; rw [if_pos hx] at hK; omega
      · rfl
    have hml : m < D.loose.length := by omega
    have hmn : m.toNat = keeps D keep := by omega
    obtain ⟨dv, tv, x1, x2, x3⟩ := h4 (keeps D keep) hlt
    have hcell : ∀ w1 d1, Ran S w w1 p d1 → w1.cell? ⟨b, m.toNat * 2 + 1, none⟩ = some tv := fun w1 d1 hr => by
      rw [hmn]
      exact (cell_of (hr.plain _ _ ⟨_, _, _, rfl, by decide, by decide⟩ ha.2) _).trans x2
    have hget : D.loose[keeps D keep]? = some D.loose[keeps D keep] := List.getElem?_eq_getElem hlt
    rcases hc : D.loose[keeps D keep] with ⟨k, s⟩ | ⟨k, n⟩ | ⟨j, k⟩ | k
    · rw [hc] at hget x3
      obtain ⟨b1, b2, _, rfl, a1, a2⟩ := x3
      have hok : Cmd.ok (runs D.sure (D.loose.take (keeps D keep))) (.app k s) := oks_at _ _ _ _ g8.oks hget
      rw [crashed_torn D keep t k s hget (by omega)]
      refine walk_torn keep t m D.loose.length cap b c5 hk.1 hk.2 hlen h1 h2 hm.symm hm0 hml (.map (some d.m1)) (.int .i64 (used (view d.es1))) D _ 52 #[pt b1, pt b2] ?_ (by omega)
      rw [hmK]
      refine hset.mono ?_
      rintro e w1 ⟨rfl, es', c', hv, hr⟩
      have hv' : view es' = runs D.sure (D.loose.take (keeps D keep)) := by rw [hv, g5]
      have := hcell w1 _ hr
      rw [hmK] at this
      refine ⟨rfl, this, fun _ _ => by go_simp, ?_⟩
      refine (do_torn (w := w1.drew) false (Bu.DskAt.drew hr.at_) k s t ⟨by omega, ht⟩ (by show Cmd.ok (view es') _; rw [hv']; exact hok) b1 b2 (hr.plain _ _ (plain1 _) a1.2) (hr.plain _ _ (plain1 _) a2.2)).mono ?_
      rintro e w2 ⟨rfl, es2, c2, hv2, hr2⟩
      have hv2' : view es2 = Cmd.run (runs D.sure (D.loose.take (keeps D keep))) (.app k (torn s t)) := by rw [hv2]; show Cmd.run (view es') _ = _; rw [hv']
      have hr3 := Ran.trans hr (Bu.Ran.of_drew hr2)
      have hts := torn_size s t
      exact ⟨rfl, tail_of (d2 := { d with es2 := es2, c2 := c2, lv := .slice none 0 0 }) _ hr3 rfl hv2' g3 g8.room (run_used _ _ (by simp only [Cmd.ok] at hok ⊢; omega) hF)⟩
    all_goals
      rw [hc] at hget x3
      have hnil : tv = .nilFunc := by
        first
          | exact x3.elim
          | (obtain ⟨_, _, _, e, _⟩ := x3; exact e)
          | (obtain ⟨_, _, e, _⟩ := x3; exact e)
      subst hnil
      rw [crashed_other D keep t _ hget (fun _ _ => by simp)]
      refine walk_nil keep t m D.loose.length cap b c5 hk.1 hk.2 hlen h1 h2 hm.symm hm0 hml (.map (some d.m1)) (.int .i64 (used (view d.es1))) D _ ?_ (by omega)
      rw [hmK]
      refine hset.mono ?_
      rintro e w1 ⟨rfl, es', c', hv, hr⟩
      have := hcell w1 _ hr
      rw [hmK] at this
      exact ⟨rfl, tail_of (d2 := { d with es2 := es', c2 := c', lv := .slice none 0 0 }) _ hr rfl (by show view es' = _; rw [hv, g5]) g3 g8.room hF, this⟩
end Go.Proofs.Ytbjemekkpmbhhaa.Ca
