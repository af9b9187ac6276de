/- The contract of disk.Flip. -/
import Derived.Test.YtmnaamjoikfpbaaFl10
import Derived.Test.YtmnaamjoikfpbaaRe10
namespace Go.Proofs.Ytmnaamjoikfpbaa.Fp10
open Go Go.RowKit Go.Lib Go.Proofs.Ytmnaamjoikfpbaa.Mp Go.Proofs.Ytmnaamjoikfpbaa.Dh Go.Proofs.Ytmnaamjoikfpbaa.Ext Go.Proofs.Ytmnaamjoikfpbaa.Bc Go.Proofs.Ytmnaamjoikfpbaa.Fm Go.Proofs.Ytmnaamjoikfpbaa.Dk Go.Proofs.Ytmnaamjoikfpbaa.Cm Go.Proofs.Ytmnaamjoikfpbaa.Cl Go.Proofs.Ytmnaamjoikfpbaa.Bu Go.Proofs.Ytmnaamjoikfpbaa.Ch Go.Proofs.Ytmnaamjoikfpbaa.Nm Go.Proofs.Ytmnaamjoikfpbaa.St Go.Proofs.Ytmnaamjoikfpbaa.Ap Go.Proofs.Ytmnaamjoikfpbaa.Tr Go.Proofs.Ytmnaamjoikfpbaa.Rd Go.Proofs.Ytmnaamjoikfpbaa.Fl10
open Go.ChangeMaps (setBlock)
theorem get_txt {fs : Fs} {k : ByteArray} {t : List UInt8} (h : get fs k = some t) : txt fs k = t := by unfold txt; rw [h]; rfl
theorem turn_any {S : Nat → Prop} {w : World} {p : Nat} {d : Dsk} (b : Bool) (h : DskAt w S p d) (k : ByteArray) (t : List UInt8) (hg : get (view (d.es b)) k = some t) (hb : t.length ≤ 1099511627776) (o bit : Nat) (ho : o < t.length) (hbit : bit < 8) :
    Calls Try.prog 41 #[.pointer (some ⟨p, off b, none⟩), .string k, .int .i64 (o : Int), .int .i64 (bit : Int)] w fun e w' => e = .returned (.tuple #[]) ∧
      ∃ es' c', view es' = Fm.put (view (d.es b)) k (t.set o (turned (t[o]) bit)) ∧ Ran S w w' p (d.put es' c' b) := by
  have hmb := h.map b
  have hmp : p ≠ d.m b := fun e => by have := hmb.2; rw [← e, h.blk.2] at this; cases this
  have hfl := DskAt.file h b k
  rw [get_txt hg] at hfl
  refine (turn_walk S w p (off b) (d.m b) d.cells 65 (d.es b) (d.c b) k _ t o bit h.blk.2 (cells_off d b) hmb.2 rfl hfl hb ho hbit).mono ?_
  rintro e w' ⟨rfl, v', w1, hf, hal⟩
  obtain ⟨t', ht'⟩ : ∃ t', t' = t.set o (turned (t[o]) bit) := ⟨_, rfl⟩
  have hl' : t'.length = t.length := by rw [ht', List.length_set]
  rw [← ht'] at hf hal ⊢
  refine ⟨rfl, put (d.es b) k v' t' (d.c b), clockOf (d.es b) k (d.c b), view_put .., ?_⟩
  obtain ⟨hh, ho1, ho2, ho3⟩ := hal
  have hp1 := hf.plain p _ h.blk.2
  have hm1 : w1.heap[d.m b]? = some (obj (d.es b) (d.c b)) := hf.plain _ _ hmb.2
  refine mkRan b h hf.touch (fun x ob _ _ hx => hf.plain x ob hx) _ _ ?_ ((h.wf b).put ..) ⟨_, hp1⟩ ?_ ?_ ?_ ?_ ⟨ho1, ho2, ho3⟩
  · rcases hfd : find (d.es b) k with _ | e
    · rw [put_miss k _ _ _ _ hfd]
      exact (Texts.fresh (h.tx b) hf k (d.c b)).perm (perm_end ..).symm
    · obtain ⟨pre, post, h1, h2, _⟩ := put_split k v' t' (d.c b) (d.es b) e hfd
      rw [h2]
      have htx' : Texts w S (e :: (pre ++ post ++ d.es (!b))) := by have := h.tx b; rw [h1] at this; exact this.perm (perm_mid ..)
      exact (Texts.fresh htx'.tail hf k e.born).perm (perm_mid ..).symm
  · rw [hh, setBlock_ne _ _ _ _ hmp, hp1, ← cells_put, view_put]
    have hu' := used_put k t' (view (d.es b))
    rw [get_txt hg, hl'] at hu'
    have he : used (Fm.put (view (d.es b)) k t') = used (view (d.es b)) := by omega
    rw [he]
    have hc : d.cells.setIfInBounds (off b + 1) (.int .i64 ((used (view (d.es b)) : Nat) : Int)) = d.cells := by cases b <;> rfl
    rw [hc]
  · rw [hh]
    exact setBlock_at _ _ _ _ hm1
  · intro x hxp hxm
    rw [hh, setBlock_ne _ _ _ _ hxm]
  · rw [hh, setBlock_size]
/-- The disk with a bit turned. -/
def flipped (D : St) (k : ByteArray) (t : List UInt8) (o bit : Nat) (ho : o < t.length) : St := { D with now := Fm.put D.now k (t.set o (turned (t[o]) bit)), sure := Fm.put D.sure k (t.set o (turned (t[o]) bit)) }
set_option maxRecDepth 20000 in
set_option maxHeartbeats 2000000 in
theorem flip_any {S : Nat → Prop} {w : World} {p : Nat} {D : St} (h : Full w S p D) (k : ByteArray) (hk : k.size ≤ maxLen) (t : List UInt8) (hst : D.still = false) (hnm : nameOk k = true) (hg : get D.now k = some t) (hlo : D.loose = []) (o bit : Nat) (ho : o < t.length) (hbit : bit < 8) :
    Calls Try.prog 21 #[.pointer (some ⟨p, 0, none⟩), .string k, .int .i64 (o : Int), .int .i64 (bit : Int)] w fun e w' => e = .returned (.int .i64 0) ∧ To S w w' p (flipped D k t o bit ho) := by
  have ht := To.alloc h (cap1 (.string k))
  have hnew := heap_new w (cap1 (.string k))
  obtain ⟨W, hW⟩ : ∃ W, W = w.alloc (cap1 (.string k)) := ⟨_, rfl⟩
  rw [← hW] at ht hnew
  obtain ⟨d, g1, g2, g3, g4, g5, g6, g7, g8⟩ := ht.2
  have htl : t.length ≤ 1099511627776 := by
    have h1 := txt_le k D.now
    rw [get_txt hg] at h1
    have := g8.now
    omega
  have hns : D.now = D.sure := by
    have := g8.runs
    rw [hlo] at this
    exact this.symm
  have hst' : d.still = false := by rw [g7, hst]
  have HR0 := ready_names g1 hst' [k] w.heap.size 1 (fun i hi => by
    have : i = 0 := by simpa using hi
    subst this; rw [cell_of hnew]; rfl) (by simpa using hk) (by simp)
  rw [single, hnm] at HR0
  have HR := Lib.hid HR0
  have c1 : W.cell? ⟨p, 1, none⟩ = some (.map (some d.m1)) := DskAt.c g1 1
  obtain ⟨la, lc, hlv⟩ := Co.LooseAt.shape g2
  rw [hlo] at hlv
  have c5 : W.cell? ⟨p, 5, none⟩ = some (.slice la 0 lc) := by rw [DskAt.c g1 5]; show some d.lv = _; rw [hlv]; rfl
  obtain ⟨v, htx, hlook⟩ := look_some g1 k t (by rw [g4]; exact hg)
  have hlook := hlook 0
  change (Instr.lookup _ _ _ _).run _ W = .ok _ W at hlook
  obtain ⟨va, vc, rfl, hcp, hcm⟩ := TextAt.len htx
  obtain ⟨t', ht'⟩ : ∃ t', t' = t.set o (turned (t[o]) bit) := ⟨_, rfl⟩
  have hl' : t'.length = t.length := by rw [ht', List.length_set]
  have hT1 := turn_any true g1 k t (by show get (view d.es1) k = _; rw [g4]; exact hg) htl o bit ho hbit
  rw [← ht'] at hT1
  have hT2 : ∀ (w1 : World) (es' : List Ent) (c' : Nat), view es' = Fm.put (view d.es1) k t' → Ran (grow S w W) W w1 p (d.put es' c' true) →
      Calls Try.prog 41 #[.pointer (some ⟨p, 3, none⟩), .string k, .int .i64 (o : Int), .int .i64 (bit : Int)] w1 fun e w' => e = .returned (.tuple #[]) ∧ To S w w' p (flipped D k t o bit ho) := fun w1 es' c' hv hr => by
    have h2 := turn_any false hr.at_ k t (by show get (view d.es2) k = _; rw [g5, ← hns]; exact hg) htl o bit ho hbit
    rw [← ht'] at h2
    refine h2.mono ?_
    rintro e w2 ⟨rfl, es2, c2, hv2, hr2⟩
    have hR := Ran.trans hr hr2
    refine ⟨rfl, To.trans ht ⟨hR.tread, _, hR.at_, ?_, g3, ?_, ?_, g6, g7, ?_⟩⟩
    · have := LooseAt.keep g2 (Ch.Ran.keepPlain hR)
      exact this
    · show view es' = Fm.put D.now k (t.set o (turned (t[o]) bit))
      rw [hv, ← ht', g4]
    · show view es2 = Fm.put D.sure k (t.set o (turned (t[o]) bit))
      rw [hv2, ← ht']
      show Fm.put (view d.es2) k t' = _
      rw [g5]
    · have hu : used (Fm.put D.sure k t') ≤ 16777216 := by
        have h1 := used_put k t' D.sure
        rw [get_txt (show get D.sure k = some t by rw [← hns]; exact hg), hl'] at h1
        have := g8.used
        omega
      refine ⟨?_, ?_, by show used (Fm.put D.sure k (t.set o (turned (t[o]) bit))) ≤ _; rw [← ht']; exact hu, g8.room, g8.fuse⟩
      · show oks _ D.loose
        rw [hlo]; trivial
      · show runs (Fm.put D.sure k _) D.loose = Fm.put D.now k _
        rw [hlo, hns]; rfl
  have o1 : ¬ (t.length : Int) ≤ (o : Int) := by omega
  have o2 : ¬ (o : Int) < 0 := by omega
  have o3 : ¬ (bit : Int) < 0 := by omega
  have o4 : ¬ (bit : Int) > 7 := by omega
  have o5 : ¬ (o : Int) ≥ (t.length : Int) := by omega
  have HT1 := Lib.hid hT1
  have HT2 := Lib.hid hT2
  have HLk := Lib.hid hlook
  have HW := Lib.hid hW
  obtain ⟨m1, hm1⟩ : ∃ m1, m1 = d.m1 := ⟨_, rfl⟩
  rw [hW] at HR HLk c1 c5
  clear hT1 hT2 hlook hW g1 g2 g3 g4 g5 g6 g7 g8 ht hnew h hst' HR0 hlv htx hns hg hlo hcm hcp hl' ht' htl hst hm1
  go_enter Try.func21, Try.ntmps21
  go_wp2_with (first
    | (go_at_call 40; refine HR.out.mono ?_; rintro e w1 ⟨rfl, rfl⟩)
    | (at_lookup; refine wpList_look _ rfl _ _ rfl d.m1 k _ _ rfl rfl HLk.out ?_)
    | (go_at_call 41; rw [← HW.out]; refine HT1.out.mono ?_; rintro e w2 ⟨rfl, es', c', hv, hr⟩; have HQ := Lib.hid (HT2.out w2 es' c' hv hr); clear hv hr)
    | (go_at_call 41; refine HQ.out.mono ?_; rintro e w3 ⟨rfl, hto⟩; have HO := Lib.hid hto; clear hto))
  go_ret
  exact ⟨rfl, HO.out⟩
end Go.Proofs.Ytmnaamjoikfpbaa.Fp10
