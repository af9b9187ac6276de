/- What a disk holds under a name, whatever is saved, wherever it stands still, whatever a crash leaves: the plain side of ManKeeps. -/
import Derived.Test.YtaoneiicoaiehaaGreatAp11
namespace Go.Proofs.YtaoneiicoaiehaaGreat.Kp11
open Go Go.RowKit Go.Lib Go.Proofs.YtaoneiicoaiehaaGreat Go.Proofs.YtaoneiicoaiehaaGreat.Wm Go.Proofs.YtaoneiicoaiehaaGreat.Fl7 Go.Proofs.YtaoneiicoaiehaaGreat.Dh Go.Proofs.YtaoneiicoaiehaaGreat.Dk Go.Proofs.YtaoneiicoaiehaaGreat.Fm Go.Proofs.YtaoneiicoaiehaaGreat.Cl Go.Proofs.YtaoneiicoaiehaaGreat.Ch Go.Proofs.YtaoneiicoaiehaaGreat.Nm Go.Proofs.YtaoneiicoaiehaaGreat.St Go.Proofs.YtaoneiicoaiehaaGreat.Sy Go.Proofs.YtaoneiicoaiehaaGreat.Ma11 Go.Proofs.YtaoneiicoaiehaaGreat.Tx11 Go.Proofs.YtaoneiicoaiehaaGreat.Pg11 Go.Proofs.YtaoneiicoaiehaaGreat.Gb11 Go.Proofs.YtaoneiicoaiehaaGreat.Sv11 Go.Proofs.YtaoneiicoaiehaaGreat.Ld11 Go.Proofs.YtaoneiicoaiehaaGreat.Ap11
/-- No name twice. -/
def Uq (fs : Fs) : Prop := (fs.map (·.1)).Nodup
theorem get_in {k : ByteArray} : ∀ {fs : Fs}, k ∉ fs.map (·.1) → Fm.get fs k = none
  | [], _ => rfl
  | e :: es, h => by
    simp only [List.map_cons, List.mem_cons, not_or] at h
    rw [Fm.get, if_neg (fun e' => h.1 e'.symm)]
    exact get_in h.2
theorem del_names {k x : ByteArray} : ∀ {fs : Fs}, x ∈ (Fm.del fs k).map (·.1) → x ∈ fs.map (·.1)
  | [], h => h
  | e :: es, h => by
    rw [Fm.del] at h
    split at h
    · exact List.mem_cons_of_mem _ h
    · simp only [List.map_cons, List.mem_cons] at h ⊢
      rcases h with h | h
      · exact .inl h
      · exact .inr (del_names h)
theorem put_names {k x : ByteArray} {t : List UInt8} : ∀ {fs : Fs}, x ∈ (Fm.put fs k t).map (·.1) → x = k ∨ x ∈ fs.map (·.1)
  | [], h => by simp [Fm.put] at h; exact .inl h
  | e :: es, h => by
    rw [Fm.put] at h
    split at h
    · simp only [List.map_cons, List.mem_cons] at h ⊢
      rcases h with h | h
      · exact .inl h
      · exact .inr (.inr h)
    · simp only [List.map_cons, List.mem_cons] at h ⊢
      rcases h with h | h
      · exact .inr (.inl h)
      · exact (put_names h).elim .inl fun y => .inr (.inr y)
theorem uq_del (k : ByteArray) : ∀ {fs : Fs}, Uq fs → Uq (Fm.del fs k)
  | [], h => h
  | e :: es, h => by
    unfold Uq at h ⊢
    rw [List.map_cons, List.nodup_cons] at h
    rw [Fm.del]
    split
    · exact h.2
    · rw [List.map_cons, List.nodup_cons]
      exact ⟨fun hx => h.1 (del_names hx), uq_del k h.2⟩
theorem uq_put (k : ByteArray) (t : List UInt8) : ∀ {fs : Fs}, Uq fs → Uq (Fm.put fs k t)
  | [], _ => by simp [Uq, Fm.put]
  | e :: es, h => by
    unfold Uq at h ⊢
    rw [List.map_cons, List.nodup_cons] at h
    rw [Fm.put]
    split
    · rename_i he
      rw [List.map_cons, List.nodup_cons]
      exact ⟨by rw [← he]; exact h.1, h.2⟩
    · rename_i he
      rw [List.map_cons, List.nodup_cons]
      exact ⟨fun hx => (put_names hx).elim he h.1, uq_put k t h.2⟩
theorem uq_run {fs : Fs} (h : Uq fs) (c : Cmd) : Uq (c.run fs) := by
  cases c with
  | app a s => exact uq_put _ _ h
  | cut a n => exact uq_put _ _ h
  | mov a b => exact uq_del _ (uq_put _ _ h)
  | rem a => exact uq_del _ h
theorem uq_runs : ∀ (l : List Cmd) {fs : Fs}, Uq fs → Uq (runs fs l)
  | [], _, h => h
  | c :: l, _, h => uq_runs l (uq_run h c)
theorem get_del_eq (k : ByteArray) : ∀ {fs : Fs}, Uq fs → Fm.get (Fm.del fs k) k = none
  | [], _ => rfl
  | e :: es, h => by
    unfold Uq at h
    rw [List.map_cons, List.nodup_cons] at h
    rw [Fm.del]
    split
    · rename_i he
      exact get_in (by rw [← he]; exact h.1)
    · rename_i he
      rw [Fm.get, if_neg he]
      exact get_del_eq k h.2
theorem get_del_ne {j k : ByteArray} (hne : j ≠ k) : ∀ {fs : Fs}, Fm.get (Fm.del fs j) k = Fm.get fs k
  | [] => rfl
  | e :: es => by
    rw [Fm.del]
    split
    · rename_i he
      rw [Fm.get, if_neg (fun h => hne (he ▸ h))]
    · rw [Fm.get, Fm.get, get_del_ne hne]
/-- A call that touches the file beside alone. -/
def Neut (j : ByteArray) : Cmd → Prop
  | .app a _ => a = j
  | .rem a => a = j
  | _ => False
theorem get_neut {j k : ByteArray} (hne : j ≠ k) {c : Cmd} (h : Neut j c) (fs : Fs) : Fm.get (c.run fs) k = Fm.get fs k := by
  cases c with
  | app a s => obtain rfl : a = j := h; exact Fm.get_put_ne _ _ _ (fun e => hne e.symm) fs
  | cut a n => exact h.elim
  | mov a b => exact h.elim
  | rem a => obtain rfl : a = j := h; exact get_del_ne hne
theorem get_neuts {j k : ByteArray} (hne : j ≠ k) : ∀ (l : List Cmd) (fs : Fs), (∀ c ∈ l, Neut j c) → Fm.get (runs fs l) k = Fm.get fs k
  | [], _, _ => rfl
  | c :: l, fs, h => by
    show Fm.get (runs (c.run fs) l) k = _
    rw [get_neuts hne l _ (fun x hx => h x (List.mem_cons_of_mem _ hx)), get_neut hne (h c List.mem_cons_self)]
theorem get_mov {j k : ByteArray} (hne : j ≠ k) {fs : Fs} {t : List UInt8} (h : Fm.get fs j = some t) : Fm.get ((Cmd.mov j k).run fs) k = some t := by
  show Fm.get (Fm.del (Fm.put fs k (txt fs j)) j) k = _
  rw [get_del_ne hne, Fm.get_put_eq]
  unfold txt
  rw [h]; rfl
/-- Under name k there is what P allows, now, for good, and whatever a crash leaves. -/
structure Inv (j k : ByteArray) (P : Option (List UInt8) → Prop) (D : St) : Prop where
  uq : Uq D.sure
  now : runs D.sure D.loose = D.now
  sure : P (Fm.get D.sure k)
  loose : (∀ c ∈ D.loose, Neut j c) ∨ ∃ l t, D.loose = .mov j k :: l ∧ (∀ c ∈ l, Neut j c) ∧ Fm.get D.sure j = some t ∧ P (some t)
variable {j k : ByteArray} {P Q : Option (List UInt8) → Prop} {D : St}
theorem Inv.mono (h : Inv j k P D) (hPQ : ∀ c, P c → Q c) : Inv j k Q D := ⟨h.uq, h.now, hPQ _ h.sure, h.loose.elim .inl fun ⟨l, t, h1, h2, h3, h4⟩ => .inr ⟨l, t, h1, h2, h3, hPQ _ h4⟩⟩
/-- What stands there behind any number of the loose calls. -/
theorem Inv.part (hne : j ≠ k) (h : Inv j k P D) (n : Nat) : P (Fm.get (runs D.sure (D.loose.take n)) k) := by
  rcases h.loose with hl | ⟨l, t, h1, h2, h3, h4⟩
  · rw [get_neuts hne _ _ (fun c hc => hl c (List.mem_of_mem_take hc))]; exact h.sure
  · rw [h1]
    cases n with
    | zero => exact h.sure
    | succ n =>
      rw [List.take_succ_cons]
      show P (Fm.get (runs ((Cmd.mov j k).run D.sure) (l.take n)) k)
      rw [get_neuts hne _ _ (fun c hc => h2 c (List.mem_of_mem_take hc)), get_mov hne h3]
      exact h4
theorem Inv.here (hne : j ≠ k) (h : Inv j k P D) : P (Fm.get D.now k) := by
  have := h.part hne D.loose.length
  rwa [List.take_length, h.now] at this
theorem Inv.uqn (h : Inv j k P D) : Uq D.now := by rw [← h.now]; exact uq_runs _ h.uq
theorem Inv.crash (hne : j ≠ k) (h : Inv j k P D) (n t : Int) : Inv j k P (stCrash D n t) := by
  have key : P (Fm.get (crashed D n t) k) ∧ Uq (crashed D n t) := by
    unfold crashed
    split
    · rename_i a s ha
      have hna : a = j := by
        have hm := List.mem_of_getElem? ha
        rcases h.loose with hl | ⟨l, t', h1, h2, _, _⟩
        · exact hl _ hm
        · rw [h1] at hm
          rcases List.mem_cons.1 hm with e | e
          · cases e
          · exact h2 _ e
      split
      · refine ⟨?_, uq_run (uq_runs _ h.uq) _⟩
        rw [get_neut hne (c := .app a (Cl.torn s t)) hna]
        exact h.part hne _
      · exact ⟨h.part hne _, uq_runs _ h.uq⟩
    · exact ⟨h.part hne _, uq_runs _ h.uq⟩
  exact ⟨key.2, rfl, key.1, .inl fun c hc => by cases hc⟩
theorem Inv.fuse (h : Inv j k P D) (n : Int) : Inv j k P (stFuse D n) := by
  unfold stFuse
  split
  · exact ⟨h.uq, h.now, h.sure, h.loose⟩
  · exact ⟨h.uq, h.now, h.sure, h.loose⟩
theorem doing_cases (D : St) (c : Cmd) : (∃ f, doing D c = (0, { D with now := c.run D.now, loose := D.loose ++ [c], fuse := f })) ∨ doing D c = (20, { D with still := true }) := by
  by_cases h1 : D.fuse = -1
  · exact .inl ⟨D.fuse, by rw [doing_free c h1]⟩
  · by_cases h2 : D.fuse = 0
    · exact .inr (doing_out c h2)
    · refine .inl ⟨D.fuse - 1, ?_⟩
      have hb : burnt D = (0, { D with fuse := D.fuse - 1 }) := by unfold burnt; rw [if_neg h1, if_neg h2]
      unfold doing
      rw [hb, if_pos rfl]
theorem sync_cases (hs : D.still = false) : (∃ f, stSync D = (0, { D with sure := D.now, loose := [], fuse := f })) ∨ stSync D = (20, { D with still := true }) := by
  unfold stSync
  rw [if_neg (by rw [hs]; simp)]
  unfold burnt
  split
  · exact .inl ⟨D.fuse, rfl⟩
  · split
    · exact .inr rfl
    · exact .inl ⟨D.fuse - 1, rfl⟩
theorem Inv.still (h : Inv j k P D) : Inv j k P { D with still := true } := ⟨h.uq, h.now, h.sure, h.loose⟩
theorem Inv.step (h : Inv j k P D) {c : Cmd} (hc : Neut j c) (f : Int) : Inv j k P { D with now := c.run D.now, loose := D.loose ++ [c], fuse := f } := by
  refine ⟨h.uq, ?_, h.sure, ?_⟩
  · show runs D.sure (D.loose ++ [c]) = _
    rw [runs_snoc, h.now]
  · have hin : ∀ (l : List Cmd), (∀ x ∈ l, Neut j x) → ∀ x ∈ l ++ [c], Neut j x := fun l hl x hx => by
      rcases List.mem_append.1 hx with e | e
      · exact hl x e
      · rw [List.mem_singleton] at e; rw [e]; exact hc
    rcases h.loose with hl | ⟨l, t, h1, h2, h3, h4⟩
    · exact .inl (hin _ hl)
    · exact .inr ⟨l ++ [c], t, by show D.loose ++ [c] = _; rw [h1]; rfl, hin _ h2, h3, h4⟩
theorem Inv.sync (hne : j ≠ k) (h : Inv j k P D) (f : Int) : Inv j k P { D with sure := D.now, loose := [], fuse := f } :=
  ⟨h.uqn, rfl, h.here hne, .inl fun c hc => by cases hc⟩
/-- A Save's steps. -/
theorem inv_follow (hj : nameOk j = true) (hk : nameOk k = true) (hne : j ≠ k) (h : Inv j k P D) (x : ByteArray) :
    ((Sv11.follow (steps j k x) D).1 = 0 ∧ Inv j k (fun c => c = some x.data.toList) (Sv11.follow (steps j k x) D).2) ∨
    ((Sv11.follow (steps j k x) D).1 = 20 ∧ Inv j k (fun c => P c ∨ c = some x.data.toList) (Sv11.follow (steps j k x) D).2) ∨
    ((Sv11.follow (steps j k x) D).1 = 4 ∧ Inv j k P (Sv11.follow (steps j k x) D).2) := by
  unfold steps
  have down : ∀ {D' : St} {f : St → Int × St} {l : List (St → Int × St)} {E : St}, Inv j k (fun c => P c ∨ c = some x.data.toList) E → f D' = (20, E) →
      ((Sv11.follow (f :: l) D').1 = 0 ∧ Inv j k (fun c => c = some x.data.toList) (Sv11.follow (f :: l) D').2) ∨
      ((Sv11.follow (f :: l) D').1 = 20 ∧ Inv j k (fun c => P c ∨ c = some x.data.toList) (Sv11.follow (f :: l) D').2) ∨
      ((Sv11.follow (f :: l) D').1 = 4 ∧ Inv j k P (Sv11.follow (f :: l) D').2) := by
    intro D' f l E hE hf
    rw [follow_bad hf (by omega)]
    exact .inr (.inl ⟨rfl, hE⟩)
  have up : ∀ {E : St}, Inv j k P E → Inv j k (fun c => P c ∨ c = some x.data.toList) E := fun hE => hE.mono fun _ => .inl
  by_cases hs : D.still = true
  · have hr : dropS D j = (20, D) := by
      have : stRemove D j = (20, D) := by unfold stRemove; rw [if_pos hs]
      unfold dropS
      rw [this, if_neg (by simp)]
    exact down (up h) hr
  · have hs0 : D.still = false := by simpa using hs
    -- the file beside is taken away
    have hdrop : (∃ D1, dropS D j = (0, D1) ∧ Inv j k P D1 ∧ D1.still = false ∧ Fm.get D1.now j = none) ∨ (∃ E, dropS D j = (20, E) ∧ Inv j k P E) := by
      cases hg : Fm.get D.now j with
      | none => exact .inl ⟨D, drop_none hs0 hj hg, h, hs0, hg⟩
      | some t =>
        have hr : stRemove D j = doing D (.rem j) := by
          unfold stRemove
          rw [if_neg (by rw [hs0]; simp), if_neg (by rw [hj]; simp), hg]
        rcases doing_cases D (.rem j) with ⟨f, hd⟩ | hd
        · refine .inl ⟨_, ?_, h.step (c := .rem j) rfl f, hs0, get_del_eq j h.uqn⟩
          unfold dropS
          rw [hr, hd, if_neg (by simp)]
        · refine .inr ⟨_, ?_, h.still⟩
          unfold dropS
          rw [hr, hd, if_neg (by simp)]
    rcases hdrop with ⟨D1, hd1, h1, hs1, hg1⟩ | ⟨E, hd1, hE⟩
    · rw [follow_ok hd1]
      -- its bytes are written
      by_cases hroom : x.size ≠ 0 ∧ D1.room < used D1.now + x.size
      · have ha : stAppend D1 j x = (4, D1) := by
          unfold stAppend
          rw [if_neg (by rw [hs1]; simp), if_neg (by rw [hj]; simp), if_pos hroom]
        rw [follow_bad ha (by omega)]
        exact .inr (.inr ⟨rfl, h1⟩)
      · have ha : stAppend D1 j x = doing D1 (.app j x) := by
          unfold stAppend
          rw [if_neg (by rw [hs1]; simp), if_neg (by rw [hj]; simp), if_neg hroom]
        rcases doing_cases D1 (.app j x) with ⟨f, hd⟩ | hd
        · have h2 := h1.step (c := .app j x) rfl f
          rw [follow_ok (ha.trans hd)]
          have hg2 : Fm.get ((Cmd.app j x).run D1.now) j = some x.data.toList := by
            show Fm.get (Fm.put D1.now j (txt D1.now j ++ x.data.toList)) j = _
            rw [Fm.get_put_eq]
            unfold txt
            rw [hg1]; rfl
          generalize hD2 : ({ D1 with now := (Cmd.app j x).run D1.now, loose := D1.loose ++ [.app j x], fuse := f } : St) = D2 at h2 ⊢
          have hs2 : D2.still = false := by rw [← hD2]; exact hs1
          have hg2' : Fm.get D2.now j = some x.data.toList := by rw [← hD2]; exact hg2
          -- it is for good
          rcases sync_cases hs2 with ⟨f2, hy⟩ | hy
          · have h3 := h2.sync hne f2
            rw [follow_ok hy]
            generalize hD3 : ({ D2 with sure := D2.now, loose := [], fuse := f2 } : St) = D3 at h3 ⊢
            have hs3 : D3.still = false := by rw [← hD3]; exact hs2
            have hg3 : Fm.get D3.now j = some x.data.toList := by rw [← hD3]; exact hg2'
            have hn3 : D3.sure = D3.now := by rw [← hD3]
            have hl3 : D3.loose = [] := by rw [← hD3]
            have hrn := rename_do hs3 hj hk hne hg3
            -- it takes the place
            rcases doing_cases D3 (.mov j k) with ⟨f3, hd3⟩ | hd3
            · have h4 : Inv j k (fun c => P c ∨ c = some x.data.toList) { D3 with now := (Cmd.mov j k).run D3.now, loose := D3.loose ++ [.mov j k], fuse := f3 } := by
                refine ⟨h3.uq, ?_, .inl h3.sure, .inr ⟨[], x.data.toList, ?_, ?_, ?_, ?_⟩⟩
                · show runs D3.sure (D3.loose ++ [.mov j k]) = _
                  rw [runs_snoc, h3.now]
                · show D3.loose ++ _ = _
                  rw [hl3]; rfl
                · intro c hc; cases hc
                · show Fm.get D3.sure j = _
                  rw [hn3]; exact hg3
                · exact .inr rfl
              rw [follow_ok (hrn.trans hd3)]
              have hg4 : Fm.get ((Cmd.mov j k).run D3.now) k = some x.data.toList := get_mov hne hg3
              generalize hD4 : ({ D3 with now := (Cmd.mov j k).run D3.now, loose := D3.loose ++ [.mov j k], fuse := f3 } : St) = D4 at h4 ⊢
              have hs4 : D4.still = false := by rw [← hD4]; exact hs3
              have hg4' : Fm.get D4.now k = some x.data.toList := by rw [← hD4]; exact hg4
              rcases sync_cases hs4 with ⟨f4, hy4⟩ | hy4
              · rw [follow_ok hy4]
                exact .inl ⟨rfl, h4.uqn, rfl, hg4', .inl fun c hc => by cases hc⟩
              · exact down h4.still hy4
            · exact down (up h3.still) (hrn.trans hd3)
          · exact down (up h2.still) hy
        · exact down (up h1.still) (ha.trans hd)
    · exact down (up hE) hd1
/-- What is loaded: the disk stands still, or there is nothing, or what P allows. -/
theorem inv_load (hk : nameOk k = true) (hne : j ≠ k) (h : Inv j k P D) :
    (stRead D k 0 16777216).2 = 20 ∨ ((stRead D k 0 16777216).2 = 3 ∧ P none) ∨ (∃ t, (stRead D k 0 16777216) = (t.take 16777216, 0) ∧ P (some t)) := by
  unfold stRead
  split
  · exact .inl rfl
  · rw [if_neg (by rw [hk]; simp), if_neg (by omega)]
    have hh := h.here hne
    cases hg : Fm.get D.now k with
    | none => rw [hg] at hh; exact .inr (.inl ⟨rfl, hh⟩)
    | some t =>
      rw [hg] at hh
      refine .inr (.inr ⟨t, ?_, hh⟩)
      show ((t.drop 0).take _, (0 : Int)) = _
      rw [List.drop_zero]; rfl
end Go.Proofs.YtaoneiicoaiehaaGreat.Kp11
