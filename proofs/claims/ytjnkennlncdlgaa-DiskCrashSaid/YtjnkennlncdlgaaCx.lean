/- DiskCrash on the plain side: what the calls come to, and what a crash leaves. -/
import Derived.Test.YtjnkennlncdlgaaHs
namespace Go.Proofs.Ytjnkennlncdlgaa.Cx
open Go Go.RowKit Go.Lib Go.Proofs.Ytjnkennlncdlgaa.Mp Go.Proofs.Ytjnkennlncdlgaa.Dh Go.Proofs.Ytjnkennlncdlgaa.Fm Go.Proofs.Ytjnkennlncdlgaa.Dk Go.Proofs.Ytjnkennlncdlgaa.Cl Go.Proofs.Ytjnkennlncdlgaa.Nm Go.Proofs.Ytjnkennlncdlgaa.St Go.Proofs.Ytjnkennlncdlgaa.Ap Go.Proofs.Ytjnkennlncdlgaa.Sy Go.Proofs.Ytjnkennlncdlgaa.Hs
def cmdOf (s : Sx) : Cmd := if s.o = 1 then .app s.x s.y else if s.o = 2 then .cut s.x s.n.toNat else if s.o = 3 then .mov s.x s.y else .rem s.x
structure Fine (D : St) (k : Nat) : Prop where
  fuse : D.fuse = -1
  still : D.still = false
  loose : D.loose.length ≤ k
  names : ∀ e ∈ D.now, nameOk e.1 = true
  len : D.now.length ≤ k
theorem Fine.up {D : St} {k m : Nat} (h : Fine D k) (hm : k ≤ m) : Fine D m := ⟨h.fuse, h.still, by have := h.loose; omega, h.names, by have := h.len; omega⟩
theorem mem_put (k : ByteArray) (t : List UInt8) : ∀ (fs : Fs) (e : ByteArray × List UInt8), e ∈ Fm.put fs k t → e.1 = k ∨ ∃ e' ∈ fs, e'.1 = e.1
  | [], e, h => by simp [Fm.put] at h; exact .inl (by rw [h])
  | x :: fs, e, h => by
    unfold Fm.put at h
    split at h
    · rcases List.mem_cons.1 h with rfl | h
      · exact .inl rfl
      · exact .inr ⟨e, List.mem_cons_of_mem _ h, rfl⟩
    · rcases List.mem_cons.1 h with rfl | h
      · exact .inr ⟨e, List.mem_cons_self .., rfl⟩
      · rcases mem_put k t fs e h with h | ⟨e', h1, h2⟩
        · exact .inl h
        · exact .inr ⟨e', List.mem_cons_of_mem _ h1, h2⟩
theorem mem_del (k : ByteArray) : ∀ (fs : Fs) (e : ByteArray × List UInt8), e ∈ Fm.del fs k → e ∈ fs
  | [], e, h => by simp [Fm.del] at h
  | x :: fs, e, h => by
    unfold Fm.del at h
    split at h
    · exact List.mem_cons_of_mem _ h
    · rcases List.mem_cons.1 h with rfl | h
      · exact List.mem_cons_self ..
      · exact List.mem_cons_of_mem _ (mem_del k fs e h)
theorem len_put (k : ByteArray) (t : List UInt8) : ∀ fs : Fs, (Fm.put fs k t).length ≤ fs.length + 1
  | [] => by simp [Fm.put]
  | x :: fs => by
    have := len_put k t fs
    unfold Fm.put
    split <;> simp <;> omega
theorem len_del (k : ByteArray) : ∀ fs : Fs, (Fm.del fs k).length ≤ fs.length
  | [] => by simp [Fm.del]
  | x :: fs => by
    have := len_del k fs
    unfold Fm.del
    split <;> simp <;> omega
theorem names_put {fs : Fs} {k : ByteArray} {t : List UInt8} (h : ∀ e ∈ fs, nameOk e.1 = true) (hk : nameOk k = true) : ∀ e ∈ Fm.put fs k t, nameOk e.1 = true := by
  intro e he
  rcases mem_put k t fs e he with h1 | ⟨e', h1, h2⟩
  · rw [h1]; exact hk
  · rw [← h2]; exact h e' h1
theorem names_run {fs : Fs} {s : Sx} (h : ∀ e ∈ fs, nameOk e.1 = true) (hx : nameOk s.x = true) (hy : s.o = 3 → nameOk s.y = true) : ∀ e ∈ (cmdOf s).run fs, nameOk e.1 = true := by
  unfold cmdOf
  split
  · exact names_put h hx
  · split
    · exact names_put h hx
    · split
      · rename_i h3
        exact fun e he => names_put h (hy h3) e (mem_del _ _ e he)
      · exact fun e he => h e (mem_del _ _ e he)
theorem len_run (fs : Fs) (s : Sx) : ((cmdOf s).run fs).length ≤ fs.length + 1 := by
  unfold cmdOf
  split
  · exact len_put _ _ _
  · split
    · exact len_put _ _ _
    · split
      · exact Nat.le_trans (len_del _ _) (len_put _ _ _)
      · exact Nat.le_trans (len_del _ _) (Nat.le_succ _)
theorem doing_neg {D : St} (h : D.fuse = -1) (c : Cmd) : doing D c = (0, { D with now := c.run D.now, loose := D.loose ++ [c] }) := by
  unfold doing
  rw [burnt_neg h]
  rfl
/-- What a call comes to on a disk that does not stand still and has no fuse. -/
def Call2 (D : St) (s : Sx) : Prop :=
  (∃ e, e ≠ 0 ∧ stCall D s = (e, D)) ∨ (stCall D s = (0, { D with now := (cmdOf s).run D.now, loose := D.loose ++ [cmdOf s] }) ∧ nameOk s.x = true ∧ (s.o = 3 → nameOk s.y = true))
theorem call2 {D : St} (hf : D.fuse = -1) (hs : D.still = false) (s : Sx) : Call2 D s := by
  have hst : ¬ D.still = true := by rw [hs]; decide
  unfold Call2 stCall cmdOf
  split
  · rename_i h1
    unfold stAppend
    rw [if_neg hst]
    split
    · exact .inl ⟨2, by decide, rfl⟩
    · rename_i hn
      split
      · exact .inl ⟨4, by decide, rfl⟩
      · exact .inr ⟨doing_neg hf _, by simpa using hn, fun h => by omega⟩
  · split
    · rename_i h1 h2
      unfold stTruncate
      rw [if_neg hst]
      split
      · exact .inl ⟨2, by decide, rfl⟩
      · rename_i hn
        split
        · exact .inl ⟨2, by decide, rfl⟩
        · split
          · exact .inl ⟨3, by decide, rfl⟩
          · split
            · exact .inl ⟨2, by decide, rfl⟩
            · exact .inr ⟨doing_neg hf _, by simpa using hn, fun h => by omega⟩
    · split
      · unfold stRename
        rw [if_neg hst]
        split
        · exact .inl ⟨2, by decide, rfl⟩
        · rename_i hn
          split
          · exact .inl ⟨2, by decide, rfl⟩
          · split
            · exact .inl ⟨3, by decide, rfl⟩
            · have hn' : nameOk s.x = true ∧ nameOk s.y = true := by simpa [not_or] using hn
              exact .inr ⟨doing_neg hf _, hn'.1, fun _ => hn'.2⟩
      · rename_i h3
        unfold stRemove
        rw [if_neg hst]
        split
        · exact .inl ⟨2, by decide, rfl⟩
        · rename_i hn
          split
          · exact .inl ⟨3, by decide, rfl⟩
          · exact .inr ⟨doing_neg hf _, by simpa using hn, fun h => absurd h h3⟩
theorem fine_call {D : St} {k : Nat} (h : Fine D k) (s : Sx) : Fine (stCall D s).2 (k + 1) := by
  rcases call2 h.fuse h.still s with ⟨e, _, he⟩ | ⟨he, hx, hy⟩
  · rw [he]; exact h.up (by omega)
  · rw [he]
    refine ⟨h.fuse, h.still, ?_, names_run h.names hx hy, ?_⟩
    · have := h.loose; simp; omega
    · have := h.len; have := len_run D.now s; show ((cmdOf s).run D.now).length ≤ _; omega
theorem call_fail {D : St} {k : Nat} (h : Fine D k) (s : Sx) (he : (stCall D s).1 ≠ 0) : (stCall D s).2 = D := by
  rcases call2 h.fuse h.still s with ⟨e, _, h1⟩ | ⟨h1, _⟩
  · rw [h1]
  · rw [h1] at he; exact absurd rfl he
theorem call_ok {D : St} (hf : D.fuse = -1) (hs : D.still = false) (s : Sx) (he : (stCall D s).1 = 0) : (stCall D s).2 = { D with now := (cmdOf s).run D.now, loose := D.loose ++ [cmdOf s] } := by
  rcases call2 hf hs s with ⟨e, h0, h1⟩ | ⟨h1, _⟩
  · rw [h1] at he; exact absurd he h0
  · rw [h1]
theorem call_bound {D : St} {k : Nat} (h : Fine D k) (s : Sx) : 0 ≤ (stCall D s).1 ∧ (stCall D s).1 ≤ 20 := by
  rcases res_call D s with ⟨h, _⟩ | ⟨_, h1, h2, _⟩
  · omega
  · omega
theorem fine_sync {D : St} {k : Nat} (h : Fine D k) : stSync D = (0, { D with sure := D.now, loose := [] }) := by
  unfold stSync
  rw [if_neg (by rw [h.still]; decide), burnt_neg h.fuse]
  rfl
def rep (X : St) (l : List Sx) : St := l.foldl (fun D s => (stCall D s).2) X
def AllOk (X : St) (l : List Sx) : Prop := ∀ i (h : i < l.length), (stCall (rep X (l.take i)) l[i]).1 = 0
theorem rep_snoc (X : St) (l : List Sx) (s : Sx) : rep X (l ++ [s]) = (stCall (rep X l) s).2 := by simp [rep]
theorem rep_succ (X : St) (l : List Sx) (i : Nat) (h : i < l.length) : rep X (l.take (i + 1)) = (stCall (rep X (l.take i)) l[i]).2 := by
  rw [List.take_succ_eq_append_getElem h, rep_snoc]
theorem AllOk.snoc {X : St} {l : List Sx} {s : Sx} (h : AllOk X l) (hs : (stCall (rep X l) s).1 = 0) : AllOk X (l ++ [s]) := by
  intro i hi
  by_cases hil : i < l.length
  · have := h i hil
    rw [List.take_append_of_le_length (by omega), List.getElem_append_left hil]; exact this
  · have : i = l.length := by simp at hi; omega
    subst this
    simp
    exact hs
theorem rep_take {X : St} (hf : X.fuse = -1) (hs : X.still = false) {l : List Sx} (h : AllOk X l) : ∀ i, i ≤ l.length →
    rep X (l.take i) = { X with now := runs X.now ((l.take i).map cmdOf), loose := X.loose ++ (l.take i).map cmdOf }
  | 0, _ => by simp [rep, runs]
  | i + 1, hi => by
    have ih := rep_take hf hs h i (by omega)
    rw [rep_succ X l i (by omega)]
    have h0 := h i (by omega)
    rw [call_ok (by rw [ih]; exact hf) (by rw [ih]; exact hs) _ h0, ih, List.take_succ_eq_append_getElem (by omega), List.map_append, List.map_cons, List.map_nil]
    simp [runs]
theorem rep_all {X : St} (hf : X.fuse = -1) (hs : X.still = false) {l : List Sx} (h : AllOk X l) : rep X l = { X with now := runs X.now (l.map cmdOf), loose := X.loose ++ l.map cmdOf } := by
  have := rep_take hf hs h l.length (Nat.le_refl _)
  rwa [List.take_length] at this
theorem fine_rep {X : St} {k : Nat} (h : Fine X k) : ∀ l : List Sx, Fine (rep X l) (k + l.length) := by
  intro l
  induction l generalizing X k with
  | nil => exact h
  | cons s l ih => exact (ih (fine_call h s)).up (by simp; omega)
def tornS (s : Sx) (t : Int) : Sx := { s with y := Cl.torn s.y t }
def Kp (done : List Sx) (keep : Int) : Nat := (min (max keep 0) done.length).toNat
/-- Is there a piece of an Append? -/
def Piece (done : List Sx) (keep t : Int) : Prop := ∃ h : Kp done keep < done.length, done[Kp done keep].o = 1 ∧ 0 < t
/-- The other disk's state, when k of the calls are done to it. -/
def At (X Y : St) (done : List Sx) (keep t : Int) (k : Nat) : Prop :=
  (k ≤ Kp done keep ∧ Y = rep X (done.take k)) ∨ (k = Kp done keep + 1 ∧ ∃ h : Kp done keep < done.length, done[Kp done keep].o = 1 ∧ 0 < t ∧ Y = (stCall (rep X (done.take (Kp done keep))) (tornS done[Kp done keep] t)).2)
theorem torn_size (s : ByteArray) (t : Int) : (Cl.torn s t).size ≤ s.size := by
  unfold Cl.torn
  rw [ByteArray.size_extract]
  omega
theorem torn_ok {D : St} (hf : D.fuse = -1) (hs : D.still = false) (s : Sx) (t : Int) (ho : s.o = 1) (he : (stCall D s).1 = 0) :
    stCall D (tornS s t) = (0, { D with now := Cmd.run D.now (.app s.x (Cl.torn s.y t)), loose := D.loose ++ [.app s.x (Cl.torn s.y t)] }) := by
  have hst : ¬ D.still = true := by rw [hs]; decide
  unfold stCall at he ⊢
  rw [if_pos ho] at he
  rw [if_pos (show (tornS s t).o = 1 from ho)]
  unfold stAppend at he ⊢
  rw [if_neg hst] at he ⊢
  by_cases hn : nameOk s.x = false
  · rw [if_pos hn] at he; cases he
  · rw [if_neg hn] at he
    rw [if_neg (show ¬ nameOk (tornS s t).x = false from hn)]
    by_cases hr : s.y.size ≠ 0 ∧ D.room < used D.now + s.y.size
    · rw [if_pos hr] at he; cases he
    · have hle := torn_size s.y t
      rw [if_neg (show ¬ ((tornS s t).y.size ≠ 0 ∧ D.room < used D.now + (tornS s t).y.size) from fun hx => hr (by
        have h1 : (Cl.torn s.y t).size ≠ 0 := hx.1
        have h2 : D.room < used D.now + (Cl.torn s.y t).size := hx.2
        exact ⟨by omega, by omega⟩)), doing_neg hf]
      rfl
theorem kp_le (done : List Sx) (keep : Int) : Kp done keep ≤ done.length := by unfold Kp; omega
/-- What a crash leaves is what the other disk has. -/
theorem crash_at {X D Y : St} {done : List Sx} {keep t : Int} {k : Nat} (hl : X.loose = []) (hsu : X.sure = X.now) (hf : X.fuse = -1) (hs : X.still = false) (ha : AllOk X done) (hD : D = rep X done)
    (hY : At X Y done keep t k) (hend : k = Kp done keep + 1 ∨ (k = Kp done keep ∧ ¬ Piece done keep t)) : crashed D keep t = Y.now := by
  have hr := rep_all hf hs ha
  have hlo : D.loose = done.map cmdOf := by rw [hD, hr, hl]; rfl
  have hsure : D.sure = X.now := by rw [hD, hr, ← hsu]
  have hk : keeps D keep = Kp done keep := by unfold keeps Kp; rw [hlo, List.length_map]
  unfold crashed
  rw [hk, hlo, hsure, ← List.map_take]
  have hT := rep_take hf hs ha (Kp done keep) (kp_le _ _)
  rcases hY with ⟨hle, rfl⟩ | ⟨hk1, hlt, ho, ht, rfl⟩
  · obtain ⟨rfl, hnp⟩ : k = Kp done keep ∧ ¬ Piece done keep t := by
      rcases hend with h | h
      · omega
      · exact h
    rw [hT]
    show _ = runs X.now ((done.take (Kp done keep)).map cmdOf)
    by_cases hlt : Kp done keep < done.length
    · rw [List.getElem?_map, List.getElem?_eq_getElem hlt]
      show (match some (cmdOf done[Kp done keep]) with | some (.app k s) => _ | _ => _) = _
      by_cases ho : done[Kp done keep].o = 1
      · have hn : ¬ 0 < t := fun h => hnp ⟨hlt, ho, h⟩
        have e : cmdOf done[Kp done keep] = .app done[Kp done keep].x done[Kp done keep].y := by unfold cmdOf; rw [if_pos ho]
        rw [e]
        show (if 0 < t then _ else _) = _
        rw [if_neg hn]
      · have hnot : ∀ k s, cmdOf done[Kp done keep] ≠ .app k s := by
          intro k s hc
          unfold cmdOf at hc
          rw [if_neg ho] at hc
          split at hc
          · cases hc
          · split at hc <;> cases hc
        split
        · rename_i k s hc
          exact absurd (by simpa using hc) (hnot k s)
        · rfl
    · rw [List.getElem?_eq_none (by simp; omega)]
  · have h0 := ha _ hlt
    have hTf : (rep X (done.take (Kp done keep))).fuse = -1 := by rw [hT]; exact hf
    have hTs : (rep X (done.take (Kp done keep))).still = false := by rw [hT]; exact hs
    rw [torn_ok hTf hTs _ t ho h0]
    rw [List.getElem?_map, List.getElem?_eq_getElem hlt]
    have e : cmdOf done[Kp done keep] = .app done[Kp done keep].x done[Kp done keep].y := by unfold cmdOf; rw [if_pos ho]
    show (match some (cmdOf done[Kp done keep]) with | some (.app k s) => _ | _ => _) = _
    rw [e]
    show (if 0 < t then _ else _) = _
    rw [if_pos ht, hT]
theorem fine_at {X Y : St} {done : List Sx} {keep t : Int} {k c : Nat} (h : Fine X c) (hY : At X Y done keep t k) : Fine Y (c + done.length + 1) := by
  rcases hY with ⟨_, rfl⟩ | ⟨_, _, _, _, rfl⟩
  · exact (fine_rep h _).up (by rw [List.length_take]; omega)
  · exact (fine_call (fine_rep h _) _).up (by rw [List.length_take]; omega)
theorem crash_crash (D : St) (k1 t1 k2 t2 : Int) : (stCrash (stCrash D k1 t1) k2 t2).now = (stCrash D k1 t1).now := by
  show crashed (stCrash D k1 t1) k2 t2 = _
  unfold crashed
  simp [stCrash, runs]
theorem at_less {X Y : St} {done : List Sx} {keep t : Int} {k : Nat} (ha : AllOk X done) (h : At X Y done keep t k) (hk : (k : Int) < keep) (hl : k < done.length) :
    (stCall Y done[k]).1 = 0 ∧ At X (stCall Y done[k]).2 done keep t (k + 1) := by
  have hK : k < Kp done keep := by unfold Kp; omega
  rcases h with ⟨_, rfl⟩ | ⟨h1, _⟩
  · exact ⟨ha k hl, .inl ⟨by omega, (rep_succ X done k hl).symm⟩⟩
  · omega
theorem at_more {X Y : St} {done : List Sx} {keep t : Int} {k : Nat} (h : At X Y done keep t k) (hk : keep ≤ (k : Int)) (hl : k < done.length) :
    (k = Kp done keep + 1 ∧ max keep 0 < (k : Int)) ∨ (k = Kp done keep ∧ max keep 0 = (k : Int) ∧ Y = rep X (done.take k)) := by
  rcases h with ⟨h1, rfl⟩ | ⟨h1, h2, _⟩
  · refine .inr ⟨?_, ?_, rfl⟩
    · unfold Kp at h1 ⊢; omega
    · unfold Kp at h1; omega
  · refine .inl ⟨h1, ?_⟩
    unfold Kp at h1 h2; omega
theorem at_torn {X : St} {done : List Sx} {keep t : Int} {k : Nat} (hf : X.fuse = -1) (hs : X.still = false) (ha : AllOk X done) (hK : k = Kp done keep) (hl : k < done.length) (ho : done[k].o = 1) (ht : 0 < t) :
    (stCall (rep X (done.take k)) (tornS done[k] t)).1 = 0 ∧ At X (stCall (rep X (done.take k)) (tornS done[k] t)).2 done keep t (k + 1) := by
  subst hK
  have hT := rep_take hf hs ha (Kp done keep) (kp_le _ _)
  refine ⟨?_, .inr ⟨rfl, hl, ho, ht, rfl⟩⟩
  rw [torn_ok (by rw [hT]; exact hf) (by rw [hT]; exact hs) _ t ho (ha _ hl)]
theorem at_end {X Y : St} {done : List Sx} {keep t : Int} (h : At X Y done keep t done.length) : done.length = Kp done keep + 1 ∨ (done.length = Kp done keep ∧ ¬ Piece done keep t) := by
  have := kp_le done keep
  rcases h with ⟨h1, _⟩ | ⟨h1, _⟩
  · exact .inr ⟨by omega, fun ⟨h2, _⟩ => by omega⟩
  · exact .inl h1
theorem no_piece {done : List Sx} {keep t : Int} {k : Nat} (hK : k = Kp done keep) (hl : k < done.length) (h : done[k].o ≠ 1 ∨ t < 1) : ¬ Piece done keep t := by
  subst hK
  rintro ⟨_, h1, h2⟩
  rcases h with h | h
  · exact h h1
  · omega
end Go.Proofs.Ytjnkennlncdlgaa.Cx
