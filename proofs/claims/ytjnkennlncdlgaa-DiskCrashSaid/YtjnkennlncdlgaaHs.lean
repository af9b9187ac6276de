/- The law's own 'Heavy', 'changes' and 'Call', over a row of steps and a disk. -/
import Derived.Test.YtjnkennlncdlgaaDn
namespace Go.Proofs.Ytjnkennlncdlgaa.Hs
open Go Go.RowKit Go.Lib Go.Proofs.Ytjnkennlncdlgaa.Dh Go.Proofs.Ytjnkennlncdlgaa.Fm Go.Proofs.Ytjnkennlncdlgaa.Dk Go.Proofs.Ytjnkennlncdlgaa.St Go.Proofs.Ytjnkennlncdlgaa.Ap Go.Proofs.Ytjnkennlncdlgaa.Dn
structure Sx where
  o : Int
  x : ByteArray
  y : ByteArray
  n : Int
  m : Int
/-- A step that a program may hold. -/
structure Sx.ok (s : Sx) : Prop where
  x : s.x.size ≤ 140737488351232
  y : s.y.size ≤ 140737488351232
  o : -9223372036854775808 ≤ s.o ∧ s.o ≤ 9223372036854775807
  n : -9223372036854775808 ≤ s.n ∧ s.n ≤ 9223372036854775807
  m : -9223372036854775808 ≤ s.m ∧ s.m ≤ 9223372036854775807
def Cells (w : World) (b o : Nat) (l : List Sx) : Prop := ∀ k (h : k < l.length),
  w.cell? ⟨b, o + k * 5, none⟩ = some (.int .i64 l[k].o) ∧ w.cell? ⟨b, o + k * 5 + 1, none⟩ = some (.string l[k].x) ∧ w.cell? ⟨b, o + k * 5 + 2, none⟩ = some (.string l[k].y) ∧
    w.cell? ⟨b, o + k * 5 + 3, none⟩ = some (.int .i64 l[k].n) ∧ w.cell? ⟨b, o + k * 5 + 4, none⟩ = some (.int .i64 l[k].m)
def tot : List Sx → Nat
  | [] => 0
  | s :: l => s.y.size + s.x.size + tot l
theorem tot_snoc (s : Sx) : ∀ l : List Sx, tot (l ++ [s]) = tot l + s.y.size + s.x.size
  | [] => by simp [tot]
  | t :: l => by simp [tot, tot_snoc s l]; omega
theorem tot_mem (s : Sx) : ∀ l : List Sx, s ∈ l → s.y.size + s.x.size ≤ tot l
  | [], h => by simp at h
  | t :: l, h => by
    rcases List.mem_cons.1 h with rfl | h
    · simp [tot]
    · have := tot_mem s l h; simp [tot]; omega
theorem tot_le : ∀ l : List Sx, (∀ s ∈ l, s.ok) → tot l ≤ l.length * 281474976702464
  | [], _ => by simp [tot]
  | t :: l, h => by
    have h1 := tot_le l fun s hs => h s (List.mem_cons_of_mem _ hs)
    have h2 := h t (List.mem_cons_self ..)
    have h3 := h2.x
    have h4 := h2.y
    simp only [tot, List.length_cons]; omega
theorem heavy_nil (w : World) (ao : Option Addr) (cap : Nat) :
    Calls Try.prog 6 #[.slice ao 0 cap] w fun e w' => e = .returned (.bool false) ∧ w' = w := by
  go_enter Try.func6, Try.ntmps6
  go_wp2
  go_loop [3, 4, 5, 6, 7, 8, 9, 10, 11, 12, 13, 14, 15, 16, 17, 18, 19, 20, 21, 22, 23, 24, 25, 26, 27, 28, 29] (fun s i _ _ _ _ _ _ _ _ _ _ _ _ _ _ _ _ _ _ _ _ _ _ _ _ _ => i = .int .i64 0 ∧ s = .int .i64 0) (fun _ _ _ _ _ _ _ _ _ _ _ _ _ _ _ _ _ _ _ _ _ _ _ _ _ _ _ => 0)
  case atStart => exact ⟨rfl, rfl⟩
  case round =>
    obtain ⟨rfl, rfl⟩ := hrel
    go_wp2
    go_ret
    exact ⟨rfl, rfl⟩
/-- What Heavy comes to. -/
def HeavyEnd (l : List Sx) (e : Ending) : Prop := ∃ r, e = .returned (.bool r) ∧ (r = false → l.length ≤ 150 ∧ tot l ≤ 32768)
set_option maxRecDepth 20000 in
set_option maxHeartbeats 2000000 in
theorem heavy_some (w : World) (b o cap : Nat) (l : List Sx) (hc : Cells w b o l) (hok : ∀ s ∈ l, s.ok) (hl : l.length ≤ 140737488351232) :
    Calls Try.prog 6 #[.slice (some ⟨b, o, none⟩) l.length cap] w fun e w' => HeavyEnd l e ∧ ∃ n, w' = w.drewN n := by
  have HC := Lib.hid hc
  have HO := Lib.hid hok
  clear hc hok
  go_enter Try.func6, Try.ntmps6
  go_wp2
  go_loopw [3, 4, 5, 6, 7, 8, 9, 10, 11, 12, 13, 14, 15, 16, 17, 18, 19, 20, 21, 22, 23, 24, 25, 26, 27, 28, 29] (fun s i _ _ _ _ _ _ _ _ _ _ _ _ _ _ _ _ _ _ _ _ _ _ _ _ _ wr => ∃ (k t : Nat), k ≤ l.length ∧ k ≤ 300 ∧ i = .int .i64 k ∧ s = .int .i64 t ∧ Hid (t = tot (l.take k)) ∧ t ≤ k * 281474976702464 ∧ ∃ n, wr = w.drewN n) (fun _ i _ _ _ _ _ _ _ _ _ _ _ _ _ _ _ _ _ _ _ _ _ _ _ _ _ _ => l.length - (intOf i).toNat)
  case atStart => exact ⟨0, 0, by omega, by omega, rfl, rfl, rfl, by omega, 0, rfl⟩
  case round =>
    obtain ⟨k, t, hk, hk3, rfl, rfl, ht, htb, n, rfl⟩ := hrel
    by_cases hlt : k < l.length ∧ k < 300
    · have h1 := hlt.1
      have h2 := hlt.2
      have hx := (HO.out _ (List.getElem_mem h1)).x
      have hy := (HO.out _ (List.getElem_mem h1)).y
      have c1 := (HC.out k h1).2.1
      have c2 := (HC.out k h1).2.2.1
      clear hlt
      go_wp2
      go_quiet (fail)
      go_wp2
      refine ⟨⟨k + 1, t + l[k].y.size + l[k].x.size, by omega, by omega, by simp, by simp, ?_, by omega, _, rfl⟩, by simp [intOf]; omega⟩
      have e : l.take (k + 1) = l.take k ++ [l[k]] := List.take_succ_eq_append_getElem h1
      show _ = tot (l.take (k + 1))
      rw [e, tot_snoc, ← ht.out]
    · by_cases h1 : k < l.length
      · have h3 : k = 300 := by omega
        subst h3
        clear hlt
        have h150 : 150 < l.length := by omega
        go_wp2
        go_ret
        exact ⟨⟨true, rfl, fun hr => by cases hr⟩, n, rfl⟩
      · have h3 : k = l.length := by omega
        subst h3
        clear hlt
        have hT := ht.out
        rw [List.take_length] at hT
        have HT := Lib.hid hT
        clear hT ht
        by_cases h150 : 150 < l.length
        · go_wp2
          go_ret
          exact ⟨⟨true, rfl, fun hr => by cases hr⟩, n, rfl⟩
        · by_cases hts : 32768 < t
          · go_wp2
            go_ret
            refine ⟨⟨_, rfl, fun hr => ?_⟩, n, rfl⟩
            exfalso
            simp at hr
            omega
          · go_wp2
            go_ret
            exact ⟨⟨_, rfl, fun _ => ⟨by omega, by rw [← HT.out]; omega⟩⟩, n, rfl⟩
theorem changes_any (w : World) (s : Sx) :
    Calls Try.prog 9 #[stepV s.o s.x s.y s.n s.m] w fun e w' => e = .returned (.bool (decide (1 ≤ s.o) && decide (s.o ≤ 4))) ∧ w' = w.alloc (stepO s.o s.x s.y s.n s.m) := by
  by_cases h1 : 1 ≤ s.o
  · by_cases h2 : s.o ≤ 4
    · rw [decide_eq_true h1, decide_eq_true h2]
      go_enter Try.func9, Try.ntmps9
      go_wp2
      go_ret
      exact ⟨rfl, rfl⟩
    · rw [decide_eq_true h1, decide_eq_false h2]
      go_enter Try.func9, Try.ntmps9
      go_wp2
      go_ret
      exact ⟨rfl, rfl⟩
  · rw [decide_eq_false h1]
    go_enter Try.func9, Try.ntmps9
    go_wp2
    go_ret
    exact ⟨rfl, rfl⟩
def stCall (D : St) (s : Sx) : Int × St :=
  if s.o = 1 then stAppend D s.x s.y else if s.o = 2 then stTruncate D s.x s.n else if s.o = 3 then stRename D s.x s.y else stRemove D s.x
set_option maxRecDepth 20000 in
theorem call_any {S : Nat → Prop} {w : World} {p : Nat} {D : St} (h : Full w S p D) (s : Sx) (hs : s.ok) (hsm : s.y.size ≤ 1099511627776) (hlen : D.loose.length ≤ 1099511627776) :
    Calls Try.prog 10 #[.pointer (some ⟨p, 0, none⟩), stepV s.o s.x s.y s.n s.m] w fun e w' => e = .returned (.int .i64 (stCall D s).1) ∧ To S w w' p (stCall D s).2 := by
  have ha := To.alloc h (stepO s.o s.x s.y s.n s.m)
  have hxm : s.x.size ≤ maxLen := by have := hs.x; unfold maxLen; omega
  have hym : s.y.size ≤ maxLen := by unfold maxLen; omega
  unfold stCall
  by_cases h1 : s.o = 1
  · rw [if_pos h1]
    have HC := Lib.hid (append_any ha.2 s.x s.y hxm hsm hlen)
    have HT : Hid (∀ w' D', To (grow S w (w.alloc (stepO s.o s.x s.y s.n s.m))) (w.alloc (stepO s.o s.x s.y s.n s.m)) w' p D' → To S w w' p D') := Lib.hid fun w' D' k => ha.trans k
    have e1 : (s.o == 1) = true := by simp [h1]
    clear ha h h1
    go_enter Try.func10, Try.ntmps10
    go_wp2_with (go_at_call 23; refine HC.out.mono ?_; rintro e w1 ⟨rfl, hx⟩; have HX := Lib.hid (HT.out _ _ hx); clear hx)
    go_ret
    exact ⟨rfl, (by assumption : Hid (To _ _ _ _ _)).out⟩
  rw [if_neg h1]
  have e1 : (s.o == 1) = false := by simp [h1]
  by_cases h2 : s.o = 2
  · rw [if_pos h2]
    have HC := Lib.hid (Tr.truncate_any ha.2 s.x s.n hxm hs.n hlen)
    have HT : Hid (∀ w' D', To (grow S w (w.alloc (stepO s.o s.x s.y s.n s.m))) (w.alloc (stepO s.o s.x s.y s.n s.m)) w' p D' → To S w w' p D') := Lib.hid fun w' D' k => ha.trans k
    have e2 : (s.o == 2) = true := by simp [h2]
    clear ha h h1 h2
    go_enter Try.func10, Try.ntmps10
    go_wp2_with (go_at_call 27; refine HC.out.mono ?_; rintro e w1 ⟨rfl, hx⟩; have HX := Lib.hid (HT.out _ _ hx); clear hx)
    go_ret
    exact ⟨rfl, (by assumption : Hid (To _ _ _ _ _)).out⟩
  rw [if_neg h2]
  have e2 : (s.o == 2) = false := by simp [h2]
  by_cases h3 : s.o = 3
  · rw [if_pos h3]
    have HC := Lib.hid (Rn.rename_any ha.2 s.x s.y hxm hym hlen)
    have HT : Hid (∀ w' D', To (grow S w (w.alloc (stepO s.o s.x s.y s.n s.m))) (w.alloc (stepO s.o s.x s.y s.n s.m)) w' p D' → To S w w' p D') := Lib.hid fun w' D' k => ha.trans k
    have e3 : (s.o == 3) = true := by simp [h3]
    clear ha h h1 h2 h3
    go_enter Try.func10, Try.ntmps10
    go_wp2_with (go_at_call 24; refine HC.out.mono ?_; rintro e w1 ⟨rfl, hx⟩; have HX := Lib.hid (HT.out _ _ hx); clear hx)
    go_ret
    exact ⟨rfl, (by assumption : Hid (To _ _ _ _ _)).out⟩
  rw [if_neg h3]
  have e3 : (s.o == 3) = false := by simp [h3]
  have HC := Lib.hid (Rn.remove_any ha.2 s.x hxm hlen)
  have HT : Hid (∀ w' D', To (grow S w (w.alloc (stepO s.o s.x s.y s.n s.m))) (w.alloc (stepO s.o s.x s.y s.n s.m)) w' p D' → To S w w' p D') := Lib.hid fun w' D' k => ha.trans k
  clear ha h h1 h2 h3
  go_enter Try.func10, Try.ntmps10
  go_wp2_with (go_at_call 28; refine HC.out.mono ?_; rintro e w1 ⟨rfl, hx⟩; have HX := Lib.hid (HT.out _ _ hx); clear hx)
  go_ret
  exact ⟨rfl, (by assumption : Hid (To _ _ _ _ _)).out⟩
/-- What a call that changes, or a Sync, comes to. -/
def Res (D : St) (e : Int) (D' : St) : Prop :=
  (e = 0 ∧ D.fuse ≠ 0 ∧ D'.fuse = (if D.fuse = -1 then -1 else D.fuse - 1) ∧ D'.still = false ∧ D'.loose.length ≤ D.loose.length + 1) ∨
  (e ≠ 0 ∧ 0 ≤ e ∧ e ≤ 20 ∧ D'.now = D.now ∧ D'.loose = D.loose ∧ D'.fuse = D.fuse ∧ (e = 20 → D.fuse = 0 ∨ D.still = true) ∧ (D'.still = true → D.fuse = 0 ∨ D.still = true))
theorem res_err (D : St) (e : Int) (h0 : e ≠ 0) (h1 : 0 ≤ e) (h2 : e < 20) : Res D e D := .inr ⟨h0, h1, by omega, rfl, rfl, rfl, fun h => by omega, fun h => .inr h⟩
theorem res_down (D : St) (h : D.still = true) : Res D 20 D := .inr ⟨by decide, by decide, by decide, rfl, rfl, rfl, fun _ => .inr h, fun h => .inr h⟩
theorem burnt_neg {D : St} (h : D.fuse = -1) : burnt D = (0, D) := by unfold burnt; rw [if_pos h]
theorem burnt_zero {D : St} (h : D.fuse = 0) : burnt D = (20, { D with still := true }) := by unfold burnt; rw [if_neg (by omega), if_pos h]
theorem burnt_pos {D : St} (h1 : D.fuse ≠ -1) (h2 : D.fuse ≠ 0) : burnt D = (0, { D with fuse := D.fuse - 1 }) := by unfold burnt; rw [if_neg h1, if_neg h2]
theorem res_zero {D : St} (h2 : D.fuse = 0) : Res D 20 { D with still := true } := .inr ⟨by decide, by decide, by decide, rfl, rfl, rfl, fun _ => .inl h2, fun _ => .inl h2⟩
theorem res_doing (D : St) (c : Cmd) (h : D.still = false) : Res D (doing D c).1 (doing D c).2 := by
  unfold doing
  by_cases h1 : D.fuse = -1
  · rw [burnt_neg h1]
    exact .inl ⟨rfl, by rw [h1]; decide, by rw [if_pos h1]; exact h1, h, by simp⟩
  · by_cases h2 : D.fuse = 0
    · rw [burnt_zero h2]
      exact res_zero h2
    · rw [burnt_pos h1 h2]
      exact .inl ⟨rfl, h2, by rw [if_neg h1]; rfl, h, by simp⟩
theorem res_sync (D : St) : Res D (stSync D).1 (stSync D).2 := by
  unfold stSync
  by_cases hs : D.still = true
  · rw [if_pos hs]; exact res_down D hs
  · rw [if_neg hs]
    have h : D.still = false := by simpa using hs
    by_cases h1 : D.fuse = -1
    · rw [burnt_neg h1]
      exact .inl ⟨rfl, by rw [h1]; decide, by rw [if_pos h1]; exact h1, h, by simp⟩
    · by_cases h2 : D.fuse = 0
      · rw [burnt_zero h2]
        exact res_zero h2
      · rw [burnt_pos h1 h2]
        exact .inl ⟨rfl, h2, by rw [if_neg h1]; rfl, h, by simp⟩
theorem res_call (D : St) (s : Sx) : Res D (stCall D s).1 (stCall D s).2 := by
  by_cases hs : D.still = true
  · unfold stCall stAppend stTruncate stRename stRemove
    simp only [hs, if_true]
    split <;> first | exact res_down D hs | (split <;> first | exact res_down D hs | (split <;> exact res_down D hs))
  · have h : D.still = false := by simpa using hs
    have r2 : Res D 2 D := res_err D 2 (by decide) (by decide) (by decide)
    have r3 : Res D 3 D := res_err D 3 (by decide) (by decide) (by decide)
    have r4 : Res D 4 D := res_err D 4 (by decide) (by decide) (by decide)
    unfold stCall
    split
    · unfold stAppend
      rw [if_neg hs]
      split
      · exact r2
      · split
        · exact r4
        · exact res_doing D _ h
    · split
      · unfold stTruncate
        rw [if_neg hs]
        split
        · exact r2
        · split
          · exact r2
          · split
            · exact r3
            · split
              · exact r2
              · exact res_doing D _ h
      · split
        · unfold stRename
          rw [if_neg hs]
          split
          · exact r2
          · split
            · exact r2
            · split
              · exact r3
              · exact res_doing D _ h
        · unfold stRemove
          rw [if_neg hs]
          split
          · exact r2
          · split
            · exact r3
            · exact res_doing D _ h
end Go.Proofs.Ytjnkennlncdlgaa.Hs
