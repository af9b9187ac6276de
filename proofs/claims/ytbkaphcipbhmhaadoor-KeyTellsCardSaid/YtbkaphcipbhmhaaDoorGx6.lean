/- The contract of the document's own Get (fascicleref06): it reads as the program does. -/
import Derived.Test.YtbkaphcipbhmhaaDoorRx6
import Derived.Test.YtbkaphcipbhmhaaDoorQf6
import Derived.Test.YtbkaphcipbhmhaaDoorKh6
namespace Go.Proofs.YtbkaphcipbhmhaaDoor.Gx6
open Go Go.RowKit Go.Proofs.YtbkaphcipbhmhaaDoor.Wm Go.Proofs.YtbkaphcipbhmhaaDoor.Cm Go.Proofs.YtbkaphcipbhmhaaDoor.Vm Go.Proofs.YtbkaphcipbhmhaaDoor.Vr Go.Proofs.YtbkaphcipbhmhaaDoor.Vs Go.Proofs.YtbkaphcipbhmhaaDoor.Vc Go.Proofs.YtbkaphcipbhmhaaDoor.Vh Go.Proofs.YtbkaphcipbhmhaaDoor.Vk Go.Proofs.YtbkaphcipbhmhaaDoor.Kl6 Go.Proofs.YtbkaphcipbhmhaaDoor.Km6 Go.Proofs.YtbkaphcipbhmhaaDoor.Kp6 Go.Proofs.YtbkaphcipbhmhaaDoor.Kg6 Go.Proofs.YtbkaphcipbhmhaaDoor.Kh6 Go.Proofs.YtbkaphcipbhmhaaDoor.Rn6 Go.Proofs.YtbkaphcipbhmhaaDoor.Rx6 Go.Proofs.YtbkaphcipbhmhaaDoor.Qf6
def NextGot (w : World) (n : Nat) (g : Option (V × List UInt8)) (e : Ending) (w' : World) : Prop := match g with
  | none => ∃ k m R t, Rx6.Next w k m R t (-1) e w'
  | some (v, x) => Rx6.Next w v.k v.n (v.r : Int) v.s ((n : Int) - (x.length : Int)) e w'
theorem getL8 (r : List UInt8) : getL (r.take 8).reverse < 18446744073709551616 := getL_lt8 _ (by rw [List.length_reverse, List.length_take]; omega)
theorem next_any (c : UInt8) (r : List UInt8) (w : World) (hs : r.length ≤ 90000) :
    Calls Tryd.prog 27 #[.string (bs (c :: r))] w (NextGot w (r.length + 1) (rnext (c :: r))) := by
  show Calls _ _ _ _ (NextGot w (r.length + 1) (oneOf (cutR []) c.toNat r))
  have d1 : ((r.length + 1 : Nat) : Int) - (r.length : Int) = 1 := by omega
  by_cases h0 : c.toNat = 0
  · rw [h0]; exact (n_zero c r w hs h0).mono fun e w' h => ⟨_, _, _, _, h⟩
  by_cases h1 : c.toNat = 1
  · rw [h1]; refine (n_null c r w hs h1).mono fun e w' h => ?_
    show Rx6.Next w 0 0 0 ⟨#[]⟩ (((r.length + 1 : Nat) : Int) - (r.length : Int)) e w'
    rw [d1]; exact h
  by_cases h2 : c.toNat = 2
  · rw [h2]
    cases r with
    | nil => exact (n_bool_no c [] w hs h2 rfl).mono fun e w' h => ⟨_, _, _, _, h⟩
    | cons b x =>
      refine (n_bool c b x w h2 _ rfl).mono fun e w' h => ?_
      show Rx6.Next w 1 (b.toNat : Int) 0 ⟨#[]⟩ ((((b :: x).length + 1 : Nat) : Int) - (x.length : Int)) e w'
      rw [show ((((b :: x).length + 1 : Nat) : Int) - (x.length : Int)) = 2 by simp only [List.length_cons]; omega]; exact h
  by_cases h34 : c.toNat = 3 ∨ c.toNat = 4
  · by_cases hl : r.length < 8
    · have hq : cutN r = none := by unfold cutN; rw [if_pos hl]
      rcases h34 with h3 | h4
      · rw [h3]; simp only [oneOf, hq]; exact (n_int_no c r w hs h3 hl).mono fun e w' h => ⟨_, _, _, _, h⟩
      · rw [h4]; simp only [oneOf, hq]; exact (n_real_no c r w hs h4 hl).mono fun e w' h => ⟨_, _, _, _, h⟩
    · have hq : cutN r = some (getL (r.take 8).reverse, r.drop 8) := by unfold cutN; rw [if_neg hl]
      have d9 : ((r.length + 1 : Nat) : Int) - ((r.drop 8).length : Int) = 9 := by rw [List.length_drop]; omega
      rcases h34 with h3 | h4
      · rw [h3]; simp only [oneOf, hq]
        refine (n_int c r w hs h3 (by omega) _ rfl (getL8 r)).mono fun e w' h => ?_
        show Rx6.Next w 2 ((getL (r.take 8).reverse : Nat) - 9223372036854775808) 0 ⟨#[]⟩ (((r.length + 1 : Nat) : Int) - ((r.drop 8).length : Int)) e w'
        rw [d9]; exact h
      · rw [h4]; simp only [oneOf, hq]
        rcases Kr.key_back (getL8 r) with ⟨b0, _, _, _⟩ | ⟨b2, _⟩
        · simp only [b0]
          refine (n_real c r w hs h4 (by omega) _ rfl (getL8 r) _ rfl b0).mono fun e w' h => ?_
          show Rx6.Next w 3 0 ((Rm.back (getL (r.take 8).reverse)).1 : Int) ⟨#[]⟩ (((r.length + 1 : Nat) : Int) - ((r.drop 8).length : Int)) e w'
          rw [d9]; exact h
        · simp only [b2]
          exact (n_real_bad c r w hs h4 (by omega) _ rfl (getL8 r) _ rfl b2).mono fun e w' h => ⟨_, _, _, _, h⟩
  by_cases h56 : c.toNat = 5 ∨ c.toNat = 6
  · cases hu : cutR [] r with
    | none =>
      rcases h56 with h5 | h6
      · rw [h5]; simp only [oneOf, hu]; exact (n_text5_no c r w hs h5 hu).mono fun e w' h => ⟨_, _, _, _, h⟩
      · rw [h6]; simp only [oneOf, hu]; exact (n_text6_no c r w hs h6 hu).mono fun e w' h => ⟨_, _, _, _, h⟩
    | some p =>
      obtain ⟨t, x⟩ := p
      have hx : x.length ≤ r.length := by have := cutR_len _ r [] t x (Nat.le_refl _) hu; simp at this; omega
      have hd : ((r.length + 1 : Nat) : Int) - (x.length : Int) = 1 + ((r.length : Int) - (x.length : Int)) := by omega
      rcases h56 with h5 | h6
      · rw [h5]; simp only [oneOf, hu]
        exact (n_text5 c r w hs h5 t x hu hx _ hd).mono fun e w' h => h
      · rw [h6]; simp only [oneOf, hu]
        exact (n_text6 c r w hs h6 t x hu hx _ hd).mono fun e w' h => h
  have hn : oneOf (cutR []) c.toNat r = none := by
    unfold oneOf
    rw [if_neg h1, if_neg h2, if_neg (by omega), if_neg (by omega), if_neg (by omega), if_neg (by omega)]
  rw [hn]
  exact (n_other c r w hs (by omega) _ rfl).mono fun e w' h => ⟨_, _, _, _, h⟩
theorem cutR_drop : ∀ (n : Nat) (s acc t x : List UInt8), s.length ≤ n → cutR acc s = some (t, x) → ∃ p, s = p ++ x
  | 0, s, acc, t, x, hn, h => by
    have : s = [] := List.eq_nil_of_length_eq_zero (by omega)
    subst this; simp [cutR] at h
  | n + 1, s, acc, t, x, hn, h => by
    match s, hn, h with
    | [], _, h => simp [cutR] at h
    | [c], _, h => simp [cutR] at h
    | c :: d :: r, hn, h =>
      simp only [List.length_cons] at hn
      simp only [cutR] at h
      split at h
      · split at h
        · cases h; exact ⟨[c, d], rfl⟩
        · split at h
          · obtain ⟨p, hp⟩ := cutR_drop n r _ t x (by omega) h
            exact ⟨c :: d :: p, by rw [hp]; rfl⟩
          · cases h
      · obtain ⟨p, hp⟩ := cutR_drop n (d :: r) _ t x (by simp; omega) h
        exact ⟨c :: p, by rw [hp]; rfl⟩
theorem oneOf_drop {c : Nat} {s r : List UInt8} {v : V} (h : oneOf (cutR []) c s = some (v, r)) : ∃ p, s = p ++ r := by
  unfold oneOf at h
  split at h
  · cases h; exact ⟨[], rfl⟩
  split at h
  · cases s with
    | nil => cases h
    | cons b t => cases h; exact ⟨[b], rfl⟩
  split at h
  · cases hq : cutN s with
    | none => rw [hq] at h; cases h
    | some p => obtain ⟨N, r'⟩ := p; rw [hq] at h; cases h; exact ⟨_, (cutN_sound hq).1⟩
  split at h
  · cases hq : cutN s with
    | none => rw [hq] at h; cases h
    | some p =>
      obtain ⟨N, r'⟩ := p
      rw [hq] at h
      simp only at h
      split at h
      · cases h; exact ⟨_, (cutN_sound hq).1⟩
      · cases h
  split at h
  · cases hq : cutR [] s with
    | none => rw [hq] at h; cases h
    | some p => obtain ⟨u, r'⟩ := p; rw [hq] at h; cases h; exact cutR_drop _ s [] u r (Nat.le_refl _) hq
  split at h
  · cases hq : cutR [] s with
    | none => rw [hq] at h; cases h
    | some p => obtain ⟨u, r'⟩ := p; rw [hq] at h; cases h; exact cutR_drop _ s [] u r (Nat.le_refl _) hq
  · cases h
theorem rnext_drop {s r : List UInt8} {v : V} (h : rnext s = some (v, r)) : s.drop (s.length - r.length) = r := by
  cases s with
  | nil => cases h
  | cons c t =>
    obtain ⟨p, hp⟩ := oneOf_drop (c := c.toNat) h
    rw [hp]
    have : (c :: (p ++ r)).length - r.length = (c :: p).length := by simp; omega
    rw [this, ← List.cons_append, List.drop_left]
theorem rreads_nil (k : Nat) : rreads k [] = some [] := by cases k <;> simp [rreads]
theorem rr_some {j : Nat} {m : List V} {rk x : List UInt8} {v : V} (h : rnext rk = some (v, x)) (hr : rk ≠ []) : (rreads (j + 1) rk).map (m ++ ·) = (rreads j x).map ((m ++ [v]) ++ ·) := by
  simp only [rreads, if_neg hr, h]
  cases rreads j x <;> simp
theorem rr_none {j : Nat} {m : List V} {rk : List UInt8} (h : rnext rk = none) (hr : rk ≠ []) : (rreads j rk).map (m ++ ·) = none := by
  cases j with
  | zero => simp [rreads, hr]
  | succ j => simp [rreads, hr, h]
theorem rr_full {m : List V} {rk : List UInt8} (hr : rk ≠ []) : (rreads 0 rk).map (m ++ ·) = none := by simp [rreads, hr]
/-- How far the row is read. -/
structure Mid6 (w wr : World) (row : Value) (m : List V) (rk : List UInt8) (g : Option (List V)) : Prop where
  own : wr.ownsRow w.heap.size 38 4 row m.length (cellsV m)
  below : Below w.heap.size w wr
  eq : (rreads (8 - m.length) rk).map (m ++ ·) = g
  ok : ∀ v ∈ m, v.ok
  short : rk.length ≤ 90000
theorem rget_none {s : List UInt8} (h : rreads 8 s = none) : rget s = none := by unfold rget; rw [h]
theorem rget_some {s : List UInt8} {m : List V} (h : rreads 8 s = some m) : rget s = if mayK m = true ∧ kputAll m = s then some m else none := by unfold rget; rw [h]
theorem hT2 {w wr : World} {row : Value} {m : List V} {rk : List UInt8} {g : Option (List V)} (hT : Hid (Tabs w)) (h : Hid (Mid6 w wr row m rk g)) : Hid (Tabs wr) := Lib.hid (hT.out.keep h.out.below)
set_option maxRecDepth 40000 in
set_option maxHeartbeats 2000000 in
theorem refget_any (s : List UInt8) (w : World) (hs : s.length ≤ 90000) (hT : Tabs w) :
    Calls Tryd.prog 15 #[.string (bs s)] w (GotK w (rget s)) := by
  obtain ⟨g, hg⟩ : ∃ g, g = rreads 8 s := ⟨_, rfl⟩
  obtain ⟨G, hG⟩ : ∃ G, G = rget s := ⟨_, rfl⟩
  obtain ⟨S, hS⟩ : ∃ S, S = bs s := ⟨_, rfl⟩
  rw [← hG, ← hS]
  have HG0 : Hid (g = none → G = none) := Lib.hid fun h => by rw [hG]; exact rget_none (by rw [← hg]; exact h)
  have HG1 : Hid (∀ m, g = some m → G = if mayK m = true ∧ kputAll m = s then some m else none) := Lib.hid fun m h => by rw [hG]; exact rget_some (by rw [← hg]; exact h)
  have HSt : Hid (Mid6 w w (.slice none 0 0) [] s g) := Lib.hid ⟨Vh.nil_own w _, Below.refl _ _, by rw [hg]; simp, (fun v hv => nomatch hv), hs⟩
  have HSS := Lib.hid hS
  have HT := Lib.hid hT
  clear hg hG hS hs hT
  go_enter Tryd.func15, Tryd.ntmps15
  go_wp2
  go_loopw [4, 5, 6, 7] (fun row p _ _ wr => ∃ (m : List V) (rk : List UInt8) (P : ByteArray), m.length ≤ 8 ∧ p = .string P ∧ Hid (P = bs rk) ∧ Hid (Mid6 w wr row m rk g)) (fun _ p _ _ _ => match p with | .string P => P.size | _ => 0)
  case atStart => exact ⟨[], s, S, by simp, rfl, HSS, HSt⟩
  case round =>
    obtain ⟨m, rk, P, hm8, rfl, hP, hmid⟩ := hrel
    obtain ⟨A7, c7, rfl⟩ := own_shape hmid.out.own
    obtain ⟨M, hM⟩ : ∃ M, M = m.length := ⟨_, rfl⟩
    rw [← hM] at hm8 ⊢
    have HM := Lib.hid hM
    clear hM
    cases rk with
    | nil =>
      have hPz : P.size = 0 := by rw [hP.out]; rfl
      have hgm : g = some m := by rw [← hmid.out.eq, rreads_nil]; simp
      have HGm := Lib.hid (HG1.out m hgm)
      obtain ⟨A9, c9, e9, hrd⟩ := Vh.Reads.own hmid.out.own
      obtain ⟨rfl, rfl⟩ : A7 = A9 ∧ c7 = c9 := by injection e9 with e1 e2 e3; exact ⟨e1, e3⟩
      have HRD := Lib.hid hrd
      have hTr := hT2 HT hmid
      have FM : Hid (Calls Tryd.prog 12 #[.slice A7 M c7] wr fun e w' => e = .returned (.bool (mayK m)) ∧ Below wr.heap.size wr w') := Lib.hid (by rw [HM.out]; exact may_any wr A7 c7 m hrd (by rw [← HM.out]; omega) hmid.out.ok hTr.out)
      clear hgm e9 hrd
      cases hmay : mayK m
      · rw [hmay] at FM
        have HG2 : Hid (G = none) := Lib.hid (by rw [HGm.out, hmay]; simp)
        clear hmay
        go_wp2_with fail
        with_reducible refine FM.out.mono ?_
        rintro e w2 ⟨rfl, hb⟩
        have HB := Lib.hid (hmid.out.below.trans (hb.mono hmid.out.below.size))
        clear hb
        go_wp2
        go_ret2
        rw [HG2.out]
        exact ⟨rfl, HB.out⟩
      · rw [hmay] at FM
        obtain ⟨Q, hQ⟩ : ∃ Q, Q = bs (kputAll m) := ⟨_, rfl⟩
        have FP : Hid (∀ W, Below wr.heap.size wr W → Calls Tryd.prog 13 #[.slice A7 M c7] W fun e w' => e = .returned (.string Q) ∧ Below W.heap.size W w') := Lib.hid fun W hW => by
          rw [HM.out, hQ]; exact Qf6.put_any W A7 c7 m (HRD.out.keep hW) hmay hmid.out.ok
        by_cases hks : kputAll m = s
        · have hQS : Q = S := by rw [hQ, HSS.out, hks]
          have HG2 : Hid (G = some m) := Lib.hid (by rw [HGm.out, hmay, if_pos ⟨rfl, hks⟩])
          subst hQS
          clear hmay hks hQ
          go_wp2_with fail
          with_reducible refine FM.out.mono ?_
          rintro e w2 ⟨rfl, hb⟩
          have HB0 := Lib.hid hb
          clear hb
          go_wp2_with fail
          with_reducible refine (FP.out _ HB0.out).mono ?_
          rintro e w3 ⟨rfl, hb⟩
          have HB1 := Lib.hid (HB0.out.trans (hb.mono HB0.out.size))
          have HB := Lib.hid (hmid.out.below.trans (HB1.out.mono hmid.out.below.size))
          clear hb
          go_wp2
          go_ret2
          rw [HG2.out]
          exact ⟨A7, c7, by rw [← HM.out]; rfl, HRD.out.keep HB1.out, HB.out⟩
        · have hne : (Q.toList != S.toList) = true := by
            rw [hQ, HSS.out, ByteArray.toList_eq, ByteArray.toList_eq, bne_iff_ne]
            exact hks
          have hne2 : (Q.toList == S.toList) = false := by rw [bne] at hne; simpa using hne
          have HG2 : Hid (G = none) := Lib.hid (by rw [HGm.out, if_neg (fun h => hks h.2)])
          clear hmay hks hQ
          go_wp2_with fail
          with_reducible refine FM.out.mono ?_
          rintro e w2 ⟨rfl, hb⟩
          have HB0 := Lib.hid hb
          clear hb
          go_wp2_with fail
          with_reducible refine (FP.out _ HB0.out).mono ?_
          rintro e w3 ⟨rfl, hb⟩
          have HB1 := Lib.hid (HB0.out.trans (hb.mono HB0.out.size))
          have HB := Lib.hid (hmid.out.below.trans (HB1.out.mono hmid.out.below.size))
          clear hb
          go_wp2
          go_ret2
          rw [HG2.out]
          exact ⟨rfl, HB.out⟩
    | cons c r =>
      have hPz : P.size = r.length + 1 := by rw [hP.out]; rfl
      have hPz1 : (0 : Int) < (P.size : Int) := by omega
      have hr9 : r.length ≤ 90000 := by have := hmid.out.short; simp only [List.length_cons] at this; omega
      have FN := Lib.hid (next_any c r wr hr9)
      rw [← hP.out] at FN
      cases hq : rnext (c :: r) with
      | none =>
        rw [hq] at FN
        have hgn : g = none := by rw [← hmid.out.eq]; exact rr_none hq (by simp)
        have HG2 := Lib.hid (HG0.out hgn)
        clear hgn hq
        go_wp2_with fail
        with_reducible refine FN.out.mono ?_
        rintro e w2 ⟨k, n, R, t, rfl, hb⟩
        have HB := Lib.hid (hmid.out.below.trans (hb.mono hmid.out.below.size))
        clear hb
        go_wp2
        go_ret2
        rw [HG2.out]
        exact ⟨rfl, HB.out.alloc HB.out.size _⟩
      | some p =>
        obtain ⟨v, x⟩ := p
        rw [hq] at FN
        have hxr := rnext_rest hq
        simp only [List.length_cons] at hxr
        obtain ⟨d, hd⟩ : ∃ d : Nat, d = r.length + 1 - x.length := ⟨_, rfl⟩
        have hdz : ((r.length + 1 : Nat) : Int) - (x.length : Int) = (d : Int) := by omega
        obtain ⟨k0, n0, r0, s0⟩ := v
        have FN2 : Hid (Calls Tryd.prog 27 #[.string P] wr fun e w' => e = .returned (.tuple #[.agg #[.int .u8 k0, .int .i64 n0, .int .u64 (r0 : Int), .string s0], .int .i64 (d : Int)]) ∧ Below wr.heap.size wr w') := by
          have h : Hid (Calls Tryd.prog 27 #[.string P] wr (Rx6.Next wr k0 n0 (r0 : Int) s0 (((r.length + 1 : Nat) : Int) - (x.length : Int)))) := FN
          rw [hdz] at h
          exact h
        have hvok := rnext_ok (by simp only [List.length_cons]; omega) hq
        by_cases h8 : M = 8
        · have hgn : g = none := by rw [← hmid.out.eq, ← HM.out, h8]; exact rr_full (by simp)
          have HG2 := Lib.hid (HG0.out hgn)
          clear hgn hq FN hd hdz hxr
          subst h8
          have hd0 : ¬ ((d : Int) < 0) := by omega
          go_wp2_with fail
          with_reducible refine FN2.out.mono ?_
          rintro e w2 ⟨rfl, hb⟩
          have HB := Lib.hid (hmid.out.below.trans (hb.mono hmid.out.below.size))
          clear hb
          go_wp2
          go_ret2
          rw [HG2.out]
          exact ⟨rfl, HB.out.alloc HB.out.size _⟩
        · have hst : (rreads (8 - (m ++ [(⟨k0, n0, r0, s0⟩ : V)]).length) x).map ((m ++ [(⟨k0, n0, r0, s0⟩ : V)]) ++ ·) = g := by
            rw [← hmid.out.eq, List.length_append, List.length_singleton, ← HM.out, show 8 - M = (8 - (M + 1)) + 1 by omega]
            exact (rr_some hq (by simp)).symm
          have HSt2 := Lib.hid hst
          have hxd : P.extract d P.size = bs x := by
            have hb := rnext_drop hq
            rw [hP.out]
            have e1 : d = (c :: r).length - x.length := by rw [hd]; rfl
            have e2 := bs_drop (c :: r) d
            rw [e1, hb] at e2
            rw [e1]; exact e2
          obtain ⟨X, hX⟩ : ∃ X, X = bs x := ⟨_, rfl⟩
          rw [← hX] at hxd
          have HXX := Lib.hid hX
          have h8b : ((M : Int) == 8) = false := by simpa using (by omega : ¬ ((M : Int) = 8))
          have hd0 : ¬ ((d : Int) < 0) := by omega
          have hdP : (d : Int) ≤ (P.size : Int) := by omega
          have hXz : X.size < P.size := by rw [hX, bs_size]; omega
          have HVk := Lib.hid hvok
          clear hst hq FN hd hdz hX hvok
          go_wp2_with fail
          with_reducible refine FN2.out.mono ?_
          rintro e w2 ⟨rfl, hb⟩
          have HBw := Lib.hid (hmid.out.below.trans (hb.mono hmid.out.below.size))
          have HO := Lib.hid (own_keep (own_keep hmid.out.own hb) ((Below.refl w2.heap.size w2).alloc (Nat.le_refl _) (.cells #[.int .u8 k0, .int .i64 n0, .int .u64 (r0 : Int), .string s0] 38)))
          clear hb
          go_wp2_with (at_builtin; refine append_val (v := .slice A7 M c7) rfl _ _ rfl ⟨k0, n0, r0, s0⟩ rfl rfl (by simp) (by rw [← HM.out]; rw [← HM.out] at HO; exact HO.out) (by have := HBw.out.size; simp; omega) (by have := HM.out; omega) ?_; intro v3 w3 q1 q2; have HV := Lib.hid (And.intro q1 q2); clear q1 q2)
          have hx2 : P.extract d (r.length + 1) = X := by rw [← hPz]; exact hxd
          rw [hx2]
          refine ⟨⟨m ++ [⟨k0, n0, r0, s0⟩], x, X, by have := HM.out; rw [List.length_append, List.length_singleton]; omega, rfl, HXX, Lib.hid ⟨HV.out.1, ?_, HSt2.out, ?_, by omega⟩⟩, hXz⟩
          · exact (HBw.out.alloc HBw.out.size _).grown HV.out.2 (by have := HBw.out.size; simp; omega) (fun y hy => (HO.out.lt y (by rw [← HM.out]; exact hy)).1)
          · intro y hy
            rcases List.mem_append.1 hy with hy | hy
            · exact hmid.out.ok y hy
            · rw [List.mem_singleton.1 hy]; exact HVk.out
end Go.Proofs.YtbkaphcipbhmhaaDoor.Gx6
