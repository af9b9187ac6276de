/- The contract of the document's Get: it reads as the program does. -/
import Derived.Test.YthoiolihkomgmaaDoorBg5
namespace Go.Proofs.YthoiolihkomgmaaDoor.Ge5
open Go Go.RowKit Go.Proofs Go.Proofs.YthoiolihkomgmaaDoor.Wm Go.Proofs.YthoiolihkomgmaaDoor.Vm Go.Proofs.YthoiolihkomgmaaDoor.Ve Go.Proofs.YthoiolihkomgmaaDoor.Vs Go.Proofs.YthoiolihkomgmaaDoor.Vc Go.Proofs.YthoiolihkomgmaaDoor.Vk Go.Proofs.YthoiolihkomgmaaDoor.Vf Go.Proofs.YthoiolihkomgmaaDoor.Cm Go.Proofs.YthoiolihkomgmaaDoor.Cu5 Go.Proofs.YthoiolihkomgmaaDoor.Cg5 Go.Proofs.YthoiolihkomgmaaDoor.Op5 Go.Proofs.YthoiolihkomgmaaDoor.Tb5 Go.Proofs.YthoiolihkomgmaaDoor.Pv5 Go.Proofs.YthoiolihkomgmaaDoor.Rv5 Go.Proofs.YthoiolihkomgmaaDoor.Rs5 Go.Proofs.YthoiolihkomgmaaDoor.Rx5 Go.Proofs.YthoiolihkomgmaaDoor.Bg5
theorem whole_any (l : List UInt8) (w : World) (hs : ¬ (sz l < 0 ∨ (l.length : Int) < sz l)) (N : Nat) (hN : N = (sz l).toNat) :
    Calls Tryd.prog 32 #[.string (bs (l.take N))] w fun e w' => e = .returned (vv (whole (l.take N))) ∧ Below w.heap.size w w' := by
  cases l with
  | nil => exact absurd (Or.inl (by decide)) hs
  | cons k t =>
    simp only [List.length_cons] at hs
    by_cases h1 : k.toNat = 1
    · have es : sz (k :: t) = 2 := by simp [sz, h1]
      rw [es] at hs hN
      cases t with
      | nil => simp at hs
      | cons c r =>
        obtain rfl : N = 2 := by omega
        obtain rfl := kind_of h1
        have h := hd_of [UInt8.ofNat 1, c]
        have := whole_1 w h (by simp)
        have e : whole [UInt8.ofNat 1, c] = ⟨1, (c.toNat : Int), 0, ⟨#[]⟩⟩ := by simp [whole, b]
        show Calls _ _ #[.string (bs [UInt8.ofNat 1, c])] w fun e w' => e = .returned (vv (whole [UInt8.ofNat 1, c])) ∧ _
        rw [e]
        exact this
    by_cases h2 : k.toNat = 2
    · have es : sz (k :: t) = 9 := by simp [sz, h2]
      rw [es] at hs hN
      obtain rfl : N = 9 := by omega
      obtain rfl := kind_of h2
      have := whole_2 (t.take 8) w (by rw [List.length_take]; omega)
      have e : whole (UInt8.ofNat 2 :: t.take 8) = ⟨2, toI (getL (t.take 8)), 0, ⟨#[]⟩⟩ := by simp [whole, b]
      show Calls _ _ #[.string (bs (UInt8.ofNat 2 :: t.take 8))] w fun e w' => e = .returned (vv (whole (UInt8.ofNat 2 :: t.take 8))) ∧ _
      rw [e]
      exact this
    by_cases h3 : k.toNat = 3
    · have es : sz (k :: t) = 9 := by simp [sz, h3]
      rw [es] at hs hN
      obtain rfl : N = 9 := by omega
      obtain rfl := kind_of h3
      have := whole_3 (t.take 8) w (by rw [List.length_take]; omega)
      have e : whole (UInt8.ofNat 3 :: t.take 8) = ⟨3, 0, getL (t.take 8), ⟨#[]⟩⟩ := by simp [whole, b]
      show Calls _ _ #[.string (bs (UInt8.ofNat 3 :: t.take 8))] w fun e w' => e = .returned (vv (whole (UInt8.ofNat 3 :: t.take 8))) ∧ _
      rw [e]
      exact this
    by_cases h4 : k.toNat = 4
    · cases t with
      | nil => exact absurd (Or.inl (by simp [sz, h4])) hs
      | cons c r =>
        have es : sz (k :: c :: r) = 2 + (c.toNat : Int) := by simp [sz, h4]
        rw [es] at hs hN
        obtain rfl : N = c.toNat + 2 := by omega
        obtain rfl := kind_of h4
        have := whole_4 c (r.take c.toNat) w
        have e : whole (UInt8.ofNat 4 :: c :: r.take c.toNat) = ⟨4, 0, 0, bs (r.take c.toNat)⟩ := by simp [whole, b]
        show Calls _ _ #[.string (bs (UInt8.ofNat 4 :: c :: r.take c.toNat))] w fun e w' => e = .returned (vv (whole (UInt8.ofNat 4 :: c :: r.take c.toNat))) ∧ _
        rw [e]
        exact this
    by_cases h5 : k.toNat = 5
    · cases t with
      | nil => exact absurd (Or.inl (by simp [sz, h5])) hs
      | cons c r =>
        have es : sz (k :: c :: r) = 2 + (c.toNat : Int) := by simp [sz, h5]
        rw [es] at hs hN
        obtain rfl : N = c.toNat + 2 := by omega
        obtain rfl := kind_of h5
        have := whole_5 c (r.take c.toNat) w
        have e : whole (UInt8.ofNat 5 :: c :: r.take c.toNat) = ⟨5, 0, 0, bs (r.take c.toNat)⟩ := by simp [whole, b]
        show Calls _ _ #[.string (bs (UInt8.ofNat 5 :: c :: r.take c.toNat))] w fun e w' => e = .returned (vv (whole (UInt8.ofNat 5 :: c :: r.take c.toNat))) ∧ _
        rw [e]
        exact this
    · have es : sz (k :: t) = 1 := by simp [sz, h1, h2, h3, h4, h5]
      rw [es] at hs hN
      obtain rfl : N = 1 := by omega
      have hk : Kd k := by unfold Kd; omega
      have := whole_o w (hd_of [k]) hk (by simp)
      have e : whole [k] = ⟨(k.toNat : Int), 0, 0, ⟨#[]⟩⟩ := by simp [whole, b, h1, h2, h3, h4, h5]
      show Calls _ _ #[.string (bs [k])] w fun e w' => e = .returned (vv (whole [k])) ∧ _
      rw [e]
      exact this
theorem whole_ok (l : List UInt8) (hl : l.length ≤ 90000) (hs : ¬ (sz l < 0 ∨ (l.length : Int) < sz l)) (N : Nat) (hN : N = (sz l).toNat) : (whole (l.take N)).r < 18446744073709551616 ∧ (whole (l.take N)).s.size ≤ 140737488351232 := by
  cases l with
  | nil => exact absurd (Or.inl (by decide)) hs
  | cons k t =>
    simp only [List.length_cons] at hl
    have hN1 : 1 ≤ N := by
      have : 1 ≤ sz (k :: t) := by
        have hs' : ¬ sz (k :: t) < 0 := fun h => hs (Or.inl h)
        revert hs'
        unfold sz
        simp only
        split
        · intro; omega
        split
        · intro; omega
        split
        · cases t with
          | nil => intro h; exact absurd (show (-1 : Int) < 0 by omega) h
          | cons c r => intro; show (1 : Int) ≤ 2 + (c.toNat : Int); omega
        · intro; omega
      omega
    have hb : b ((k :: t).take N) 0 = k.toNat := by
      rw [b_take _ _ _ (by omega)]; rfl
    unfold whole
    rw [hb]
    by_cases h1 : k.toNat = 1
    · rw [if_pos h1]; exact ⟨by show (0 : Nat) < _; omega, Nat.zero_le _⟩
    rw [if_neg h1]
    by_cases h2 : k.toNat = 2
    · rw [if_pos h2]; exact ⟨by show (0 : Nat) < _; omega, Nat.zero_le _⟩
    rw [if_neg h2]
    by_cases h3 : k.toNat = 3
    · rw [if_pos h3]
      have es : sz (k :: t) = 9 := by simp [sz, h3]
      refine ⟨getL_small _ ?_, Nat.zero_le _⟩
      rw [List.length_drop, List.length_take]
      omega
    rw [if_neg h3]
    by_cases h4 : k.toNat = 4 ∨ k.toNat = 5
    · rw [if_pos h4]
      refine ⟨by show (0 : Nat) < _; omega, ?_⟩
      show (((k :: t).take N).drop 2).length ≤ _
      rw [List.length_drop, List.length_take, List.length_cons]
      omega
    · rw [if_neg h4]; exact ⟨by show (0 : Nat) < _; omega, Nat.zero_le _⟩
set_option maxRecDepth 20000 in
theorem refget_any (l : List UInt8) (w : World) (hT : Tabs w) (hl : l.length ≤ 90000) :
    Calls Tryd.prog 18 #[.string (bs l)] w (ValGot w l (Cm.value l)) := by
  have hsz := bs_size l
  have FS := Lib.hid (fun W => size_any l W)
  rw [← refGet_eq]
  have T0 := Lib.hid (hT.keep ((Below.refl w.heap.size w).alloc (Nat.le_refl _) (.cells #[.int .u8 0, .int .i64 0, .int .u64 0, .string ⟨#[]⟩] 24)))
  have hA : Below w.heap.size w (w.alloc (.cells #[.int .u8 0, .int .i64 0, .int .u64 0, .string ⟨#[]⟩] 24)) := (Below.refl _ _).alloc (Nat.le_refl _) _
  have HA := Lib.hid hA
  have X0 := Lib.hid (Box.new w 0 0 0 ⟨#[]⟩)
  clear hT hA
  unfold refGet
  by_cases hs : sz l < 0 ∨ (l.length : Int) < sz l
  · rw [if_pos hs]
    have FB : Hid (∀ W, Tabs W → Calls Tryd.prog 31 #[.string (bs l)] W fun e w' => e = .returned (.bool (rb l)) ∧ Below W.heap.size W w') := Lib.hid fun W hW => begins_any l W hW hs
    obtain ⟨z, hz⟩ : ∃ z, z = sz l := ⟨_, rfl⟩
    rw [← hz] at hs FS
    clear hz
    obtain ⟨S, hS⟩ : ∃ S, S = bs l := ⟨_, rfl⟩
    rw [← hS] at hsz FS FB ⊢
    clear hS
    by_cases h0 : z < 0
    · cases hr : rb l
      all_goals
        rw [hr] at FB
        go_enter Tryd.func18, Tryd.ntmps18
        go_wp2_with fail
        with_reducible refine (FS.out _).mono ?_
        rintro e w0 ⟨rfl, rfl⟩
        go_wp2_with fail
        with_reducible refine (FB.out _ T0.out).mono ?_
        rintro e w1 ⟨rfl, hb⟩
        have HB := Lib.hid hb
        obtain ⟨d0, d1, d2, d3⟩ := (X0.out.below hb).cells
        have dz := (X0.out.below hb).soft
        obtain ⟨hs0, hs1, hs2, hs3⟩ := reads4 (X0.out.below hb).four
        clear hb
        go_wp2
        first
          | (refine bodyPost_ret (v := .tuple #[.agg #[.int .u8 0, .int .i64 0, .int .u64 0, .string ⟨#[]⟩], .int .i64 0, .int .i64 7]) (by simp [results, Tryd.results18, go_sem, hs0, hs1, hs2, hs3]) rfl ⟨rfl, ?_⟩; exact ((((HA.out.trans (HB.out.mono HA.out.size)).setCell (Nat.le_refl _) _).setCell (Nat.le_refl _) _).setCell (Nat.le_refl _) _).setCell (Nat.le_refl _) _)
          | (refine bodyPost_ret (v := .tuple #[.agg #[.int .u8 0, .int .i64 0, .int .u64 0, .string ⟨#[]⟩], .int .i64 0, .int .i64 6]) (by simp [results, Tryd.results18, go_sem, hs0, hs1, hs2, hs3]) rfl ⟨rfl, ?_⟩; exact ((((HA.out.trans (HB.out.mono HA.out.size)).setCell (Nat.le_refl _) _).setCell (Nat.le_refl _) _).setCell (Nat.le_refl _) _).setCell (Nat.le_refl _) _)
    · have h1 : (l.length : Int) < z := by omega
      cases hr : rb l
      all_goals
        rw [hr] at FB
        go_enter Tryd.func18, Tryd.ntmps18
        go_wp2_with fail
        with_reducible refine (FS.out _).mono ?_
        rintro e w0 ⟨rfl, rfl⟩
        go_wp2_with fail
        with_reducible refine (FB.out _ T0.out).mono ?_
        rintro e w1 ⟨rfl, hb⟩
        have HB := Lib.hid hb
        obtain ⟨d0, d1, d2, d3⟩ := (X0.out.below hb).cells
        have dz := (X0.out.below hb).soft
        obtain ⟨hs0, hs1, hs2, hs3⟩ := reads4 (X0.out.below hb).four
        clear hb
        go_wp2
        first
          | (refine bodyPost_ret (v := .tuple #[.agg #[.int .u8 0, .int .i64 0, .int .u64 0, .string ⟨#[]⟩], .int .i64 0, .int .i64 7]) (by simp [results, Tryd.results18, go_sem, hs0, hs1, hs2, hs3]) rfl ⟨rfl, ?_⟩; exact ((((HA.out.trans (HB.out.mono HA.out.size)).setCell (Nat.le_refl _) _).setCell (Nat.le_refl _) _).setCell (Nat.le_refl _) _).setCell (Nat.le_refl _) _)
          | (refine bodyPost_ret (v := .tuple #[.agg #[.int .u8 0, .int .i64 0, .int .u64 0, .string ⟨#[]⟩], .int .i64 0, .int .i64 6]) (by simp [results, Tryd.results18, go_sem, hs0, hs1, hs2, hs3]) rfl ⟨rfl, ?_⟩; exact ((((HA.out.trans (HB.out.mono HA.out.size)).setCell (Nat.le_refl _) _).setCell (Nat.le_refl _) _).setCell (Nat.le_refl _) _).setCell (Nat.le_refl _) _)
  · rw [if_neg hs]
    obtain ⟨N, hN⟩ : ∃ N, N = (sz l).toNat := ⟨_, rfl⟩
    rw [← hN]
    have hNz : sz l = (N : Int) := by omega
    have hNl : N ≤ l.length := by omega
    have FW := Lib.hid (fun W => whole_any l W hs N hN)
    have hwo := whole_ok l hl hs N hN
    have FM : Hid (∀ W, Tabs W → Calls Tryd.prog 13 #[vv (whole (l.take N))] W fun e w' => e = .returned (.bool (may (whole (l.take N)))) ∧ Below W.heap.size W w') := Lib.hid fun W hW => refmay_any _ W hW hwo.1 hwo.2
    rw [hNz] at FS
    have hex := bs_take l N
    obtain ⟨S, hS⟩ : ∃ S, S = bs l := ⟨_, rfl⟩
    rw [← hS] at hsz FS hex ⊢
    obtain ⟨T, hT⟩ : ∃ T, T = bs (l.take N) := ⟨_, rfl⟩
    rw [← hT] at FW hex
    obtain ⟨v, hv⟩ : ∃ v, v = whole (l.take N) := ⟨_, rfl⟩
    rw [← hv] at FW FM ⊢
    obtain ⟨R, hR⟩ : ∃ R, R = l.drop N := ⟨_, rfl⟩
    have hRl : (l.length : Int) - (R.length : Int) = (N : Int) := by rw [hR, List.length_drop]; omega
    rw [← hR]
    have HRL := Lib.hid hRl
    clear hs hN hNz hwo hS hT hv hR hRl
    obtain ⟨k, n, r, s⟩ := v
    unfold checked
    unfold vv at FW FM
    dsimp only at FW FM
    have n1 : ¬ (N : Int) < 0 := by omega
    have n2 : ¬ (l.length : Int) < (N : Int) := by omega
    have n3 : (N : Int) ≤ (l.length : Int) := by omega
    have n4 : (0 : Int) ≤ (N : Int) := by omega
    cases hm : may ⟨k, n, r, s⟩
    · rw [hm] at FM
      rw [if_neg (by simp)]
      clear hm
      go_enter Tryd.func18, Tryd.ntmps18
      go_wp2_with fail
      with_reducible refine (FS.out _).mono ?_
      rintro e w0 ⟨rfl, rfl⟩
      go_wp2_with fail
      with_reducible refine (FW.out _).mono ?_
      rintro e w1 ⟨rfl, hb⟩
      have HB := Lib.hid hb
      have X1 := Lib.hid ((X0.out.below hb).past (.cells #[.int .u8 k, .int .i64 n, .int .u64 (r : Int), .string s] 24))
      have T1 := Lib.hid ((T0.out.keep hb).keep ((Below.refl w1.heap.size w1).alloc (Nat.le_refl _) (.cells #[.int .u8 k, .int .i64 n, .int .u64 (r : Int), .string s] 24)))
      clear hb
      go_wp2_with fail
      with_reducible refine (FM.out _ T1.out).mono ?_
      rintro e w2 ⟨rfl, hb⟩
      have HB2 := Lib.hid hb
      obtain ⟨d0, d1, d2, d3⟩ := (X1.out.below hb).cells
      have dz := (X1.out.below hb).soft
      obtain ⟨hs0, hs1, hs2, hs3⟩ := reads4 (X1.out.below hb).four
      have HZ := Lib.hid (((HA.out.trans (HB.out.mono HA.out.size)).alloc (by have := HA.out.size; have := HB.out.size; omega) (.cells #[.int .u8 k, .int .i64 n, .int .u64 (r : Int), .string s] 24)).trans (hb.mono (by have := HA.out.size; have := HB.out.size; simp; omega)))
      clear hb
      go_wp2
      refine bodyPost_ret (v := .tuple #[.agg #[.int .u8 0, .int .i64 0, .int .u64 0, .string ⟨#[]⟩], .int .i64 0, .int .i64 7]) (by simp [results, Tryd.results18, go_sem, hs0, hs1, hs2, hs3]) rfl ⟨rfl, ?_⟩
      exact ((((HZ.out).setCell (Nat.le_refl _) _).setCell (Nat.le_refl _) _).setCell (Nat.le_refl _) _).setCell (Nat.le_refl _) _
    · rw [hm] at FM
      rw [if_pos rfl]
      clear hm
      go_enter Tryd.func18, Tryd.ntmps18
      go_wp2_with fail
      with_reducible refine (FS.out _).mono ?_
      rintro e w0 ⟨rfl, rfl⟩
      go_wp2_with fail
      with_reducible refine (FW.out _).mono ?_
      rintro e w1 ⟨rfl, hb⟩
      have HB := Lib.hid hb
      have X1 := Lib.hid ((X0.out.below hb).past (.cells #[.int .u8 k, .int .i64 n, .int .u64 (r : Int), .string s] 24))
      have Y1 := Lib.hid (Box.new w1 k n r s)
      have T1 := Lib.hid ((T0.out.keep hb).keep ((Below.refl w1.heap.size w1).alloc (Nat.le_refl _) (.cells #[.int .u8 k, .int .i64 n, .int .u64 (r : Int), .string s] 24)))
      clear hb
      go_wp2_with fail
      with_reducible refine (FM.out _ T1.out).mono ?_
      rintro e w2 ⟨rfl, hb⟩
      have HB2 := Lib.hid hb
      obtain ⟨d0, d1, d2, d3⟩ := (X1.out.below hb).cells
      obtain ⟨c0, c1, c2, c3⟩ := (Y1.out.below hb).cells
      have dz := (X1.out.below hb).soft
      obtain ⟨hs0, hs1, hs2, hs3⟩ := reads4 (X1.out.below hb).four
      have HZ := Lib.hid (((HA.out.trans (HB.out.mono HA.out.size)).alloc (by have := HA.out.size; have := HB.out.size; omega) (.cells #[.int .u8 k, .int .i64 n, .int .u64 (r : Int), .string s] 24)).trans (hb.mono (by have := HA.out.size; have := HB.out.size; simp; omega)))
      clear hb
      go_wp2
      refine bodyPost_ret (v := .tuple #[.agg #[.int .u8 k, .int .i64 n, .int .u64 (r : Int), .string s], .int .i64 (N : Int), .int .i64 0]) (by simp [results, Tryd.results18, go_sem, hs0, hs1, hs2, hs3]) rfl ⟨by rw [HRL.out]; rfl, ?_⟩
      exact ((((HZ.out).setCell (Nat.le_refl _) _).setCell (Nat.le_refl _) _).setCell (Nat.le_refl _) _).setCell (Nat.le_refl _) _
end Go.Proofs.YthoiolihkomgmaaDoor.Ge5
