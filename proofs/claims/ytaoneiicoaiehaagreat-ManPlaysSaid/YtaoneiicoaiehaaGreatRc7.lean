/- The contract of the document's own Scan (package fascicleref07) (written by genrc7.py). -/
import Derived.Test.YtaoneiicoaiehaaGreatFb2
import Derived.Test.YtaoneiicoaiehaaGreatRf7
namespace Go.Proofs.YtaoneiicoaiehaaGreat.Rc7
set_option maxRecDepth 100000
open Go Go.RowKit Go.Proofs Go.Proofs.YtaoneiicoaiehaaGreat.Wm Go.Proofs.YtaoneiicoaiehaaGreat.Wc Go.Proofs.YtaoneiicoaiehaaGreat.Fl7 Go.Proofs.YtaoneiicoaiehaaGreat.Rs7 Go.Proofs.YtaoneiicoaiehaaGreat.Fs7 Go.Proofs.YtaoneiicoaiehaaGreat.Ff7
theorem scan_step {b t : List UInt8} {L : List (List UInt8)} {k : Nat} {T : List (List UInt8) × Nat × Nat} (h : T = (L ++ (scan (b.drop k)).1, k + (scan (b.drop k)).2.1, (scan (b.drop k)).2.2)) (hb : b.drop k ≠ []) (hf : first (b.drop k) = (t, 0)) :
    T = ((L ++ [t]) ++ (scan (b.drop (k + 12 + t.length))).1, k + 12 + t.length + (scan (b.drop (k + 12 + t.length))).2.1, (scan (b.drop (k + 12 + t.length))).2.2) := by
  have h2 := scan_ok hb hf
  have e : (b.drop k).drop (12 + t.length) = b.drop (k + 12 + t.length) := by rw [List.drop_drop]; congr 1; omega
  rw [e] at h2
  rw [h, h2]
  simp only [List.append_assoc, List.singleton_append, Nat.add_assoc]
theorem scan_stop {b t : List UInt8} {e : Nat} {L : List (List UInt8)} {k : Nat} {T : List (List UInt8) × Nat × Nat} (h : T = (L ++ (scan (b.drop k)).1, k + (scan (b.drop k)).2.1, (scan (b.drop k)).2.2)) (hb : b.drop k ≠ []) (hf : first (b.drop k) = (t, e)) (he : e ≠ 0) : T = (L, k, e) := by
  rw [h, scan_why hb hf he]; simp
theorem below_grown {W0 W W3 : World} {n0 k : Nat} {v : Value} {xs : List Value} (hown : W0.ownsRow n0 9 1 v k xs) (hg : W.grownBy W3 v.ownBlock) (hn : n0 ≤ W.heap.size) : Below n0 W W3 :=
  ⟨hg.os, hg.tape, hg.output, hg.size, fun j hj => hg.block j (by omega) (fun e => by
    rcases hown.2 with ⟨rfl, _⟩ | ⟨g, cap, cur, rfl, hb, _⟩
    · cases e
    · have : j = g := by injection e
      omega)⟩
theorem told_of {w W : World} {T : List (List UInt8) × Nat × Nat} {L : List (List UInt8)} {k e : Nat} {A : Option Addr} {c : Nat} (hT : T = (L, k, e)) (hown : W.ownsRow w.heap.size 9 1 (.slice A L.length c) L.length (cellsS L)) (hB : Below w.heap.size w W) :
    Fs7.Told w T (.returned (.tuple #[.slice A L.length c, .int .i64 (k : Int), .int .i64 (e : Int)])) W := by
  rw [hT]; exact ⟨A, c, rfl, hown, hB⟩
theorem q_sum (t : ByteArray) (S : ByteArray) (hS : S = bs (sum4 t.data.toList)) (hm : t.size ≤ maxLen) : ∃ C : Nat, Hid (∀ W, Calls Tryz.prog 106 #[.string t] W fun e w' => e = .returned (.int .u32 (C : Int)) ∧ W = w') ∧
    Hid (∀ W, Calls Tryz.prog 105 #[.int .u32 (C : Int)] W fun e w' => e = .returned (.string S) ∧ Below W.heap.size W w') := by
  obtain ⟨C, _, _, h1, h2⟩ := Rf7.sum_at t hm
  exact ⟨C, h1, by rw [hS]; exact h2⟩
theorem q_get (t : ByteArray) (n : Nat) (h4 : t.size = 4) (hn : n = getL t.data.toList) : Hid (∀ W, Calls Tryz.prog 76 #[.string t] W fun e w' => e = .returned (.tuple #[.int .u64 (n : Int), .int .i64 0]) ∧ W = w') :=
  Lib.hid fun W => by rw [hn]; exact WRefPut.get_ok t W (by omega) (by omega)
section
variable {P : Program} {md : Region.Mode} {ops : Array Oper} {Q : Exit → Act → World → Prop} {S : World → Prop}
/-- An operation that is not wanted. -/
theorem heldUn {i : Nat} {oi : Oper} {fuel : Nat} {listed : Array Bool} {a : Act} {w : World} (d : Option Tmp) (hi : ops[i]? = some oi) (hd : oi.dst = d) (hs : Region.noSelect ops = true) (hf : Region.free md ops listed i = true)
    (hr : (Region.ready md ops listed).contains i = true) (hQ : ∀ c a w, Q (.panic c) (a.put d undef) w → Q (.panic c) a w) (hw : Region.wanted oi (yielded ops a.tmps) = false) (hS : S w)
    (h : wpAnyH P md ops Q S fuel (listed.setIfInBounds i true) (a.put d undef) w) : wpAnyH P md ops Q S (fuel + 1) listed a w := by
  subst hd
  exact wpAnyH_take hi hs hf hr hQ (Or.inr ⟨hw, rfl⟩) hS h
/-- One that yields a value, whatever the world that meets S. -/
theorem heldIn {i : Nat} {oi : Oper} {fuel : Nat} {listed : Array Bool} {a : Act} {w : World} (d : Option Tmp) {v : Value} (hi : ops[i]? = some oi) (hd : oi.dst = d) (hs : Region.noSelect ops = true) (hf : Region.free md ops listed i = true)
    (hr : (Region.ready md ops listed).contains i = true) (hQ : ∀ c a w, Q (.panic c) (a.put d v) w → Q (.panic c) a w) (hw : Region.wanted oi (yielded ops a.tmps) = true) (hS : S w) (hy : ∀ w, S w → (execOp a.eval oi).run P w = .ok (.value v) w)
    (h : wpAnyH P md ops Q S fuel (listed.setIfInBounds i true) (a.put d v) w) : wpAnyH P md ops Q S (fuel + 1) listed a w := by
  subst hd
  exact wpAnyH_take hi hs hf hr hQ (Or.inl ⟨hw, hy⟩) hS h
end
set_option maxRecDepth 40000 in
set_option maxHeartbeats 4000000 in
theorem rscan (b : ByteArray) (w : World) (hb : b.size ≤ 4294967296) :
    Calls Tryz.prog 75 #[.string b] w (Fs7.Told w (scan b.data.toList)) := by
  obtain ⟨i0, hi, hz0, hz1, hz2⟩ := info_parts infoS
  obtain ⟨T, hT⟩ : ∃ T, T = scan b.data.toList := ⟨_, rfl⟩
  rw [← hT]
  have hbl : b.data.toList.length = b.size := by simp
  have HBL := Lib.hid hbl
  have HT0 : Hid (T = ([] ++ (scan (b.data.toList.drop 0)).1, 0 + (scan (b.data.toList.drop 0)).2.1, (scan (b.data.toList.drop 0)).2.2)) := Lib.hid (by rw [hT, List.drop_zero, Nat.zero_add]; rfl)
  clear hT hbl
  go_enter Tryz.func75, Tryz.ntmps75
  go_wp2
  go_loopw [5, 6] (fun v i wr => ∃ (L : List (List UInt8)) (k : Nat) (A : Option Addr) (c : Nat), v = .slice A L.length c ∧ i = .int .i64 k ∧ k ≤ b.size ∧ L.length ≤ k ∧ Hid (T = (L ++ (scan (b.data.toList.drop k)).1, k + (scan (b.data.toList.drop k)).2.1, (scan (b.data.toList.drop k)).2.2)) ∧ Hid (wr.ownsRow w.heap.size 9 1 (.slice A L.length c) L.length (cellsS L)) ∧ Hid (Below w.heap.size w wr)) (fun _ i _ => b.size - (intOf i).toNat)
  case atStart => exact ⟨[], 0, none, 0, rfl, rfl, by omega, Nat.le_refl _, HT0, Lib.hid (World.ownsRow_nil _ _ _ _), Lib.hid (Below.refl _ _)⟩
  case round =>
    obtain ⟨L, k, A, c, rfl, rfl, hk, hLk, HT, HOW, HB⟩ := hrel
    by_cases hkb : k < b.size
    · obtain ⟨R, hR⟩ : ∃ R, R = b.extract k b.size := ⟨_, rfl⟩
      obtain ⟨l, hl⟩ : ∃ l, l = b.data.toList.drop k := ⟨_, rfl⟩
      have hRl : R.data.toList = l := by rw [hR, ex_list, hl, List.take_of_length_le (by rw [HBL.out]; omega)]
      have hll : l.length = b.size - k := by rw [hl, List.length_drop, HBL.out]
      have hRs : R.size = b.size - k := by rw [← hll, ← hRl]; simp
      have hne : b.data.toList.drop k ≠ [] := ne_nil_of_len (by rw [← hl]; omega)
      have HNE := Lib.hid hne
      have hzk : (k : Int) ≤ (b.size : Int) := by omega
      have HL := Lib.hid hl
      have hRZ : R.size ≤ 4294967296 := by omega
      have HRR := Lib.hid hR
      have hR2 := hR.symm
      clear hne hR
      by_cases h8 : R.size < 8
      · have hf : first (b.data.toList.drop k) = ([], 70) := by rw [← HL.out]; unfold first; rw [if_pos (by omega)]
        have HST := Lib.hid (scan_stop HT.out HNE.out hf (by omega))
        have hz8 : decide ((R.size : Int) < 8) = true := decide_eq_true (by omega)
        clear hf HT HNE hl hll hRl hRs HL HRR
        go_wp2
        go_ret3
        exact told_of HST.out HOW.out HB.out
      · have s4 : (R.extract 0 4).size = 4 := by rw [ByteArray.size_extract]; omega
        have l4 : (R.extract 0 4).data.toList = l.take 4 := by rw [ex_list, hRl]; rfl
        have l8 : (R.extract 4 8).toList = (l.take 8).drop 4 := by rw [ByteArray.toList_eq, ex_list, hRl]
        obtain ⟨n, hn⟩ : ∃ n, n = num l := ⟨_, rfl⟩
        have HG := q_get (R.extract 0 4) n s4 (by rw [l4, hn]; rfl)
        obtain ⟨S, hS⟩ : ∃ S, S = bs (sum4 (l.take 4)) := ⟨_, rfl⟩
        obtain ⟨C1, Q1, Q2⟩ := q_sum (R.extract 0 4) S (by rw [l4, hS]) (by rw [s4]; decide)
        have lS : S.toList = sum4 (l.take 4) := by rw [hS, ByteArray.toList_eq]; rfl
        have hn32 : n < 4294967296 := by
          have := getL_lt (l.take 4)
          have e4 : (l.take 4).length = 4 := by rw [List.length_take]; omega
          rw [e4] at this
          rw [hn]; exact this
        have z0 : (4 : Int) ≤ (R.size : Int) := by omega
        have z1 : (8 : Int) ≤ (R.size : Int) := by omega
        have hz8 : decide ((R.size : Int) < 8) = false := decide_eq_false (by omega)
        by_cases h1 : sum4 (l.take 4) = (l.take 8).drop 4
        · have hq : (S.toList == (R.extract 4 8).toList) = true := by rw [lS, l8]; exact beq_iff_eq.2 h1
          have hq2 : (S.toList != (R.extract 4 8).toList) = false := by rw [bne, hq]; rfl
          by_cases h2 : 4194304 < n
          · have hf : first (b.data.toList.drop k) = ([], 71) := by rw [← HL.out]; unfold first; rw [if_neg (by omega), if_neg (fun x => x h1), ← hn, if_pos h2]
            have HST := Lib.hid (scan_stop HT.out HNE.out hf (by omega))
            have z3 : decide ((4194304 : Int) < (n : Int)) = true := decide_eq_true (by omega)
            clear hf HT HNE hl hll hRl hRs HL HRR lS l8 l4 s4 hS hn h1
            go_wp2_with fail
            refine (HG.out _).mono ?_
            rintro e w1 ⟨rfl, rfl⟩
            clear HG
            go_wp2_with fail
            go_region_held3 (fun _ => True) (trivial) (first
              | (go_at_call 106; (with_reducible refine (Q1.out _).mono ?_); rintro e v1 ⟨rfl, rfl⟩)
              | (go_at_call 105; (with_reducible refine (Q2.out _).mono ?_); rintro e v1 ⟨rfl, hb⟩; have H1 := Lib.hid (((Below.refl _ wr).drew).trans hb); clear hb))
            all_goals
              go_wp2
              go_ret3
              exact told_of HST.out (own_keep HOW.out H1.out) (HB.out.trans (Below.mono H1.out HB.out.size))
          · have z3 : decide ((4194304 : Int) < (n : Int)) = false := decide_eq_false (by omega)
            have z4 : IntKind.i64.wrap (n : Int) = (n : Int) := Ff7.wrap_small n (by omega)
            by_cases h3 : R.size < 12 + n
            · have hf : first (b.data.toList.drop k) = ([], 70) := by rw [← HL.out]; unfold first; rw [if_neg (by omega), if_neg (fun x => x h1), ← hn, if_neg h2, if_pos (by omega)]
              have HST := Lib.hid (scan_stop HT.out HNE.out hf (by omega))
              clear hf HT HNE hl hll hRl hRs HL HRR lS l8 l4 s4 hS hn h1
              go_wp2_with fail
              refine (HG.out _).mono ?_
              rintro e w1 ⟨rfl, rfl⟩
              clear HG
              go_wp2_with fail
              go_region_held3 (fun _ => True) (trivial) (first
                | (go_at_call 106; (with_reducible refine (Q1.out _).mono ?_); rintro e v1 ⟨rfl, rfl⟩)
                | (go_at_call 105; (with_reducible refine (Q2.out _).mono ?_); rintro e v1 ⟨rfl, hb⟩; have H1 := Lib.hid (((Below.refl _ wr).drew).trans hb); clear hb))
              all_goals
                go_wp2
                go_ret3
                exact told_of HST.out (own_keep HOW.out H1.out) (HB.out.trans (Below.mono H1.out HB.out.size))
            · have lt : (R.extract 12 (12 + n)).data.toList = (l.take (12 + n)).drop 12 := by rw [ex_list, hRl]
              have lt2 : (R.extract 8 12).toList = (l.take 12).drop 8 := by rw [ByteArray.toList_eq, ex_list, hRl]
              have st : (R.extract 12 (12 + n)).size = n := by rw [ByteArray.size_extract]; omega
              obtain ⟨U, hU⟩ : ∃ U, U = bs (sum4 ((l.take (12 + n)).drop 12)) := ⟨_, rfl⟩
              obtain ⟨C2, Q3, Q4⟩ := q_sum (R.extract 12 (12 + n)) U (by rw [lt, hU]) (by rw [st]; unfold maxLen; omega)
              have lU : U.toList = sum4 ((l.take (12 + n)).drop 12) := by rw [hU, ByteArray.toList_eq]; rfl
              have z5 : (12 : Int) ≤ (R.size : Int) := by omega
              have z6 : ((12 : Int) + (n : Int)).toNat = 12 + n := by omega
              have z8 : decide ((R.size : Int) < 12 + (n : Int)) = false := decide_eq_false (by omega)
              have z9 : (12 : Int) ≤ 12 + (n : Int) := by omega
              have zA : 12 + (n : Int) ≤ (R.size : Int) := by omega
              by_cases h4 : sum4 ((l.take (12 + n)).drop 12) = (l.take 12).drop 8
              · have hf : first (b.data.toList.drop k) = ((l.take (12 + n)).drop 12, 0) := by rw [← HL.out]; unfold first; rw [if_neg (by omega), if_neg (fun x => x h1), ← hn, if_neg h2, if_neg (by omega), if_neg (fun x => x h4)]
                have hx := scan_step HT.out HNE.out hf
                have htl : ((l.take (12 + n)).drop 12).length = n := by rw [List.length_drop, List.length_take]; omega
                rw [htl] at hx
                obtain ⟨t, ht⟩ : ∃ t, t = (l.take (12 + n)).drop 12 := ⟨_, rfl⟩
                rw [← ht] at hx htl lt
                have HX := Lib.hid hx
                have htb : R.extract 12 (12 + n) = bs t := by rw [← lt]; exact (bs_of _).symm
                have HTB := Lib.hid htb
                have hu : (U.toList == (R.extract 8 12).toList) = true := by rw [lU, lt2]; exact beq_iff_eq.2 h4
                have hu2 : (U.toList != (R.extract 8 12).toList) = false := by rw [bne, hu]; rfl
                have hkn : k + 12 + n ≤ b.size := by omega
                clear hf HT HNE hl hll hRl hRs HL HRR lS l8 l4 s4 hS hn h1 lt lt2 st hU lU h4 hx ht htb
                go_wp2_with fail
                refine (HG.out _).mono ?_
                rintro e w1 ⟨rfl, rfl⟩
                clear HG
                go_wp2_with fail
                go_region_held3 (fun _ => True) (trivial) (first
                  | (go_at_call 106; (with_reducible refine (Q1.out _).mono ?_); rintro e v1 ⟨rfl, rfl⟩)
                  | (go_at_call 105; (with_reducible refine (Q2.out _).mono ?_); rintro e v1 ⟨rfl, hb⟩; have H1 := Lib.hid (((Below.refl _ wr).drew).trans hb); clear hb))
                all_goals
                  go_wp2
                  go_region_held3 (fun _ => True) (trivial) (first
                    | (go_at_call 106; (with_reducible refine (Q3.out _).mono ?_); rintro e v2 ⟨rfl, rfl⟩)
                    | (go_at_call 105; (with_reducible refine (Q4.out _).mono ?_); rintro e v2 ⟨rfl, hb⟩; have H2 := Lib.hid (((Below.refl _ v1).drew).trans hb); clear hb))
                  all_goals
                    have OW2 := own_keep (own_keep HOW.out H1.out) H2.out
                    have HB2 := HB.out.trans ((H1.out.trans (H2.out.mono H1.out.size)).mono HB.out.size)
                    obtain ⟨X, hX⟩ : ∃ X, X = R.extract 12 (12 + n) := ⟨_, rfl⟩
                    have HXB : Hid (X = bs t) := Lib.hid (by rw [hX]; exact HTB.out)
                    rw [← hX]
                    have P0 := Lib.hid (OW2.alloc (.cells #[.string X] 9))
                    have P2 : Hid (∀ j u, [Value.string X][j]? = some u → (v2.alloc (.cells #[.string X] 9)).cell? ((⟨v2.heap.size, 0, none⟩ : Addr).add j) = some u) := Lib.hid (cell_one_new _ _ _)
                    have P3 : Hid (∀ u ∈ [Value.string X], u.oneCell' = true) := Lib.hid (by simp [Value.oneCell'])
                    have P4 : Hid (L.length + 1 ≤ maxLen) := Lib.hid (by unfold maxLen; omega)
                    have P5 : Hid ((L.length + 1) * 16 ≤ 140737488355328) := Lib.hid (by omega)
                    have P6 : Hid (w.heap.size ≤ (v2.alloc (.cells #[.string X] 9)).heap.size) := Lib.hid (by have := HB2.size; simp; omega)
                    have P7 : Hid (∀ w3 v3, (v2.alloc (.cells #[.string X] 9)).grownBy w3 v3 → v3 = (Value.slice A L.length c).ownBlock → Below w.heap.size w w3) := Lib.hid fun w3 v3 hg e => by
                      subst e
                      exact HB2.trans ((((Below.refl v2.heap.size v2).alloc (Nat.le_refl _) (.cells #[.string X] 9)).mono HB2.size).trans (below_grown OW2 hg (by have := HB2.size; simp; omega)))
                    clear OW2 HB2 hX
                    go_wp2_with (at_builtin; refine wpList_append_own _ rfl _ _ 72 rfl w.heap.size 9 i0 (.string ⟨#[]⟩) 1 16 Tryz.underlying72 hi hz0 hz1 hz2 rfl (by decide) _ L.length (cellsS L) rfl P0.out ⟨v2.heap.size, 0, none⟩ 1 1 [.string X] rfl rfl P2.out P3.out P4.out P5.out P6.out ?_; intro v3 w3 own3 hgrow hn3; clear hn3; obtain ⟨g3, cap3, rfl⟩ := ownsRow_succ own3; have OW3 := Lib.hid own3; have HB3 := Lib.hid (P7.out _ _ hgrow rfl); clear own3 hgrow P0 P2 P6 P7)
                    refine ⟨⟨L ++ [t], k + 12 + n, some ⟨g3, 0, none⟩, cap3, by simp, by go_num, hkn, by simp; omega, HX, ?_, HB3⟩, by simp [intOf]; omega⟩
                    have e1 : (L ++ [t]).length = L.length + 1 := by simp
                    have e2 : cellsS (L ++ [t]) = cellsS L ++ [.string X] := by rw [HXB.out]; simp [cellsS]
                    rw [e1, e2]
                    exact OW3
              · have hf : first (b.data.toList.drop k) = ([], 71) := by rw [← HL.out]; unfold first; rw [if_neg (by omega), if_neg (fun x => x h1), ← hn, if_neg h2, if_neg (by omega), if_pos h4]
                have HST := Lib.hid (scan_stop HT.out HNE.out hf (by omega))
                have hu : (U.toList == (R.extract 8 12).toList) = false := by rw [lU, lt2]; exact beq_eq_false_iff_ne.2 h4
                have hu2 : (U.toList != (R.extract 8 12).toList) = true := by rw [bne, hu]; rfl
                clear hf HT HNE hl hll hRl hRs HL HRR lS l8 l4 s4 hS hn h1 lt lt2 st hU lU h4
                go_wp2_with fail
                refine (HG.out _).mono ?_
                rintro e w1 ⟨rfl, rfl⟩
                clear HG
                go_wp2_with fail
                go_region_held3 (fun _ => True) (trivial) (first
                  | (go_at_call 106; (with_reducible refine (Q1.out _).mono ?_); rintro e v1 ⟨rfl, rfl⟩)
                  | (go_at_call 105; (with_reducible refine (Q2.out _).mono ?_); rintro e v1 ⟨rfl, hb⟩; have H1 := Lib.hid (((Below.refl _ wr).drew).trans hb); clear hb))
                all_goals
                  go_wp2
                  go_region_held3 (fun _ => True) (trivial) (first
                    | (go_at_call 106; (with_reducible refine (Q3.out _).mono ?_); rintro e v2 ⟨rfl, rfl⟩)
                    | (go_at_call 105; (with_reducible refine (Q4.out _).mono ?_); rintro e v2 ⟨rfl, hb⟩; have H2 := Lib.hid (((Below.refl _ v1).drew).trans hb); clear hb))
                  all_goals
                    go_wp2
                    go_ret3
                    exact told_of HST.out (own_keep HOW.out (H1.out.trans (H2.out.mono H1.out.size))) (HB.out.trans (Below.mono (H1.out.trans (H2.out.mono H1.out.size)) HB.out.size))
        · have hq : (S.toList == (R.extract 4 8).toList) = false := by rw [lS, l8]; exact beq_eq_false_iff_ne.2 h1
          have hq2 : (S.toList != (R.extract 4 8).toList) = true := by rw [bne, hq]; rfl
          have hf : first (b.data.toList.drop k) = ([], 71) := by rw [← HL.out]; unfold first; rw [if_neg (by omega), if_pos h1]
          have HST := Lib.hid (scan_stop HT.out HNE.out hf (by omega))
          clear hf HT HNE hl hll hRl hRs HL HRR lS l8 l4 s4 hS hn h1
          go_wp2_with fail
          refine (HG.out _).mono ?_
          rintro e w1 ⟨rfl, rfl⟩
          clear HG
          go_wp2_with fail
          refine wp_region_held_drew (S := fun _ => True) (by kernel_rfl) ?_ (fun hHeld => ?_)
          · trivial
          refine heldIn (i := 0) (some 29) (v := ?_) rfl rfl (by kernel_rfl) (by kernel_rfl) (by kernel_rfl) (fun _ _ _ h => h) (by rfl) (by assumption) ?_ ?_
          rotate_left
          · intro w hSw
            try dsimp only at hSw
            go_simp
            try with_reducible rfl
          try simp only [Act.put, List.setIfInBounds_toArray, List.set_cons_zero, List.set_cons_succ]
          refine heldIn (i := 1) (some 30) (v := ?_) rfl rfl (by kernel_rfl) (by kernel_rfl) (by kernel_rfl) (fun _ _ _ h => h) (by rfl) (by assumption) ?_ ?_
          rotate_left
          · intro w hSw
            try dsimp only at hSw
            go_simp
            try with_reducible rfl
          try simp only [Act.put, List.setIfInBounds_toArray, List.set_cons_zero, List.set_cons_succ]
          refine heldIn (i := 4) (some 33) (v := ?_) rfl rfl (by kernel_rfl) (by kernel_rfl) (by kernel_rfl) (fun _ _ _ h => h) (by rfl) (by assumption) ?_ ?_
          rotate_left
          · intro w hSw
            try dsimp only at hSw
            go_simp
            try with_reducible rfl
          try simp only [Act.put, List.setIfInBounds_toArray, List.set_cons_zero, List.set_cons_succ]
          refine heldIn (i := 5) (some 34) (v := ?_) rfl rfl (by kernel_rfl) (by kernel_rfl) (by kernel_rfl) (fun _ _ _ h => h) (by rfl) (by assumption) ?_ ?_
          rotate_left
          · intro w hSw
            try dsimp only at hSw
            go_simp
            try with_reducible rfl
          try simp only [Act.put, List.setIfInBounds_toArray, List.set_cons_zero, List.set_cons_succ]
          refine wpAnyH_ready (rs := [2]) (by kernel_rfl) (by simp) ?_
          refine AllReadyH.cons rfl (fun K hK => ?_) AllReadyH.nil
          go_simp
          with_reducible refine (Q1.out _).mono ?_
          rintro e v1 ⟨rfl, rfl⟩
          go_wp2_with fail
          refine hK.out _ _ ?_ (fun hHeld => ?_)
          · trivial
          clear hK K
          try simp only [Act.put, List.setIfInBounds_toArray, List.set_cons_zero, List.set_cons_succ]
          refine wpAnyH_ready (rs := [3]) (by kernel_rfl) (by simp) ?_
          refine AllReadyH.cons rfl (fun K hK => ?_) AllReadyH.nil
          go_simp
          with_reducible refine (Q2.out _).mono ?_
          rintro e v1 ⟨rfl, hbx⟩
          have H1 := Lib.hid (((Below.refl _ wr).drew).trans hbx)
          clear hbx
          go_wp2_with fail
          refine hK.out _ _ ?_ (fun hHeld => ?_)
          · trivial
          clear hK K
          try simp only [Act.put, List.setIfInBounds_toArray, List.set_cons_zero, List.set_cons_succ]
          refine heldIn (i := 6) (some 35) (v := ?_) rfl rfl (by kernel_rfl) (by kernel_rfl) (by kernel_rfl) (fun _ _ _ h => h) (by rfl) (by assumption) ?_ ?_
          rotate_left
          · intro w hSw
            try dsimp only at hSw
            go_simp
            try with_reducible rfl
          try simp only [Act.put, List.setIfInBounds_toArray, List.set_cons_zero, List.set_cons_succ]
          refine heldIn (i := 7) (some 36) (v := ?_) rfl rfl (by kernel_rfl) (by kernel_rfl) (by kernel_rfl) (fun _ _ _ h => h) (by rfl) (by assumption) ?_ ?_
          rotate_left
          · intro w hSw
            try dsimp only at hSw
            go_simp
            try with_reducible rfl
          try simp only [Act.put, List.setIfInBounds_toArray, List.set_cons_zero, List.set_cons_succ]
          refine heldUn (i := 8) (some 37) rfl rfl (by kernel_rfl) (by kernel_rfl) (by kernel_rfl) (fun _ _ _ h => h) ?_ (by assumption) ?_
          · go_simp
          try simp only [Act.put, List.setIfInBounds_toArray, List.set_cons_zero, List.set_cons_succ]
          refine heldUn (i := 9) (some 38) rfl rfl (by kernel_rfl) (by kernel_rfl) (by kernel_rfl) (fun _ _ _ h => h) ?_ (by assumption) ?_
          · go_simp
          try simp only [Act.put, List.setIfInBounds_toArray, List.set_cons_zero, List.set_cons_succ]
          refine heldIn (i := 10) (some 39) (v := ?_) rfl rfl (by kernel_rfl) (by kernel_rfl) (by kernel_rfl) (fun _ _ _ h => h) (by rfl) (by assumption) ?_ ?_
          rotate_left
          · intro w hSw
            try dsimp only at hSw
            go_simp
            try with_reducible rfl
          try simp only [Act.put, List.setIfInBounds_toArray, List.set_cons_zero, List.set_cons_succ]
          refine wpAnyH_done (by kernel_rfl) ?_ _
          go_wp2
          go_ret3
          exact told_of HST.out (own_keep HOW.out H1.out) (HB.out.trans (Below.mono H1.out HB.out.size))
    · have hk2 : k = b.size := by omega
      have hdr : b.data.toList.drop k = [] := List.drop_eq_nil_of_le (by rw [HBL.out]; omega)
      have hfin : T = (L, k, 0) := by rw [HT.out, hdr, scan_nil]; simp
      have HF := Lib.hid hfin
      clear hdr hfin HT
      go_wp2
      go_ret3
      exact told_of HF.out HOW.out HB.out
end Go.Proofs.YtaoneiicoaiehaaGreat.Rc7
