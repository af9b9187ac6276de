/- MemPlays' walk. -/
import Derived.Test.YtkbjmbllnnghlaaTw9
import Derived.Test.YtkbjmbllnnghlaaOp9
namespace Go.Proofs.Ytkbjmbllnnghlaa.Pl9
open Go Go.RowKit Go.Proofs.Ytkbjmbllnnghlaa.Pm9 Go.Proofs.Ytkbjmbllnnghlaa.Wd9 Go.Proofs.Ytkbjmbllnnghlaa.Mt9 Go.Proofs.Ytkbjmbllnnghlaa.Mm9 Go.Proofs.Ytkbjmbllnnghlaa.Mg9 Go.Proofs.Ytkbjmbllnnghlaa.Sn9 Go.Proofs.Ytkbjmbllnnghlaa.Rd9 Go.Proofs.Ytkbjmbllnnghlaa.Ah9 Go.Proofs.Ytkbjmbllnnghlaa.Rg9 Go.Proofs.Ytkbjmbllnnghlaa.Rp9 Go.Proofs.Ytkbjmbllnnghlaa.Rq9 Go.Proofs.Ytkbjmbllnnghlaa.Ss9 Go.Proofs.Ytkbjmbllnnghlaa.La9 Go.Proofs.Ytkbjmbllnnghlaa.Tw9 Go.Proofs.Ytkbjmbllnnghlaa.Op9
theorem three_pair {W : World} {b : Nat} {G : Pr} (h : W.heap[b]? = some (pairO G)) : W.cell? ⟨b, 0, none⟩ = some (.string G.k) ∧ W.cell? ⟨b, 1, none⟩ = some (.string G.v) ∧ W.cell? ⟨b, 2, none⟩ = some (.bool G.g) := ⟨cell_of h 0, cell_of h 1, cell_of h 2⟩
theorem scan_every {n : Int} {l : List Pr} (h : (l.length : Int) ≤ n) : scan ⟨#[]⟩ ⟨#[]⟩ n l = l := by
  have h1 : ∀ q : Pr, within ⟨#[]⟩ ⟨#[]⟩ q = true := fun q => by
    unfold within lt
    have e : Op.bytesLess q.k.toList (ByteArray.toList ⟨#[]⟩) = false := by
      have : ByteArray.toList ⟨#[]⟩ = [] := by rw [ByteArray.toList_eq]
      rw [this]
      cases q.k.toList <;> rfl
    rw [e]; rfl
  unfold scan
  rw [List.filter_eq_self.2 fun q _ => h1 q]
  exact List.take_of_length_le (by omega)
section
variable {n0 : Nat} {w0 W : World} {S : Nat → Prop} {p : Nat}
theorem zero_len (h : Ses n0 w0 S p [] W) : Calls Try.prog 12 #[.pointer (some ⟨p, 0, none⟩)] W fun e w' => e = .returned (.int .i64 0) ∧ w' = W := s_len h
theorem zero_size (h : Ses n0 w0 S p [] W) : Calls Try.prog 13 #[.pointer (some ⟨p, 0, none⟩)] W fun e w' => e = .returned (.int .i64 0) ∧ w' = W := s_size h
theorem zero_scan (h : Ses n0 w0 S p [] W) : Calls Try.prog 18 #[.pointer (some ⟨p, 0, none⟩), .string ⟨#[]⟩, .string ⟨#[]⟩, .int .i64 9] W fun e w' => (∃ A c, e = .returned (.slice A 0 c)) ∧ Below W.heap.size W w' := by
  refine (s_scan h (by decide) ⟨#[]⟩ ⟨#[]⟩ 9).mono fun e w' x => ?_
  obtain ⟨A, c, h1, _, h3⟩ := x
  exact ⟨⟨A, c, h1⟩, h3⟩
end
theorem bne_int (E : Int) : (E != E) = false := by simp
theorem tw_start {n0 : Nat} {w0 W : World} {S : Nat → Prop} {p : Nat} (h : Ses n0 w0 S p [] W) : Tw n0 w0 p W.heap.size none 0 [] [] (W.alloc (.cells #[.slice none 0 0] 29)) :=
  ⟨⟨S, h.keep ((Below.refl _ _).alloc (Nat.le_refl _) _), fun hS => by have := (h.lo _ hS).2; omega, fun hL => absurd rfl hL⟩, ⟨heap_new _ _, Reads.nil _ _⟩, h.size⟩
/-- What is known at each world of the walk of the pair at hand. -/
theorem three_at {W0 V : World} {A : Option Addr} {L : List Pr} (h : Reads W0 A L) (hb : Below W0.heap.size W0 V) {k : Nat} (hk : k < L.length) : ∃ b o, A = some ⟨b, o, none⟩ ∧ Three V b (o + k * 3) L[k] := (h.keep (Nat.le_refl _) hb).at_ hk
section
variable {P : Program} {md : Region.Mode} {ops : Array Oper} {Q : Exit → Act → World → Prop} {S : World → Prop}
/-- An operation that is not wanted. -/
theorem heldUn {i : Nat} {oi : Oper} {fuel : Nat} {listed : Array Bool} {a : Act} {w : World} (d : Option Tmp) (hi : ops[i]? = some oi) (hd : oi.dst = d) (hs : Region.noSelect ops = true) (hf : Region.free md ops listed i = true)
    (hr : (Region.ready md ops listed).contains i = true) (hQ : ∀ c a w, Q (.panic c) (a.put d undef) w → Q (.panic c) a w) (hw : Region.wanted oi (yielded ops a.tmps) = false) (hS : S w)
    (h : wpAnyH P md ops Q S fuel (listed.setIfInBounds i true) (a.put d undef) w) : wpAnyH P md ops Q S (fuel + 1) listed a w := by
  subst hd
  exact wpAnyH_take hi hs hf hr hQ (Or.inr ⟨hw, rfl⟩) hS h
/-- One that yields a value, whatever the world that meets S. -/
theorem heldIn {i : Nat} {oi : Oper} {fuel : Nat} {listed : Array Bool} {a : Act} {w : World} (d : Option Tmp) {v : Value} (hi : ops[i]? = some oi) (hd : oi.dst = d) (hs : Region.noSelect ops = true) (hf : Region.free md ops listed i = true)
    (hr : (Region.ready md ops listed).contains i = true) (hQ : ∀ c a w, Q (.panic c) (a.put d v) w → Q (.panic c) a w) (hw : Region.wanted oi (yielded ops a.tmps) = true) (hS : S w) (hy : ∀ w, S w → (execOp a.eval oi).run P w = .ok (.value v) w)
    (h : wpAnyH P md ops Q S fuel (listed.setIfInBounds i true) (a.put d v) w) : wpAnyH P md ops Q S (fuel + 1) listed a w := by
  subst hd
  exact wpAnyH_take hi hs hf hr hQ (Or.inl ⟨hw, hy⟩) hS h
end
set_option maxRecDepth 40000 in
set_option maxHeartbeats 8000000 in
theorem walk (w : World) (A : Option Addr) (c : Nat) (L : List Pr) (key a b : ByteArray) (most : Int) (hc : PairsAt w A L) (wk : key.size ≤ 140737488351232) (wa : a.size ≤ 140737488351232) (wb : b.size ≤ 140737488351232) (_ : -9223372036854775808 ≤ most ∧ most ≤ 9223372036854775807) :
    Calls Try.prog 3 #[.slice A L.length c, .string key, .string a, .string b, .int .i64 most] w fun e w' => e = .returned (.bool true) ∧ Below w.heap.size w w' := by
  have HL := Lib.hid (large_any w A c L hc.reads hc.len hc.text)
  have HC := Lib.hid hc
  obtain ⟨N, hN⟩ : ∃ N, N = L.length := ⟨_, rfl⟩
  rw [← hN] at HL ⊢
  have HN := Lib.hid hN
  have hl0 := hc.len
  rw [← hN] at hl0
  clear hc hN
  go_enter Try.func3, Try.ntmps3
  go_wp2_with fail
  with_reducible refine HL.out.mono ?_
  rintro e w1 ⟨r, rfl, hr, hb1⟩
  have HB1 := Lib.hid hb1
  cases r
  · obtain ⟨hn, hz⟩ := hr rfl
    by_cases hbig : ((key.size : Int) + (a.size : Int)) + (b.size : Int) > 4096
    · clear hb1 hr HL
      go_wp2_with fail
      refine (alive_any _).mono ?_
      rintro e w2 ⟨rfl, hb2⟩
      go_wp2
      go_ret
      exact ⟨rfl, HB1.out.trans (hb2.mono HB1.out.size)⟩
    · have HNW := Lib.hid (s_new HB1.out (Nat.le_refl _))
      clear hb1 hr HL
      go_wp2_with fail
      with_reducible refine HNW.out.mono ?_
      rintro e w2 ⟨rfl, hs2, _⟩
      obtain ⟨p, hp⟩ : ∃ p, p = w1.heap.size := ⟨_, rfl⟩
      rw [← hp] at hs2 ⊢
      have ht := tw_start hs2
      obtain ⟨q, hq⟩ : ∃ q, q = w2.heap.size := ⟨_, rfl⟩
      rw [← hq] at ht
      have HT := Lib.hid ht
      clear hs2 ht hp HNW
      go_wp2
      rw [← hq]
      obtain ⟨w3, hw3⟩ : ∃ w3, w3 = w2.alloc (.cells #[.slice none 0 0] 29) := ⟨_, rfl⟩
      rw [← hw3] at HT ⊢
      clear hw3 hq
      go_loopw [13, 14, 15, 16, 17, 18, 40, 41, 42, 43, 44, 45, 46, 47, 48, 49, 50, 51, 52, 53, 54, 55, 56, 57, 58, 59, 60, 61, 62, 63, 64, 65, 66, 67, 68, 69, 70, 71, 72, 73, 74, 75, 76, 77, 78, 79, 80, 81, 82, 83, 84, 85, 86, 87, 88, 89, 90, 91, 92, 93, 94, 95, 96, 97, 98, 99, 100, 101, 102, 103, 104, 105, 106, 107, 108, 109, 110, 111, 112, 113] (fun i _ _ _ _ _ _ _ _ _ _ _ _ _ _ _ _ _ _ _ _ _ _ _ _ _ _ _ _ _ _ _ _ _ _ _ _ _ _ _ _ _ _ _ _ _ _ _ _ _ _ _ _ _ _ _ _ _ _ _ _ _ _ _ _ _ _ _ _ _ _ _ _ _ _ _ _ _ _ _ wr => ∃ (k : Nat) (A2 : Option Addr) (c2 : Nat), k ≤ N ∧ i = .int .i64 k ∧ Hid (Tw w.heap.size w p q A2 c2 (upto L k) (upto L k) wr)) (fun i _ _ _ _ _ _ _ _ _ _ _ _ _ _ _ _ _ _ _ _ _ _ _ _ _ _ _ _ _ _ _ _ _ _ _ _ _ _ _ _ _ _ _ _ _ _ _ _ _ _ _ _ _ _ _ _ _ _ _ _ _ _ _ _ _ _ _ _ _ _ _ _ _ _ _ _ _ _ _ _ => N - (intOf i).toNat)
      case atStart => exact ⟨0, none, 0, by omega, rfl, Lib.hid (by rw [upto_zero]; exact HT.out)⟩
      case round =>
        obtain ⟨k, A2, c2, hk, rfl, ht⟩ := hrel
        clear HT
        by_cases hlt : k < N
        · have hil : k < L.length := by rw [← HN.out]; exact hlt
          obtain ⟨u1, u2, u3, u4⟩ := upto_facts L k (by omega)
          have uf := upto_fine (by rw [← HN.out]; exact hn) HC.out.text (Nat.le_of_lt hil)
          have uz := size_take L k
          have us_ := upto_succ L k hil
          obtain ⟨v1, v2, v3, v4⟩ := upto_facts L (k + 1) (by omega)
          have vf := upto_fine (by rw [← HN.out]; exact hn) HC.out.text (show k + 1 ≤ L.length by omega)
          have vz := size_take L (k + 1)
          have hx := HC.out.text _ (List.getElem_mem hil)
          obtain ⟨bb, o, hA, p0, p1, p2⟩ := three_at HC.out.reads ht.out.below hil
          have HP : Hid (∀ V, Below w.heap.size w V → Three V bb (o + k * 3) L[k]) := Lib.hid fun V hV => by
            obtain ⟨b3, o3, e3, f3⟩ := three_at HC.out.reads hV hil
            rw [hA] at e3; cases e3
            exact f3
          obtain ⟨x, hxe⟩ : ∃ x, x = L[k] := ⟨_, rfl⟩
          rw [← hxe] at p0 p1 p2 hx HP us_
          obtain ⟨l, hle⟩ : ∃ l, l = upto L k := ⟨_, rfl⟩
          obtain ⟨l2, hle2⟩ : ∃ l2, l2 = upto L (k + 1) := ⟨_, rfl⟩
          rw [← hle] at u1 u2 u3 u4 uf us_ ht
          rw [← hle2] at v1 v2 v3 v4 vf us_
          subst hA
          have HK : Hid ((Pm9.get x.k l2 = Pm9.get x.k l2) ∧ Fine l ∧ Fine l2 ∧ Sorted l ∧ l2 = Pm9.put x l ∧ Pm9.size l ≤ 32768 ∧ Pm9.size l2 ≤ 32768 ∧ l2 = upto L (k + 1)) := Lib.hid ⟨rfl, uf, vf, u4, us_, by omega, by omega, hle2⟩
          have hl1 : l.length ≤ 1152921504606846976 := by omega
          have hl2 : l2.length ≤ 200 := by omega
          have HPUT := Lib.hid (tw_put ht.out x hx.1 hx.2 hl1 (by omega))
          rw [← us_] at HPUT
          obtain ⟨E, hE⟩ : ∃ E, E = erg (may x) := ⟨_, rfl⟩
          rw [← hE] at HPUT
          have HE := Lib.hid hE
          have hEE := bne_int E
          clear u1 u2 u3 u4 uf uz us_ v1 v2 v3 v4 vf vz hxe hle hle2 hE hil hl1
          go_wp2_with fail
          with_reducible refine HPUT.out.mono ?_
          rintro e w4 ⟨rfl, ht4⟩
          have HT4 := Lib.hid (ht4.keep (Below.refl _ _).drew)
          have HRP := Lib.hid (tw_rput HT4.out HK.out.2.1 HK.out.2.2.2.1 x hx.1 hx.2)
          rw [← HE.out, ← HK.out.2.2.2.2.1] at HRP
          obtain ⟨q0, q1, q2⟩ := HP.out _ ht4.below
          have hll := bne_int (l2.length : Int)
          have hzz := bne_int (Pm9.size l2 : Int)
          clear HPUT ht p0 p1 p2 ht4
          go_wp2
          refine wp_region_held_drew (S := (fun V => V.cell? ⟨bb, o + k * 3, none⟩ = some (.string x.k) ∧ V.cell? ⟨bb, o + k * 3 + 1, none⟩ = some (.string x.v) ∧ V.cell? ⟨bb, o + k * 3 + 2, none⟩ = some (.bool x.g))) (by kernel_rfl) ?_ (fun hHeld => ?_)
          · exact ⟨q0, q1, q2⟩
          refine heldIn (i := 0) (some 52) (v := ?_) rfl rfl (by kernel_rfl) (by kernel_rfl) (by kernel_rfl) (fun _ _ _ h => h) (by rfl) (by assumption) ?_ ?_
          rotate_left
          · intro w hSw
            obtain ⟨s0, s1, s2⟩ := hSw
            go_simp
            try with_reducible rfl
          try simp only [Act.put, List.setIfInBounds_toArray, List.set_cons_zero, List.set_cons_succ]
          refine heldIn (i := 1) (some 53) (v := ?_) rfl rfl (by kernel_rfl) (by kernel_rfl) (by kernel_rfl) (fun _ _ _ h => h) (by rfl) (by assumption) ?_ ?_
          rotate_left
          · intro w hSw
            obtain ⟨s0, s1, s2⟩ := hSw
            go_simp
            try with_reducible rfl
          try simp only [Act.put, List.setIfInBounds_toArray, List.set_cons_zero, List.set_cons_succ]
          refine heldIn (i := 2) (some 54) (v := ?_) rfl rfl (by kernel_rfl) (by kernel_rfl) (by kernel_rfl) (fun _ _ _ h => h) (by rfl) (by assumption) ?_ ?_
          rotate_left
          · intro w hSw
            obtain ⟨s0, s1, s2⟩ := hSw
            go_simp
            try with_reducible rfl
          try simp only [Act.put, List.setIfInBounds_toArray, List.set_cons_zero, List.set_cons_succ]
          refine heldIn (i := 3) (some 55) (v := ?_) rfl rfl (by kernel_rfl) (by kernel_rfl) (by kernel_rfl) (fun _ _ _ h => h) (by rfl) (by assumption) ?_ ?_
          rotate_left
          · intro w hSw
            obtain ⟨s0, s1, s2⟩ := hSw
            go_simp
            try with_reducible rfl
          try simp only [Act.put, List.setIfInBounds_toArray, List.set_cons_zero, List.set_cons_succ]
          refine heldIn (i := 4) (some 56) (v := ?_) rfl rfl (by kernel_rfl) (by kernel_rfl) (by kernel_rfl) (fun _ _ _ h => h) (by rfl) (by assumption) ?_ ?_
          rotate_left
          · intro w hSw
            obtain ⟨s0, s1, s2⟩ := hSw
            go_simp
            try with_reducible rfl
          try simp only [Act.put, List.setIfInBounds_toArray, List.set_cons_zero, List.set_cons_succ]
          refine heldIn (i := 5) (some 57) (v := ?_) rfl rfl (by kernel_rfl) (by kernel_rfl) (by kernel_rfl) (fun _ _ _ h => h) (by rfl) (by assumption) ?_ ?_
          rotate_left
          · intro w hSw
            obtain ⟨s0, s1, s2⟩ := hSw
            go_simp
            try with_reducible rfl
          try simp only [Act.put, List.setIfInBounds_toArray, List.set_cons_zero, List.set_cons_succ]
          refine wpAnyH_ready (rs := [6]) (by kernel_rfl) (by simp) ?_
          refine AllReadyH.cons rfl (fun K hK => ?_) ?_
          · go_simp
            (go_at_call 10)
            (with_reducible refine HRP.out.mono ?_)
            rintro e w5 ⟨rfl, A3, c3, ht5⟩
            obtain ⟨q0, q1, q2⟩ := HP.out _ ht5.below
            have HT5 := Lib.hid ht5
            have HCK := Lib.hid (check_any w5 x hx.1 hx.2)
            rw [← HE.out] at HCK
            clear ht5 HRP
            refine hK.out _ _ ?_ (fun hHeld => ?_)
            · exact ⟨q0, q1, q2⟩
            clear hK K
            try simp only [Act.put, List.setIfInBounds_toArray, List.set_cons_zero, List.set_cons_succ]
            refine heldIn (i := 7) (some 59) (v := ?_) rfl rfl (by kernel_rfl) (by kernel_rfl) (by kernel_rfl) (fun _ _ _ h => h) (by rfl) (by assumption) ?_ ?_
            rotate_left
            · intro w hSw
              obtain ⟨s0, s1, s2⟩ := hSw
              go_simp
              try with_reducible rfl
            try simp only [Act.put, List.setIfInBounds_toArray, List.set_cons_zero, List.set_cons_succ]
            refine heldIn (i := 8) (some 60) (v := ?_) rfl rfl (by kernel_rfl) (by kernel_rfl) (by kernel_rfl) (fun _ _ _ h => h) (by rfl) (by assumption) ?_ ?_
            rotate_left
            · intro w hSw
              obtain ⟨s0, s1, s2⟩ := hSw
              go_simp
              try with_reducible rfl
            try simp only [Act.put, List.setIfInBounds_toArray, List.set_cons_zero, List.set_cons_succ]
            refine heldIn (i := 9) (some 61) (v := ?_) rfl rfl (by kernel_rfl) (by kernel_rfl) (by kernel_rfl) (fun _ _ _ h => h) (by rfl) (by assumption) ?_ ?_
            rotate_left
            · intro w hSw
              obtain ⟨s0, s1, s2⟩ := hSw
              go_simp
              try with_reducible rfl
            try simp only [Act.put, List.setIfInBounds_toArray, List.set_cons_zero, List.set_cons_succ]
            refine heldIn (i := 10) (some 62) (v := ?_) rfl rfl (by kernel_rfl) (by kernel_rfl) (by kernel_rfl) (fun _ _ _ h => h) (by rfl) (by assumption) ?_ ?_
            rotate_left
            · intro w hSw
              obtain ⟨s0, s1, s2⟩ := hSw
              go_simp
              try with_reducible rfl
            try simp only [Act.put, List.setIfInBounds_toArray, List.set_cons_zero, List.set_cons_succ]
            refine heldIn (i := 11) (some 63) (v := ?_) rfl rfl (by kernel_rfl) (by kernel_rfl) (by kernel_rfl) (fun _ _ _ h => h) (by rfl) (by assumption) ?_ ?_
            rotate_left
            · intro w hSw
              obtain ⟨s0, s1, s2⟩ := hSw
              go_simp
              try with_reducible rfl
            try simp only [Act.put, List.setIfInBounds_toArray, List.set_cons_zero, List.set_cons_succ]
            refine heldIn (i := 12) (some 64) (v := ?_) rfl rfl (by kernel_rfl) (by kernel_rfl) (by kernel_rfl) (fun _ _ _ h => h) (by rfl) (by assumption) ?_ ?_
            rotate_left
            · intro w hSw
              obtain ⟨s0, s1, s2⟩ := hSw
              go_simp
              try with_reducible rfl
            try simp only [Act.put, List.setIfInBounds_toArray, List.set_cons_zero, List.set_cons_succ]
            refine heldIn (i := 13) (some 65) (v := ?_) rfl rfl (by kernel_rfl) (by kernel_rfl) (by kernel_rfl) (fun _ _ _ h => h) (by rfl) (by assumption) ?_ ?_
            rotate_left
            · intro w hSw
              obtain ⟨s0, s1, s2⟩ := hSw
              go_simp
              try with_reducible rfl
            try simp only [Act.put, List.setIfInBounds_toArray, List.set_cons_zero, List.set_cons_succ]
            refine wpAnyH_ready (rs := [14]) (by kernel_rfl) (by simp) ?_
            refine AllReadyH.cons rfl (fun K hK => ?_) ?_
            · go_simp
              (go_at_call 11)
              (with_reducible refine HCK.out.mono ?_)
              rintro e w6 ⟨rfl, hb6⟩
              have ht6 := HT5.out.keep hb6
              have hq6 := ht6.cell
              obtain ⟨q0, q1, q2⟩ := HP.out _ ht6.below
              have HT6 := Lib.hid ht6
              have HLEN := Lib.hid (tw_len ht6)
              have HSZ := Lib.hid (tw_size ht6)
              have HRS := Lib.hid (rsize_any ht6.ref HK.out.2.2.1 (Nat.le_trans HK.out.2.2.2.2.2.2.1 (by decide)))
              clear hb6 ht6 HCK
              refine hK.out _ _ ?_ (fun hHeld => ?_)
              · exact ⟨q0, q1, q2⟩
              clear hK K
              try simp only [Act.put, List.setIfInBounds_toArray, List.set_cons_zero, List.set_cons_succ]
              refine heldIn (i := 15) (some 67) (v := ?_) rfl rfl (by kernel_rfl) (by kernel_rfl) (by kernel_rfl) (fun _ _ _ h => h) (by rfl) (by assumption) ?_ ?_
              rotate_left
              · intro w hSw
                obtain ⟨s0, s1, s2⟩ := hSw
                go_simp
                try with_reducible rfl
              try simp only [Act.put, List.setIfInBounds_toArray, List.set_cons_zero, List.set_cons_succ]
              refine heldIn (i := 16) (some 68) (v := ?_) rfl rfl (by kernel_rfl) (by kernel_rfl) (by kernel_rfl) (fun _ _ _ h => h) (by rfl) (by assumption) ?_ ?_
              rotate_left
              · intro w hSw
                obtain ⟨s0, s1, s2⟩ := hSw
                go_simp
                try with_reducible rfl
              try simp only [Act.put, List.setIfInBounds_toArray, List.set_cons_zero, List.set_cons_succ]
              refine heldIn (i := 17) (some 69) (v := ?_) rfl rfl (by kernel_rfl) (by kernel_rfl) (by kernel_rfl) (fun _ _ _ h => h) (by rfl) (by assumption) ?_ ?_
              rotate_left
              · intro w hSw
                obtain ⟨s0, s1, s2⟩ := hSw
                go_simp
                try with_reducible rfl
              try simp only [Act.put, List.setIfInBounds_toArray, List.set_cons_zero, List.set_cons_succ]
              refine heldIn (i := 18) (some 70) (v := ?_) rfl rfl (by kernel_rfl) (by kernel_rfl) (by kernel_rfl) (fun _ _ _ h => h) (by rfl) (by assumption) ?_ ?_
              rotate_left
              · intro w hSw
                obtain ⟨s0, s1, s2⟩ := hSw
                go_simp
                try with_reducible rfl
              try simp only [Act.put, List.setIfInBounds_toArray, List.set_cons_zero, List.set_cons_succ]
              refine heldIn (i := 20) (some 72) (v := ?_) rfl rfl (by kernel_rfl) (by kernel_rfl) (by kernel_rfl) (fun _ _ _ h => h) (by rfl) (by assumption) ?_ ?_
              rotate_left
              · intro w hSw
                obtain ⟨s0, s1, s2⟩ := hSw
                go_simp
                try with_reducible rfl
              try simp only [Act.put, List.setIfInBounds_toArray, List.set_cons_zero, List.set_cons_succ]
              refine heldIn (i := 21) (some 73) (v := ?_) rfl rfl (by kernel_rfl) (by kernel_rfl) (by kernel_rfl) (fun _ _ _ h => h) (by rfl) (by assumption) ?_ ?_
              rotate_left
              · intro w hSw
                obtain ⟨s0, s1, s2⟩ := hSw
                go_simp
                try with_reducible rfl
              try simp only [Act.put, List.setIfInBounds_toArray, List.set_cons_zero, List.set_cons_succ]
              refine heldIn (i := 22) (some 74) (v := ?_) rfl rfl (by kernel_rfl) (by kernel_rfl) (by kernel_rfl) (fun _ _ _ h => h) (by rfl) (by assumption) ?_ ?_
              rotate_left
              · intro w hSw
                obtain ⟨s0, s1, s2⟩ := hSw
                go_simp
                try with_reducible rfl
              try simp only [Act.put, List.setIfInBounds_toArray, List.set_cons_zero, List.set_cons_succ]
              refine wpAnyH_ready (rs := [19, 23]) (by kernel_rfl) (by simp) ?_
              refine AllReadyH.cons rfl (fun K hK => ?_) ?_
              · go_simp
                (go_at_call 12)
                (with_reducible refine HLEN.out.mono ?_)
                rintro e w7 ⟨rfl, rfl⟩
                refine hK.out _ _ ?_ (fun hHeld => ?_)
                · exact ⟨q0, q1, q2⟩
                clear hK K
                try simp only [Act.put, List.setIfInBounds_toArray, List.set_cons_zero, List.set_cons_succ]
                refine wpAnyH_ready (rs := [23]) (by kernel_rfl) (by simp) ?_
                refine AllReadyH.cons rfl (fun K hK => ?_) ?_
                · go_simp
                  refine hK.out _ _ ?_ (fun hHeld => ?_)
                  · exact ⟨q0, q1, q2⟩
                  clear hK K
                  try simp only [Act.put, List.setIfInBounds_toArray, List.set_cons_zero, List.set_cons_succ]
                  refine heldIn (i := 24) (some 76) (v := ?_) rfl rfl (by kernel_rfl) (by kernel_rfl) (by kernel_rfl) (fun _ _ _ h => h) (by rfl) (by assumption) ?_ ?_
                  rotate_left
                  · intro w hSw
                    obtain ⟨s0, s1, s2⟩ := hSw
                    go_simp
                    try with_reducible rfl
                  try simp only [Act.put, List.setIfInBounds_toArray, List.set_cons_zero, List.set_cons_succ]
                  refine heldIn (i := 25) (some 77) (v := ?_) rfl rfl (by kernel_rfl) (by kernel_rfl) (by kernel_rfl) (fun _ _ _ h => h) (by rfl) (by assumption) ?_ ?_
                  rotate_left
                  · intro w hSw
                    obtain ⟨s0, s1, s2⟩ := hSw
                    go_simp
                    try with_reducible rfl
                  try simp only [Act.put, List.setIfInBounds_toArray, List.set_cons_zero, List.set_cons_succ]
                  refine heldIn (i := 26) (some 78) (v := ?_) rfl rfl (by kernel_rfl) (by kernel_rfl) (by kernel_rfl) (fun _ _ _ h => h) (by rfl) (by assumption) ?_ ?_
                  rotate_left
                  · intro w hSw
                    obtain ⟨s0, s1, s2⟩ := hSw
                    go_simp
                    try with_reducible rfl
                  try simp only [Act.put, List.setIfInBounds_toArray, List.set_cons_zero, List.set_cons_succ]
                  refine heldIn (i := 27) (some 79) (v := ?_) rfl rfl (by kernel_rfl) (by kernel_rfl) (by kernel_rfl) (fun _ _ _ h => h) (by rfl) (by assumption) ?_ ?_
                  rotate_left
                  · intro w hSw
                    obtain ⟨s0, s1, s2⟩ := hSw
                    go_simp
                    try with_reducible rfl
                  try simp only [Act.put, List.setIfInBounds_toArray, List.set_cons_zero, List.set_cons_succ]
                  refine heldIn (i := 28) (some 80) (v := ?_) rfl rfl (by kernel_rfl) (by kernel_rfl) (by kernel_rfl) (fun _ _ _ h => h) (by rfl) (by assumption) ?_ ?_
                  rotate_left
                  · intro w hSw
                    obtain ⟨s0, s1, s2⟩ := hSw
                    go_simp
                    try with_reducible rfl
                  try simp only [Act.put, List.setIfInBounds_toArray, List.set_cons_zero, List.set_cons_succ]
                  refine heldIn (i := 30) (some 82) (v := ?_) rfl rfl (by kernel_rfl) (by kernel_rfl) (by kernel_rfl) (fun _ _ _ h => h) (by rfl) (by assumption) ?_ ?_
                  rotate_left
                  · intro w hSw
                    obtain ⟨s0, s1, s2⟩ := hSw
                    go_simp
                    try with_reducible rfl
                  try simp only [Act.put, List.setIfInBounds_toArray, List.set_cons_zero, List.set_cons_succ]
                  refine wpAnyH_ready (rs := [29]) (by kernel_rfl) (by simp) ?_
                  refine AllReadyH.cons rfl (fun K hK => ?_) ?_
                  · go_simp
                    (go_at_call 13)
                    (with_reducible refine HSZ.out.mono ?_)
                    rintro e w7 ⟨rfl, rfl⟩
                    refine hK.out _ _ ?_ (fun hHeld => ?_)
                    · exact ⟨q0, q1, q2⟩
                    clear hK K
                    try simp only [Act.put, List.setIfInBounds_toArray, List.set_cons_zero, List.set_cons_succ]
                    refine wpAnyH_ready (rs := [31]) (by kernel_rfl) (by simp) ?_
                    refine AllReadyH.cons rfl (fun K hK => ?_) ?_
                    · go_simp
                      (go_at_call 14)
                      (with_reducible refine HRS.out.mono ?_)
                      rintro e w7 ⟨rfl, hb7⟩
                      have HT7 := Lib.hid (HT6.out.keep hb7)
                      obtain ⟨q0, q1, q2⟩ := HP.out _ HT7.out.below
                      clear hb7
                      refine hK.out _ _ ?_ (fun hHeld => ?_)
                      · exact ⟨q0, q1, q2⟩
                      clear hK K
                      try simp only [Act.put, List.setIfInBounds_toArray, List.set_cons_zero, List.set_cons_succ]
                      refine heldIn (i := 32) (some 84) (v := ?_) rfl rfl (by kernel_rfl) (by kernel_rfl) (by kernel_rfl) (fun _ _ _ h => h) (by rfl) (by assumption) ?_ ?_
                      rotate_left
                      · intro w hSw
                        obtain ⟨s0, s1, s2⟩ := hSw
                        go_simp
                        try with_reducible rfl
                      try simp only [Act.put, List.setIfInBounds_toArray, List.set_cons_zero, List.set_cons_succ]
                      refine heldIn (i := 33) (some 85) (v := ?_) rfl rfl (by kernel_rfl) (by kernel_rfl) (by kernel_rfl) (fun _ _ _ h => h) (by rfl) (by assumption) ?_ ?_
                      rotate_left
                      · intro w hSw
                        obtain ⟨s0, s1, s2⟩ := hSw
                        go_simp
                        try with_reducible rfl
                      try simp only [Act.put, List.setIfInBounds_toArray, List.set_cons_zero, List.set_cons_succ]
                      refine wpAnyH_done (by kernel_rfl) ?_ _
                      have HFN := Lib.hid HK.out.2.2.1
                      obtain ⟨Gg, hGg⟩ : ∃ G, G = (Pm9.get x.k l2).getD zp := ⟨_, rfl⟩
                      obtain ⟨Bg, hBg⟩ : ∃ B, B = (Pm9.get x.k l2).isSome := ⟨_, rfl⟩
                      have HGg := Lib.hid (tw_get HT7.out x.k)
                      simp only [gotV, ← hGg, ← hBg] at HGg
                      have hall : ∀ V A c, RefAt V q A c l2 → Calls Try.prog 16 #[.pointer (some ⟨q, 0, none⟩), .string x.k] V fun e w' => e = .returned (.tuple #[.agg #[.string Gg.k, .string Gg.v, .bool Gg.g], .bool Bg]) ∧ Below V.heap.size V w' := fun V A c h => by
                        have h2 := rget_any h HFN.out x.k
                        simp only [gotV, ← hGg, ← hBg] at h2
                        exact h2
                      have HALL := Lib.hid hall
                      clear hGg hBg hall
                      have hneg : ∀ w, (binOp .neq 33 (.agg #[.string Gg.k, .string Gg.v, .bool Gg.g]) (.agg #[.string Gg.k, .string Gg.v, .bool Gg.g])).run Try.prog w = .ok (.bool false) w := fun w => by rw [run_ne, eqP_iff.2 rfl]; rfl
                      have hbbg : (Bg != Bg) = false := by simp
                      go_wp2_with fail
                      with_reducible refine HGg.out.mono ?_
                      rintro e w8 ⟨rfl, hb8⟩
                      obtain ⟨w9, hw9⟩ : ∃ w9, w9 = w8.alloc (.cells #[.string Gg.k, .string Gg.v, .bool Gg.g] 33) := ⟨_, rfl⟩
                      have hb9 : Below w7.heap.size w7 w9 := by rw [hw9]; exact hb8.alloc hb8.size _
                      have x9 : w9.heap[w8.heap.size]? = some (pairO Gg) := by rw [hw9]; exact heap_new _ _
                      have HT9 := Lib.hid (HT7.out.keep hb9)
                      obtain ⟨y8, hy8⟩ : ∃ y8, y8 = w8.heap.size := ⟨_, rfl⟩
                      rw [← hy8] at x9
                      obtain ⟨r0, r1, r2⟩ := HP.out _ HT9.out.below
                      rw [hw9] at r0 r1 r2
                      clear q0 q1 q2
                      have HRG := HALL.out _ _ _ HT9.out.ref
                      rw [hw9] at HRG
                      have HRG2 := Lib.hid HRG
                      have HX9 := Lib.hid x9
                      have HW9 := Lib.hid hw9
                      clear HRG hb8 hb9 x9 hw9 HGg
                      go_wp2_with fail
                      with_reducible refine HRG2.out.mono ?_
                      rintro e w10 ⟨rfl, hb10⟩
                      rw [← HW9.out] at hb10
                      rw [← hy8]
                      clear hy8
                      obtain ⟨w11, hw11⟩ : ∃ w11, w11 = w10.alloc (.cells #[.string Gg.k, .string Gg.v, .bool Gg.g] 33) := ⟨_, rfl⟩
                      have hb11 : Below w9.heap.size w9 w11 := by rw [hw11]; exact hb10.alloc hb10.size _
                      have x11 : w11.heap[y8]? = some (pairO Gg) := (hb11.block _ (lt_of_at HX9.out)).trans HX9.out
                      have z11 : w11.heap[w10.heap.size]? = some (pairO Gg) := by rw [hw11]; exact heap_new _ _
                      have HT11 := Lib.hid (HT9.out.keep hb11)
                      obtain ⟨y10, hy10⟩ : ∃ y10, y10 = w10.heap.size := ⟨_, rfl⟩
                      rw [← hy10] at z11
                      have HX11 := Lib.hid (And.intro x11 z11)
                      have HW11 := Lib.hid hw11
                      clear hb10 hb11 x11 z11 hw11 HRG2 HX9
                      clear r0 r1 r2
                      obtain ⟨a0, a1, a2⟩ := three_pair HX11.out.1
                      obtain ⟨d0, d1, d2⟩ := three_pair HX11.out.2
                      rw [HW11.out] at a0 a1 a2 d0 d1 d2
                      rw [hy10] at d0 d1 d2
                      go_wp2
                      rw [← HW11.out]
                      refine ⟨⟨k + 1, A3, c3, by omega, by go_num, Lib.hid ?_⟩, by simp [intOf]; omega⟩
                      rw [← HK.out.2.2.2.2.2.2.2]
                      exact HT11.out
                    exact AllReadyH.nil
                  exact AllReadyH.nil
                exact AllReadyH.nil
              refine AllReadyH.cons rfl (fun K hK => ?_) ?_
              · go_simp
                refine hK.out _ _ ?_ (fun hHeld => ?_)
                · exact ⟨q0, q1, q2⟩
                clear hK K
                try simp only [Act.put, List.setIfInBounds_toArray, List.set_cons_zero, List.set_cons_succ]
                refine heldIn (i := 24) (some 76) (v := ?_) rfl rfl (by kernel_rfl) (by kernel_rfl) (by kernel_rfl) (fun _ _ _ h => h) (by rfl) (by assumption) ?_ ?_
                rotate_left
                · intro w hSw
                  obtain ⟨s0, s1, s2⟩ := hSw
                  go_simp
                  try with_reducible rfl
                try simp only [Act.put, List.setIfInBounds_toArray, List.set_cons_zero, List.set_cons_succ]
                refine wpAnyH_ready (rs := [19]) (by kernel_rfl) (by simp) ?_
                refine AllReadyH.cons rfl (fun K hK => ?_) ?_
                · go_simp
                  (go_at_call 12)
                  (with_reducible refine HLEN.out.mono ?_)
                  rintro e w7 ⟨rfl, rfl⟩
                  refine hK.out _ _ ?_ (fun hHeld => ?_)
                  · exact ⟨q0, q1, q2⟩
                  clear hK K
                  try simp only [Act.put, List.setIfInBounds_toArray, List.set_cons_zero, List.set_cons_succ]
                  refine heldIn (i := 25) (some 77) (v := ?_) rfl rfl (by kernel_rfl) (by kernel_rfl) (by kernel_rfl) (fun _ _ _ h => h) (by rfl) (by assumption) ?_ ?_
                  rotate_left
                  · intro w hSw
                    obtain ⟨s0, s1, s2⟩ := hSw
                    go_simp
                    try with_reducible rfl
                  try simp only [Act.put, List.setIfInBounds_toArray, List.set_cons_zero, List.set_cons_succ]
                  refine heldIn (i := 26) (some 78) (v := ?_) rfl rfl (by kernel_rfl) (by kernel_rfl) (by kernel_rfl) (fun _ _ _ h => h) (by rfl) (by assumption) ?_ ?_
                  rotate_left
                  · intro w hSw
                    obtain ⟨s0, s1, s2⟩ := hSw
                    go_simp
                    try with_reducible rfl
                  try simp only [Act.put, List.setIfInBounds_toArray, List.set_cons_zero, List.set_cons_succ]
                  refine heldIn (i := 27) (some 79) (v := ?_) rfl rfl (by kernel_rfl) (by kernel_rfl) (by kernel_rfl) (fun _ _ _ h => h) (by rfl) (by assumption) ?_ ?_
                  rotate_left
                  · intro w hSw
                    obtain ⟨s0, s1, s2⟩ := hSw
                    go_simp
                    try with_reducible rfl
                  try simp only [Act.put, List.setIfInBounds_toArray, List.set_cons_zero, List.set_cons_succ]
                  refine heldIn (i := 28) (some 80) (v := ?_) rfl rfl (by kernel_rfl) (by kernel_rfl) (by kernel_rfl) (fun _ _ _ h => h) (by rfl) (by assumption) ?_ ?_
                  rotate_left
                  · intro w hSw
                    obtain ⟨s0, s1, s2⟩ := hSw
                    go_simp
                    try with_reducible rfl
                  try simp only [Act.put, List.setIfInBounds_toArray, List.set_cons_zero, List.set_cons_succ]
                  refine heldIn (i := 30) (some 82) (v := ?_) rfl rfl (by kernel_rfl) (by kernel_rfl) (by kernel_rfl) (fun _ _ _ h => h) (by rfl) (by assumption) ?_ ?_
                  rotate_left
                  · intro w hSw
                    obtain ⟨s0, s1, s2⟩ := hSw
                    go_simp
                    try with_reducible rfl
                  try simp only [Act.put, List.setIfInBounds_toArray, List.set_cons_zero, List.set_cons_succ]
                  refine wpAnyH_ready (rs := [29]) (by kernel_rfl) (by simp) ?_
                  refine AllReadyH.cons rfl (fun K hK => ?_) ?_
                  · go_simp
                    (go_at_call 13)
                    (with_reducible refine HSZ.out.mono ?_)
                    rintro e w7 ⟨rfl, rfl⟩
                    refine hK.out _ _ ?_ (fun hHeld => ?_)
                    · exact ⟨q0, q1, q2⟩
                    clear hK K
                    try simp only [Act.put, List.setIfInBounds_toArray, List.set_cons_zero, List.set_cons_succ]
                    refine wpAnyH_ready (rs := [31]) (by kernel_rfl) (by simp) ?_
                    refine AllReadyH.cons rfl (fun K hK => ?_) ?_
                    · go_simp
                      (go_at_call 14)
                      (with_reducible refine HRS.out.mono ?_)
                      rintro e w7 ⟨rfl, hb7⟩
                      have HT7 := Lib.hid (HT6.out.keep hb7)
                      obtain ⟨q0, q1, q2⟩ := HP.out _ HT7.out.below
                      clear hb7
                      refine hK.out _ _ ?_ (fun hHeld => ?_)
                      · exact ⟨q0, q1, q2⟩
                      clear hK K
                      try simp only [Act.put, List.setIfInBounds_toArray, List.set_cons_zero, List.set_cons_succ]
                      refine heldIn (i := 32) (some 84) (v := ?_) rfl rfl (by kernel_rfl) (by kernel_rfl) (by kernel_rfl) (fun _ _ _ h => h) (by rfl) (by assumption) ?_ ?_
                      rotate_left
                      · intro w hSw
                        obtain ⟨s0, s1, s2⟩ := hSw
                        go_simp
                        try with_reducible rfl
                      try simp only [Act.put, List.setIfInBounds_toArray, List.set_cons_zero, List.set_cons_succ]
                      refine heldIn (i := 33) (some 85) (v := ?_) rfl rfl (by kernel_rfl) (by kernel_rfl) (by kernel_rfl) (fun _ _ _ h => h) (by rfl) (by assumption) ?_ ?_
                      rotate_left
                      · intro w hSw
                        obtain ⟨s0, s1, s2⟩ := hSw
                        go_simp
                        try with_reducible rfl
                      try simp only [Act.put, List.setIfInBounds_toArray, List.set_cons_zero, List.set_cons_succ]
                      refine wpAnyH_done (by kernel_rfl) ?_ _
                      have HFN := Lib.hid HK.out.2.2.1
                      obtain ⟨Gg, hGg⟩ : ∃ G, G = (Pm9.get x.k l2).getD zp := ⟨_, rfl⟩
                      obtain ⟨Bg, hBg⟩ : ∃ B, B = (Pm9.get x.k l2).isSome := ⟨_, rfl⟩
                      have HGg := Lib.hid (tw_get HT7.out x.k)
                      simp only [gotV, ← hGg, ← hBg] at HGg
                      have hall : ∀ V A c, RefAt V q A c l2 → Calls Try.prog 16 #[.pointer (some ⟨q, 0, none⟩), .string x.k] V fun e w' => e = .returned (.tuple #[.agg #[.string Gg.k, .string Gg.v, .bool Gg.g], .bool Bg]) ∧ Below V.heap.size V w' := fun V A c h => by
                        have h2 := rget_any h HFN.out x.k
                        simp only [gotV, ← hGg, ← hBg] at h2
                        exact h2
                      have HALL := Lib.hid hall
                      clear hGg hBg hall
                      have hneg : ∀ w, (binOp .neq 33 (.agg #[.string Gg.k, .string Gg.v, .bool Gg.g]) (.agg #[.string Gg.k, .string Gg.v, .bool Gg.g])).run Try.prog w = .ok (.bool false) w := fun w => by rw [run_ne, eqP_iff.2 rfl]; rfl
                      have hbbg : (Bg != Bg) = false := by simp
                      go_wp2_with fail
                      with_reducible refine HGg.out.mono ?_
                      rintro e w8 ⟨rfl, hb8⟩
                      obtain ⟨w9, hw9⟩ : ∃ w9, w9 = w8.alloc (.cells #[.string Gg.k, .string Gg.v, .bool Gg.g] 33) := ⟨_, rfl⟩
                      have hb9 : Below w7.heap.size w7 w9 := by rw [hw9]; exact hb8.alloc hb8.size _
                      have x9 : w9.heap[w8.heap.size]? = some (pairO Gg) := by rw [hw9]; exact heap_new _ _
                      have HT9 := Lib.hid (HT7.out.keep hb9)
                      obtain ⟨y8, hy8⟩ : ∃ y8, y8 = w8.heap.size := ⟨_, rfl⟩
                      rw [← hy8] at x9
                      obtain ⟨r0, r1, r2⟩ := HP.out _ HT9.out.below
                      rw [hw9] at r0 r1 r2
                      clear q0 q1 q2
                      have HRG := HALL.out _ _ _ HT9.out.ref
                      rw [hw9] at HRG
                      have HRG2 := Lib.hid HRG
                      have HX9 := Lib.hid x9
                      have HW9 := Lib.hid hw9
                      clear HRG hb8 hb9 x9 hw9 HGg
                      go_wp2_with fail
                      with_reducible refine HRG2.out.mono ?_
                      rintro e w10 ⟨rfl, hb10⟩
                      rw [← HW9.out] at hb10
                      rw [← hy8]
                      clear hy8
                      obtain ⟨w11, hw11⟩ : ∃ w11, w11 = w10.alloc (.cells #[.string Gg.k, .string Gg.v, .bool Gg.g] 33) := ⟨_, rfl⟩
                      have hb11 : Below w9.heap.size w9 w11 := by rw [hw11]; exact hb10.alloc hb10.size _
                      have x11 : w11.heap[y8]? = some (pairO Gg) := (hb11.block _ (lt_of_at HX9.out)).trans HX9.out
                      have z11 : w11.heap[w10.heap.size]? = some (pairO Gg) := by rw [hw11]; exact heap_new _ _
                      have HT11 := Lib.hid (HT9.out.keep hb11)
                      obtain ⟨y10, hy10⟩ : ∃ y10, y10 = w10.heap.size := ⟨_, rfl⟩
                      rw [← hy10] at z11
                      have HX11 := Lib.hid (And.intro x11 z11)
                      have HW11 := Lib.hid hw11
                      clear hb10 hb11 x11 z11 hw11 HRG2 HX9
                      clear r0 r1 r2
                      obtain ⟨a0, a1, a2⟩ := three_pair HX11.out.1
                      obtain ⟨d0, d1, d2⟩ := three_pair HX11.out.2
                      rw [HW11.out] at a0 a1 a2 d0 d1 d2
                      rw [hy10] at d0 d1 d2
                      go_wp2
                      rw [← HW11.out]
                      refine ⟨⟨k + 1, A3, c3, by omega, by go_num, Lib.hid ?_⟩, by simp [intOf]; omega⟩
                      rw [← HK.out.2.2.2.2.2.2.2]
                      exact HT11.out
                    exact AllReadyH.nil
                  exact AllReadyH.nil
                exact AllReadyH.nil
              exact AllReadyH.nil
            exact AllReadyH.nil
          exact AllReadyH.nil
        · obtain rfl : k = N := by omega
          have hkl : k ≤ L.length := by rw [← HN.out]; exact Nat.le_refl _
          obtain ⟨u1, u2, u3, u4⟩ := upto_facts L k hkl
          have uf := upto_fine (by rw [← HN.out]; exact hn) HC.out.text hkl
          obtain ⟨l, hle⟩ : ∃ l, l = upto L k := ⟨_, rfl⟩
          rw [← hle] at u1 u4 uf ht
          obtain ⟨M, hM⟩ : ∃ M, M = scan a b most l := ⟨_, rfl⟩
          have hMl : M.length ≤ 140737488351232 := by
            have h1 : M.length ≤ l.length := by rw [hM]; unfold scan; exact Nat.le_trans (List.length_take_le' _ _) (List.length_filter_le _ _)
            omega
          have hsl : scan ⟨#[]⟩ ⟨#[]⟩ ((k : Int) + 1) l = l := scan_every (by omega)
          have hln : l.length ≤ 1099511627776 := by omega
          have hwr : IntKind.i64.wrap ((k : Int) + 1) = (k : Int) + 1 := IntWalk.i64_in _ ⟨by omega, by omega⟩
          have HFN := Lib.hid uf
          have HT3 := ht
          have HME := Lib.hid hM
          have HALLS := Lib.hid hsl
          clear u1 u2 u3 u4 uf hle hM hsl ht hkl
          obtain ⟨Gf, hGf⟩ : ∃ G, G = (Pm9.get key l).getD zp := ⟨_, rfl⟩
          obtain ⟨Bf, hBf⟩ : ∃ B, B = (Pm9.get key l).isSome := ⟨_, rfl⟩
          have HGf := Lib.hid (tw_get HT3.out key)
          simp only [gotV, ← hGf, ← hBf] at HGf
          have hall : ∀ V A c, RefAt V q A c l → Calls Try.prog 16 #[.pointer (some ⟨q, 0, none⟩), .string key] V fun e w' => e = .returned (.tuple #[.agg #[.string Gf.k, .string Gf.v, .bool Gf.g], .bool Bf]) ∧ Below V.heap.size V w' := fun V A c h => by
            have h2 := rget_any h HFN.out key
            simp only [gotV, ← hGf, ← hBf] at h2
            exact h2
          have HALL := Lib.hid hall
          clear hGf hBf hall
          have hnef : ∀ w, (binOp .neq 33 (.agg #[.string Gf.k, .string Gf.v, .bool Gf.g]) (.agg #[.string Gf.k, .string Gf.v, .bool Gf.g])).run Try.prog w = .ok (.bool false) w := fun w => by rw [run_ne, eqP_iff.2 rfl]; rfl
          have hbbf : (Bf != Bf) = false := by simp
          go_wp2_with fail
          with_reducible refine HGf.out.mono ?_
          rintro e w8 ⟨rfl, hb8⟩
          obtain ⟨w9, hw9⟩ : ∃ w9, w9 = w8.alloc (.cells #[.string Gf.k, .string Gf.v, .bool Gf.g] 33) := ⟨_, rfl⟩
          have hb9 : Below wr.heap.size wr w9 := by rw [hw9]; exact hb8.alloc hb8.size _
          have x9 : w9.heap[w8.heap.size]? = some (pairO Gf) := by rw [hw9]; exact heap_new _ _
          have HT9 := Lib.hid (HT3.out.keep hb9)
          obtain ⟨y8, hy8⟩ : ∃ y8, y8 = w8.heap.size := ⟨_, rfl⟩
          rw [← hy8] at x9
          skip
          have HRG := HALL.out _ _ _ HT9.out.ref
          rw [hw9] at HRG
          have HRG2 := Lib.hid HRG
          have HX9 := Lib.hid x9
          have HW9 := Lib.hid hw9
          clear HRG hb8 hb9 x9 hw9 HGf
          go_wp2_with fail
          with_reducible refine HRG2.out.mono ?_
          rintro e w10 ⟨rfl, hb10⟩
          rw [← HW9.out] at hb10
          rw [← hy8]
          clear hy8
          obtain ⟨w11, hw11⟩ : ∃ w11, w11 = w10.alloc (.cells #[.string Gf.k, .string Gf.v, .bool Gf.g] 33) := ⟨_, rfl⟩
          have hb11 : Below w9.heap.size w9 w11 := by rw [hw11]; exact hb10.alloc hb10.size _
          have x11 : w11.heap[y8]? = some (pairO Gf) := (hb11.block _ (lt_of_at HX9.out)).trans HX9.out
          have z11 : w11.heap[w10.heap.size]? = some (pairO Gf) := by rw [hw11]; exact heap_new _ _
          have HT11 := Lib.hid (HT9.out.keep hb11)
          obtain ⟨y10, hy10⟩ : ∃ y10, y10 = w10.heap.size := ⟨_, rfl⟩
          rw [← hy10] at z11
          have HX11 := Lib.hid (And.intro x11 z11)
          have HW11 := Lib.hid hw11
          clear hb10 hb11 x11 z11 hw11 HRG2 HX9
          have hxs : ∀ V, Below w11.heap.size w11 V → V.cell? ⟨y8, 0, none⟩ = some (.string Gf.k) ∧ V.cell? ⟨y8, 1, none⟩ = some (.string Gf.v) ∧ V.cell? ⟨y8, 2, none⟩ = some (.bool Gf.g) ∧ V.cell? ⟨y10, 0, none⟩ = some (.string Gf.k) ∧ V.cell? ⟨y10, 1, none⟩ = some (.string Gf.v) ∧ V.cell? ⟨y10, 2, none⟩ = some (.bool Gf.g) ∧ V.cell? ⟨q, 0, none⟩ = some (.slice A2 l.length c2) := fun V hV => by
            obtain ⟨a0, a1, a2⟩ := three_pair ((hV.block _ (lt_of_at HX11.out.1)).trans HX11.out.1)
            obtain ⟨d0, d1, d2⟩ := three_pair ((hV.block _ (lt_of_at HX11.out.2)).trans HX11.out.2)
            exact ⟨a0, a1, a2, d0, d1, d2, (HT11.out.keep hV).cell⟩
          have HS7 := Lib.hid hxs
          obtain ⟨a0, a1, a2, d0, d1, d2, e0⟩ := hxs _ (Below.refl _ _)
          have HTw11 := Lib.hid (HT11.out.keep (Below.refl _ _).drew)
          have HBw11 := Lib.hid ((Below.refl w11.heap.size w11).drew)
          clear hxs
          go_wp2
          rw [← HW11.out, ← hy10]
          clear hy10
          refine wp_region_held_drew (S := (fun V => V.cell? ⟨y8, 0, none⟩ = some (.string Gf.k) ∧ V.cell? ⟨y8, 1, none⟩ = some (.string Gf.v) ∧ V.cell? ⟨y8, 2, none⟩ = some (.bool Gf.g) ∧ V.cell? ⟨y10, 0, none⟩ = some (.string Gf.k) ∧ V.cell? ⟨y10, 1, none⟩ = some (.string Gf.v) ∧ V.cell? ⟨y10, 2, none⟩ = some (.bool Gf.g) ∧ V.cell? ⟨q, 0, none⟩ = some (.slice A2 l.length c2))) (by kernel_rfl) ?_ (fun hHeld => ?_)
          · exact ⟨a0, a1, a2, d0, d1, d2, e0⟩
          refine heldIn (i := 0) (some 126) (v := ?_) rfl rfl (by kernel_rfl) (by kernel_rfl) (by kernel_rfl) (fun _ _ _ h => h) (by rfl) (by assumption) ?_ ?_
          rotate_left
          · intro w hSw
            obtain ⟨s0, s1, s2, s3, s4, s5, s6⟩ := hSw
            go_simp
            try with_reducible rfl
          try simp only [Act.put, List.setIfInBounds_toArray, List.set_cons_zero, List.set_cons_succ]
          refine heldIn (i := 1) (some 127) (v := ?_) rfl rfl (by kernel_rfl) (by kernel_rfl) (by kernel_rfl) (fun _ _ _ h => h) (by rfl) (by assumption) ?_ ?_
          rotate_left
          · intro w hSw
            obtain ⟨s0, s1, s2, s3, s4, s5, s6⟩ := hSw
            go_simp
            try with_reducible rfl
          try simp only [Act.put, List.setIfInBounds_toArray, List.set_cons_zero, List.set_cons_succ]
          refine heldIn (i := 2) (some 128) (v := ?_) rfl rfl (by kernel_rfl) (by kernel_rfl) (by kernel_rfl) (fun _ _ _ h => h) (by rfl) (by assumption) ?_ ?_
          rotate_left
          · intro w hSw
            obtain ⟨s0, s1, s2, s3, s4, s5, s6⟩ := hSw
            go_simp
            try with_reducible rfl
          try simp only [Act.put, List.setIfInBounds_toArray, List.set_cons_zero, List.set_cons_succ]
          refine heldIn (i := 3) (some 129) (v := ?_) rfl rfl (by kernel_rfl) (by kernel_rfl) (by kernel_rfl) (fun _ _ _ h => h) (by rfl) (by assumption) ?_ ?_
          rotate_left
          · intro w hSw
            obtain ⟨s0, s1, s2, s3, s4, s5, s6⟩ := hSw
            go_simp
            try with_reducible rfl
          try simp only [Act.put, List.setIfInBounds_toArray, List.set_cons_zero, List.set_cons_succ]
          refine heldIn (i := 4) (some 130) (v := ?_) rfl rfl (by kernel_rfl) (by kernel_rfl) (by kernel_rfl) (fun _ _ _ h => h) (by rfl) (by assumption) ?_ ?_
          rotate_left
          · intro w hSw
            obtain ⟨s0, s1, s2, s3, s4, s5, s6⟩ := hSw
            go_simp
            try with_reducible rfl
          try simp only [Act.put, List.setIfInBounds_toArray, List.set_cons_zero, List.set_cons_succ]
          refine heldIn (i := 5) (some 131) (v := ?_) rfl rfl (by kernel_rfl) (by kernel_rfl) (by kernel_rfl) (fun _ _ _ h => h) (by rfl) (by assumption) ?_ ?_
          rotate_left
          · intro w hSw
            obtain ⟨s0, s1, s2, s3, s4, s5, s6⟩ := hSw
            go_simp
            try with_reducible rfl
          try simp only [Act.put, List.setIfInBounds_toArray, List.set_cons_zero, List.set_cons_succ]
          refine heldIn (i := 6) (some 132) (v := ?_) rfl rfl (by kernel_rfl) (by kernel_rfl) (by kernel_rfl) (fun _ _ _ h => h) (by rfl) (by assumption) ?_ ?_
          rotate_left
          · intro w hSw
            obtain ⟨s0, s1, s2, s3, s4, s5, s6⟩ := hSw
            go_simp
            try with_reducible rfl
          try simp only [Act.put, List.setIfInBounds_toArray, List.set_cons_zero, List.set_cons_succ]
          refine heldIn (i := 7) (some 133) (v := ?_) rfl rfl (by kernel_rfl) (by kernel_rfl) (by kernel_rfl) (fun _ _ _ h => h) (by rfl) (by assumption) ?_ ?_
          rotate_left
          · intro w hSw
            obtain ⟨s0, s1, s2, s3, s4, s5, s6⟩ := hSw
            go_simp
            try with_reducible rfl
          try simp only [Act.put, List.setIfInBounds_toArray, List.set_cons_zero, List.set_cons_succ]
          refine heldIn (i := 8) (some 134) (v := ?_) rfl rfl (by kernel_rfl) (by kernel_rfl) (by kernel_rfl) (fun _ _ _ h => h) (by rfl) (by assumption) ?_ ?_
          rotate_left
          · intro w hSw
            obtain ⟨s0, s1, s2, s3, s4, s5, s6⟩ := hSw
            go_simp
            try with_reducible rfl
          try simp only [Act.put, List.setIfInBounds_toArray, List.set_cons_zero, List.set_cons_succ]
          refine heldIn (i := 9) (some 135) (v := ?_) rfl rfl (by kernel_rfl) (by kernel_rfl) (by kernel_rfl) (fun _ _ _ h => h) (by rfl) (by assumption) ?_ ?_
          rotate_left
          · intro w hSw
            obtain ⟨s0, s1, s2, s3, s4, s5, s6⟩ := hSw
            go_simp
            try with_reducible rfl
          try simp only [Act.put, List.setIfInBounds_toArray, List.set_cons_zero, List.set_cons_succ]
          refine heldIn (i := 10) (some 136) (v := ?_) rfl rfl (by kernel_rfl) (by kernel_rfl) (by kernel_rfl) (fun _ _ _ h => h) (by rfl) (by assumption) ?_ ?_
          rotate_left
          · intro w hSw
            obtain ⟨s0, s1, s2, s3, s4, s5, s6⟩ := hSw
            go_simp
            try with_reducible rfl
          try simp only [Act.put, List.setIfInBounds_toArray, List.set_cons_zero, List.set_cons_succ]
          refine heldIn (i := 11) (some 137) (v := ?_) rfl rfl (by kernel_rfl) (by kernel_rfl) (by kernel_rfl) (fun _ _ _ h => h) (by rfl) (by assumption) ?_ ?_
          rotate_left
          · intro w hSw
            obtain ⟨s0, s1, s2, s3, s4, s5, s6⟩ := hSw
            go_simp
            try with_reducible rfl
          try simp only [Act.put, List.setIfInBounds_toArray, List.set_cons_zero, List.set_cons_succ]
          refine heldIn (i := 12) (some 138) (v := ?_) rfl rfl (by kernel_rfl) (by kernel_rfl) (by kernel_rfl) (fun _ _ _ h => h) (by rfl) (by assumption) ?_ ?_
          rotate_left
          · intro w hSw
            obtain ⟨s0, s1, s2, s3, s4, s5, s6⟩ := hSw
            go_simp
            try with_reducible rfl
          try simp only [Act.put, List.setIfInBounds_toArray, List.set_cons_zero, List.set_cons_succ]
          refine heldIn (i := 14) (some 140) (v := ?_) rfl rfl (by kernel_rfl) (by kernel_rfl) (by kernel_rfl) (fun _ _ _ h => h) (by rfl) (by assumption) ?_ ?_
          rotate_left
          · intro w hSw
            obtain ⟨s0, s1, s2, s3, s4, s5, s6⟩ := hSw
            go_simp
            try with_reducible rfl
          try simp only [Act.put, List.setIfInBounds_toArray, List.set_cons_zero, List.set_cons_succ]
          refine heldIn (i := 15) (some 141) (v := ?_) rfl rfl (by kernel_rfl) (by kernel_rfl) (by kernel_rfl) (fun _ _ _ h => h) (by rfl) (by assumption) ?_ ?_
          rotate_left
          · intro w hSw
            obtain ⟨s0, s1, s2, s3, s4, s5, s6⟩ := hSw
            go_simp
            try with_reducible rfl
          try simp only [Act.put, List.setIfInBounds_toArray, List.set_cons_zero, List.set_cons_succ]
          refine heldIn (i := 16) (some 142) (v := ?_) rfl rfl (by kernel_rfl) (by kernel_rfl) (by kernel_rfl) (fun _ _ _ h => h) (by rfl) (by assumption) ?_ ?_
          rotate_left
          · intro w hSw
            obtain ⟨s0, s1, s2, s3, s4, s5, s6⟩ := hSw
            go_simp
            try with_reducible rfl
          try simp only [Act.put, List.setIfInBounds_toArray, List.set_cons_zero, List.set_cons_succ]
          refine heldIn (i := 17) (some 143) (v := ?_) rfl rfl (by kernel_rfl) (by kernel_rfl) (by kernel_rfl) (fun _ _ _ h => h) (by rfl) (by assumption) ?_ ?_
          rotate_left
          · intro w hSw
            obtain ⟨s0, s1, s2, s3, s4, s5, s6⟩ := hSw
            go_simp
            try with_reducible rfl
          try simp only [Act.put, List.setIfInBounds_toArray, List.set_cons_zero, List.set_cons_succ]
          refine wpAnyH_ready (rs := [13]) (by kernel_rfl) (by simp) ?_
          refine AllReadyH.cons rfl (fun K hK => ?_) ?_
          · go_simp
            (go_at_call 18)
            have h13 := tw_scan HTw11.out hln a b most
            rw [← HME.out] at h13
            with_reducible refine h13.mono ?_
            rintro e w12 ⟨A5, c5, rfl, own5, hbx⟩
            have hbw12 : Below w11.heap.size w11 w12 := HBw11.out.trans (hbx.mono HBw11.out.size)
            clear a0 a1 a2 d0 d1 d2 e0
            obtain ⟨a0, a1, a2, d0, d1, d2, e0⟩ := HS7.out _ hbw12
            have HTw12 := Lib.hid (HTw11.out.keep hbx)
            have HBw12 := Lib.hid hbw12
            have HO5 := Lib.hid (reads_of_own own5)
            clear hbx hbw12 own5 h13
            refine hK.out _ _ ?_ (fun hHeld => ?_)
            · exact ⟨a0, a1, a2, d0, d1, d2, e0⟩
            clear hK K
            try simp only [Act.put, List.setIfInBounds_toArray, List.set_cons_zero, List.set_cons_succ]
            refine wpAnyH_ready (rs := [18]) (by kernel_rfl) (by simp) ?_
            refine AllReadyH.cons rfl (fun K hK => ?_) ?_
            · go_simp
              (go_at_call 19)
              have h18 := rscan_any HTw12.out.ref HFN.out a b wa wb most
              rw [← HME.out] at h18
              with_reducible refine h18.mono ?_
              rintro e w13 ⟨A6, c6, rfl, own6, hbx⟩
              have hbw13 : Below w11.heap.size w11 w13 := HBw12.out.trans (hbx.mono HBw12.out.size)
              clear a0 a1 a2 d0 d1 d2 e0
              obtain ⟨a0, a1, a2, d0, d1, d2, e0⟩ := HS7.out _ hbw13
              have HTw13 := Lib.hid (HTw12.out.keep hbx)
              have HBw13 := Lib.hid hbw13
              have HO6 := Lib.hid (And.intro (HO5.out.keep (Nat.le_refl _) hbx) (reads_of_own own6))
              clear hbx hbw13 own6 h18
              refine hK.out _ _ ?_ (fun hHeld => ?_)
              · exact ⟨a0, a1, a2, d0, d1, d2, e0⟩
              clear hK K
              try simp only [Act.put, List.setIfInBounds_toArray, List.set_cons_zero, List.set_cons_succ]
              refine wpAnyH_ready (rs := [19]) (by kernel_rfl) (by simp) ?_
              refine AllReadyH.cons rfl (fun K hK => ?_) ?_
              · go_simp
                (go_at_call 17)
                have h19 := same_any _ A5 A6 c5 c6 M M HO6.out.1 HO6.out.2 hMl
                rw [same_iff.2 rfl] at h19
                with_reducible refine h19.mono ?_
                rintro e w14 ⟨rfl, hbx⟩
                have hbw14 : Below w11.heap.size w11 w14 := HBw13.out.trans (hbx.mono HBw13.out.size)
                clear a0 a1 a2 d0 d1 d2 e0
                obtain ⟨a0, a1, a2, d0, d1, d2, e0⟩ := HS7.out _ hbw14
                have HTw14 := Lib.hid (HTw13.out.keep hbx)
                have HBw14 := Lib.hid hbw14
                clear hbx hbw14 h19
                refine hK.out _ _ ?_ (fun hHeld => ?_)
                · exact ⟨a0, a1, a2, d0, d1, d2, e0⟩
                clear hK K
                try simp only [Act.put, List.setIfInBounds_toArray, List.set_cons_zero, List.set_cons_succ]
                refine heldIn (i := 20) (some 146) (v := ?_) rfl rfl (by kernel_rfl) (by kernel_rfl) (by kernel_rfl) (fun _ _ _ h => h) (by rfl) (by assumption) ?_ ?_
                rotate_left
                · intro w hSw
                  obtain ⟨s0, s1, s2, s3, s4, s5, s6⟩ := hSw
                  go_simp
                  try with_reducible rfl
                try simp only [Act.put, List.setIfInBounds_toArray, List.set_cons_zero, List.set_cons_succ]
                refine heldIn (i := 21) (some 147) (v := ?_) rfl rfl (by kernel_rfl) (by kernel_rfl) (by kernel_rfl) (fun _ _ _ h => h) (by rfl) (by assumption) ?_ ?_
                rotate_left
                · intro w hSw
                  obtain ⟨s0, s1, s2, s3, s4, s5, s6⟩ := hSw
                  go_simp
                  try with_reducible rfl
                try simp only [Act.put, List.setIfInBounds_toArray, List.set_cons_zero, List.set_cons_succ]
                refine heldIn (i := 22) (some 148) (v := ?_) rfl rfl (by kernel_rfl) (by kernel_rfl) (by kernel_rfl) (fun _ _ _ h => h) (by rfl) (by assumption) ?_ ?_
                rotate_left
                · intro w hSw
                  obtain ⟨s0, s1, s2, s3, s4, s5, s6⟩ := hSw
                  go_simp
                  try with_reducible rfl
                try simp only [Act.put, List.setIfInBounds_toArray, List.set_cons_zero, List.set_cons_succ]
                refine heldIn (i := 23) (some 149) (v := ?_) rfl rfl (by kernel_rfl) (by kernel_rfl) (by kernel_rfl) (fun _ _ _ h => h) (by rfl) (by assumption) ?_ ?_
                rotate_left
                · intro w hSw
                  obtain ⟨s0, s1, s2, s3, s4, s5, s6⟩ := hSw
                  go_simp
                  try with_reducible rfl
                try simp only [Act.put, List.setIfInBounds_toArray, List.set_cons_zero, List.set_cons_succ]
                refine heldIn (i := 24) (some 150) (v := ?_) rfl rfl (by kernel_rfl) (by kernel_rfl) (by kernel_rfl) (fun _ _ _ h => h) (by rfl) (by assumption) ?_ ?_
                rotate_left
                · intro w hSw
                  obtain ⟨s0, s1, s2, s3, s4, s5, s6⟩ := hSw
                  go_simp
                  try with_reducible rfl
                try simp only [Act.put, List.setIfInBounds_toArray, List.set_cons_zero, List.set_cons_succ]
                refine heldIn (i := 25) (some 151) (v := ?_) rfl rfl (by kernel_rfl) (by kernel_rfl) (by kernel_rfl) (fun _ _ _ h => h) (by rfl) (by assumption) ?_ ?_
                rotate_left
                · intro w hSw
                  obtain ⟨s0, s1, s2, s3, s4, s5, s6⟩ := hSw
                  go_simp
                  try with_reducible rfl
                try simp only [Act.put, List.setIfInBounds_toArray, List.set_cons_zero, List.set_cons_succ]
                refine heldIn (i := 26) (some 152) (v := ?_) rfl rfl (by kernel_rfl) (by kernel_rfl) (by kernel_rfl) (fun _ _ _ h => h) (by rfl) (by assumption) ?_ ?_
                rotate_left
                · intro w hSw
                  obtain ⟨s0, s1, s2, s3, s4, s5, s6⟩ := hSw
                  go_simp
                  try with_reducible rfl
                try simp only [Act.put, List.setIfInBounds_toArray, List.set_cons_zero, List.set_cons_succ]
                refine heldIn (i := 28) (some 154) (v := ?_) rfl rfl (by kernel_rfl) (by kernel_rfl) (by kernel_rfl) (fun _ _ _ h => h) (by rfl) (by assumption) ?_ ?_
                rotate_left
                · intro w hSw
                  obtain ⟨s0, s1, s2, s3, s4, s5, s6⟩ := hSw
                  go_simp
                  try with_reducible rfl
                try simp only [Act.put, List.setIfInBounds_toArray, List.set_cons_zero, List.set_cons_succ]
                refine heldIn (i := 29) (some 155) (v := ?_) rfl rfl (by kernel_rfl) (by kernel_rfl) (by kernel_rfl) (fun _ _ _ h => h) (by rfl) (by assumption) ?_ ?_
                rotate_left
                · intro w hSw
                  obtain ⟨s0, s1, s2, s3, s4, s5, s6⟩ := hSw
                  go_simp
                  try with_reducible rfl
                try simp only [Act.put, List.setIfInBounds_toArray, List.set_cons_zero, List.set_cons_succ]
                refine heldIn (i := 30) (some 156) (v := ?_) rfl rfl (by kernel_rfl) (by kernel_rfl) (by kernel_rfl) (fun _ _ _ h => h) (by rfl) (by assumption) ?_ ?_
                rotate_left
                · intro w hSw
                  obtain ⟨s0, s1, s2, s3, s4, s5, s6⟩ := hSw
                  go_simp
                  try with_reducible rfl
                try simp only [Act.put, List.setIfInBounds_toArray, List.set_cons_zero, List.set_cons_succ]
                refine heldIn (i := 31) (some 157) (v := ?_) rfl rfl (by kernel_rfl) (by kernel_rfl) (by kernel_rfl) (fun _ _ _ h => h) (by rfl) (by assumption) ?_ ?_
                rotate_left
                · intro w hSw
                  obtain ⟨s0, s1, s2, s3, s4, s5, s6⟩ := hSw
                  go_simp
                  try with_reducible rfl
                try simp only [Act.put, List.setIfInBounds_toArray, List.set_cons_zero, List.set_cons_succ]
                refine wpAnyH_ready (rs := [27]) (by kernel_rfl) (by simp) ?_
                refine AllReadyH.cons rfl (fun K hK => ?_) ?_
                · go_simp
                  (go_at_call 18)
                  have h27 := tw_scan HTw14.out hln ⟨#[]⟩ ⟨#[]⟩ ((k : Int) + 1)
                  rw [HALLS.out] at h27
                  with_reducible refine h27.mono ?_
                  rintro e w15 ⟨A7, c7, rfl, own7, hbx⟩
                  have hbw15 : Below w11.heap.size w11 w15 := HBw14.out.trans (hbx.mono HBw14.out.size)
                  clear a0 a1 a2 d0 d1 d2 e0
                  obtain ⟨a0, a1, a2, d0, d1, d2, e0⟩ := HS7.out _ hbw15
                  have HTw15 := Lib.hid (HTw14.out.keep hbx)
                  have HBw15 := Lib.hid hbw15
                  have HO7 := Lib.hid (reads_of_own own7)
                  clear hbx hbw15 own7 h27
                  refine hK.out _ _ ?_ (fun hHeld => ?_)
                  · exact ⟨a0, a1, a2, d0, d1, d2, e0⟩
                  clear hK K
                  try simp only [Act.put, List.setIfInBounds_toArray, List.set_cons_zero, List.set_cons_succ]
                  refine wpAnyH_ready (rs := [32]) (by kernel_rfl) (by simp) ?_
                  refine AllReadyH.cons rfl (fun K hK => ?_) ?_
                  · go_simp
                    (go_at_call 17)
                    have h32 := same_any _ A7 A2 c7 c2 l l HO7.out HTw15.out.ref.reads (Nat.le_trans hln (by decide))
                    rw [same_iff.2 rfl] at h32
                    with_reducible refine h32.mono ?_
                    rintro e w16 ⟨rfl, hbx⟩
                    have hbw16 : Below w11.heap.size w11 w16 := HBw15.out.trans (hbx.mono HBw15.out.size)
                    clear a0 a1 a2 d0 d1 d2 e0
                    obtain ⟨a0, a1, a2, d0, d1, d2, e0⟩ := HS7.out _ hbw16
                    have HTw16 := Lib.hid (HTw15.out.keep hbx)
                    have HBw16 := Lib.hid hbw16
                    clear hbx hbw16 h32
                    refine hK.out _ _ ?_ (fun hHeld => ?_)
                    · exact ⟨a0, a1, a2, d0, d1, d2, e0⟩
                    clear hK K
                    try simp only [Act.put, List.setIfInBounds_toArray, List.set_cons_zero, List.set_cons_succ]
                    refine heldIn (i := 33) (some 159) (v := ?_) rfl rfl (by kernel_rfl) (by kernel_rfl) (by kernel_rfl) (fun _ _ _ h => h) (by rfl) (by assumption) ?_ ?_
                    rotate_left
                    · intro w hSw
                      obtain ⟨s0, s1, s2, s3, s4, s5, s6⟩ := hSw
                      go_simp
                      try with_reducible rfl
                    try simp only [Act.put, List.setIfInBounds_toArray, List.set_cons_zero, List.set_cons_succ]
                    refine heldIn (i := 34) (some 160) (v := ?_) rfl rfl (by kernel_rfl) (by kernel_rfl) (by kernel_rfl) (fun _ _ _ h => h) (by rfl) (by assumption) ?_ ?_
                    rotate_left
                    · intro w hSw
                      obtain ⟨s0, s1, s2, s3, s4, s5, s6⟩ := hSw
                      go_simp
                      try with_reducible rfl
                    try simp only [Act.put, List.setIfInBounds_toArray, List.set_cons_zero, List.set_cons_succ]
                    refine wpAnyH_done (by kernel_rfl) ?_ _
                    go_wp2_with fail
                    refine (tw_clear HTw16.out).mono ?_
                    rintro e w17 ⟨rfl, S17, hs17⟩
                    clear a0 a1 a2 d0 d1 d2 e0
                    go_wp2_with fail
                    refine (zero_len hs17).mono ?_
                    rintro e w18 ⟨rfl, rfl⟩
                    go_wp2_with fail
                    refine (zero_size hs17).mono ?_
                    rintro e w18 ⟨rfl, rfl⟩
                    go_wp2_with fail
                    refine (zero_scan hs17).mono ?_
                    rintro e w18 ⟨⟨A9, c9, rfl⟩, hb18⟩
                    have hs18 := Lib.hid (hs17.keep hb18)
                    clear hs17 hb18
                    go_wp2_with fail
                    refine (alive_any _).mono ?_
                    rintro e w19 ⟨rfl, hb19⟩
                    have hb := (hs18.out.keep hb19).below
                    clear hb19
                    go_wp2
                    go_ret
                    exact ⟨rfl, hb⟩
                  exact AllReadyH.nil
                exact AllReadyH.nil
              exact AllReadyH.nil
            exact AllReadyH.nil
          exact AllReadyH.nil
  · clear hr HL hb1
    go_wp2_with fail
    refine (alive_any _).mono ?_
    rintro e w2 ⟨rfl, hb2⟩
    go_wp2
    go_ret
    exact ⟨rfl, HB1.out.trans (hb2.mono HB1.out.size)⟩
end Go.Proofs.Ytkbjmbllnnghlaa.Pl9
