/- FrameTells' ways: too much to look at; no text; and any texts, any bytes. -/
import Derived.Test.YtjpefkpmjhahgaaTo7
import Derived.Test.YtjpefkpmjhahgaaRc7
namespace Go.Proofs.Ytjpefkpmjhahgaa.Te7
open Go Go.RowKit Go.Proofs Go.Proofs.Ytjpefkpmjhahgaa.Wm Go.Proofs.Ytjpefkpmjhahgaa.Fl7 Go.Proofs.Ytjpefkpmjhahgaa.Rs7 Go.Proofs.Ytjpefkpmjhahgaa.Fp7 Go.Proofs.Ytjpefkpmjhahgaa.Fs7 Go.Proofs.Ytjpefkpmjhahgaa.Lw7 Go.Proofs.Ytjpefkpmjhahgaa.Al7 Go.Proofs.Ytjpefkpmjhahgaa.To7
theorem tell_len : ∀ l : List (List UInt8 × Nat), (tell l).1.length ≤ l.length
  | [] => Nat.le_refl _
  | (t, 0) :: r => by
    have := tell_len r
    simp only [tell, List.length_cons]; omega
  | (t, e + 1) :: r => by simp [tell]
theorem scan_len (b : List UInt8) : (scan b).1.length ≤ b.length := Nat.le_trans (tell_len _) (seq_len b.length b (Nat.le_refl _))
theorem walk_large (w : World) (A : Option Addr) (c : Nat) (L : List ByteArray) (b : ByteArray) (h : Came w A c L) (hb : b.size ≤ maxLen) (hL : (200 < L.length ∨ 32768 < lens L) ∨ 32768 < b.size) :
    Calls Try.prog 3 #[.slice A L.length c, .string b] w fun e w' => e = .returned (.bool true) ∧ Below w.heap.size w w' := by
  unfold maxLen at hb
  have HA := q_alive
  by_cases h2 : 200 < L.length ∨ 32768 < lens L
  · have HL := q_large h true (decide_eq_true h2).symm
    clear h hL h2
    go_enter Try.func3, Try.ntmps3
    go_wp2_with fail
    refine HL.out.mono ?_
    rintro e w1 ⟨rfl, rfl⟩
    go_wp2_with fail
    refine (HA.out _).mono ?_
    rintro e w2 ⟨rfl, hb⟩
    have HB := Lib.hid hb
    clear hb
    go_wp2
    go_ret
    exact ⟨rfl, HB.out⟩
  · have HL := q_large h false (decide_eq_false h2).symm
    have hz : decide ((32768 : Int) < (b.size : Int)) = true := decide_eq_true (by omega)
    clear h hL h2
    go_enter Try.func3, Try.ntmps3
    go_wp2_with fail
    refine HL.out.mono ?_
    rintro e w1 ⟨rfl, rfl⟩
    go_wp2_with fail
    refine (HA.out _).mono ?_
    rintro e w2 ⟨rfl, hb⟩
    have HB := Lib.hid hb
    clear hb
    go_wp2
    go_ret
    exact ⟨rfl, HB.out⟩
/-- What a Scan of b, and the document's, answer; and that the texts are the same. -/
theorem q_scans (b : ByteArray) (hb : b.size ≤ 4294967296) : ∃ (T : List ByteArray) (K n e : Nat), T.length = K ∧ K ≤ 4294967296 ∧
    Hid (∀ W, Calls Try.prog 14 #[.string b] W (Sc W T K n e)) ∧ Hid (∀ W, Calls Try.prog 15 #[.string b] W (Sc W T K n e)) := by
  obtain ⟨T, n, e, h⟩ : ∃ T n e, scan b.data.toList = (T, n, e) := ⟨_, _, _, rfl⟩
  have hl := scan_len b.data.toList
  rw [h] at hl
  have hbl : b.data.toList.length = b.size := by simp
  dsimp only at hl
  refine ⟨T.map bs, T.length, n, e, by simp, by omega, sc_of b T n e h hb, Lib.hid fun W => ?_⟩
  have h2 := Rc7.rscan b W hb
  rw [h] at h2
  exact h2
theorem q_same2 {w1 w2 : World} {A1 A2 : Option Addr} {c1 c2 K : Nat} {T : List ByteArray} (hK : T.length = K) (hK2 : K ≤ 4294967296) (h1 : Rds w1 A1 T) (h2 : Rds w2 A2 T) (hb : Below w1.heap.size w1 w2) :
    Hid (Calls Try.prog 11 #[.slice A1 K c1, .slice A2 K c2] w2 fun e w' => e = .returned (.bool true) ∧ Below w2.heap.size w2 w') := Lib.hid (by
  have h3 := same_any w2 A1 A2 c1 c2 T T (h1.keep (Nat.le_refl _) hb) h2 (by omega) true (by simp)
  rw [hK] at h3
  exact h3)
/-- The frame of any of these texts, by both. -/
theorem q_put (x : ByteArray) (h : x.size ≤ 4194304) : ∃ Q : ByteArray, Hid (∀ W, Calls Try.prog 12 #[.string x] W fun e w' => e = .returned (.tuple #[.string Q, .int .i64 0]) ∧ Below W.heap.size W w') ∧
    Hid (∀ W, Calls Try.prog 13 #[.string x] W fun e w' => e = .returned (.tuple #[.string Q, .int .i64 0]) ∧ Below W.heap.size W w') :=
  ⟨bs (fr x.data.toList), Lib.hid fun W => Fp7.put_ok x W h, Lib.hid fun W => Rf7.put_ok x W h⟩
set_option maxRecDepth 40000 in
set_option maxHeartbeats 4000000 in
theorem walk_none (w : World) (A : Option Addr) (c : Nat) (b : ByteArray) (hb : b.size ≤ 32768) :
    Calls Try.prog 3 #[.slice A 0 c, .string b] w fun e w' => e = .returned (.bool true) ∧ Below w.heap.size w w' := by
  have h : Came w A c [] := ⟨Rds.nil _ _, by simp, Nat.zero_le _, fun k hk => by simp at hk⟩
  have hf : Few [] := ⟨by simp, by simp [lens]⟩
  have HA := q_alive
  have HL : Hid (Calls Try.prog 7 #[.slice A 0 c] w fun e w' => e = .returned (.bool false) ∧ w' = w) := q_large h false (by decide)
  have HALL : Hid (∀ W, Calls Try.prog 9 #[.slice none 0 0] W fun e w' => e = .returned (.tuple #[.string (bs []), .int .i64 0]) ∧ Below W.heap.size W w') := Lib.hid fun W => Fp7.all_ok W none 0 [] (Rds.nil _ _) (by simp) (by simp [size, ll]) (fun k hk => by simp at hk)
  have HRALL : Hid (∀ W, Calls Try.prog 10 #[.slice A 0 c] W fun e w' => e = .returned (.tuple #[.string (bs []), .int .i64 0]) ∧ Below W.heap.size W w') := Lib.hid fun W => Rf7.all_ok W A c [] (Rds.nil _ _) (by simp) (by simp [size, ll]) (fun k hk => by simp at hk)
  have HSM : Hid (∀ W, Calls Try.prog 11 #[.slice none 0 0, .slice A 0 c] W fun e w' => e = .returned (.bool true) ∧ Below W.heap.size W w') := Lib.hid fun W => same_any W none A 0 c [] [] (Rds.nil _ _) (Rds.nil _ _) (by simp) true (by simp)
  obtain ⟨T, K, n, e, hK, hK2, HS1, HS2⟩ := q_scans b (by omega)
  have hz : decide ((32768 : Int) < (b.size : Int)) = false := decide_eq_false (by omega)
  have hee : ((bs []).toList == (bs []).toList) = true := beq_self_eq_true _
  generalize bs [] = E at HALL HRALL hee
  clear h hf
  cases A with
  | none =>
    go_enter Try.func3, Try.ntmps3
    go_wp2_with fail
    refine HL.out.mono ?_
    rintro e w1 ⟨rfl, rfl⟩
    go_wp2_with fail
    refine (HALL.out _).mono ?_
    rintro e w2 ⟨rfl, hb2⟩
    have HB2 := Lib.hid hb2
    clear hb2 HALL
    go_wp2_with fail
    refine (HRALL.out _).mono ?_
    rintro e w3 ⟨rfl, hb3⟩
    have HB3 := Lib.hid (HB2.out.trans (hb3.mono HB2.out.size))
    clear hb3 HB2 HRALL
    go_wp2_with fail
    refine (HSM.out _).mono ?_
    rintro e w4 ⟨rfl, hb4⟩
    have HB4 := Lib.hid (HB3.out.trans (hb4.mono HB3.out.size))
    clear hb4 HB3 HSM
    go_wp2
    go_loopw [10] (fun i wr => i = .int .i64 0 ∧ Hid (Below w1.heap.size w1 wr)) (fun _ _ => 0)
    case atStart => exact ⟨rfl, HB4⟩
    case round =>
      obtain ⟨rfl, HB⟩ := hrel
      clear HB4
      go_wp2_with fail
      refine (HS1.out _).mono ?_
      rintro e w5 ⟨A5, c5, rfl, hr5, hb5⟩
      have HR5 := Lib.hid hr5
      have HB5 := Lib.hid (HB.out.trans (hb5.mono HB.out.size))
      clear hb5 hr5 HB HS1
      go_wp2_with fail
      refine (HS2.out _).mono ?_
      rintro e w6 ⟨A6, c6, rfl, hr6, hb6⟩
      have HSQ := q_same2 (c1 := c5) (c2 := c6) hK hK2 HR5.out hr6 hb6
      have HB6 := Lib.hid (HB5.out.trans (hb6.mono HB5.out.size))
      clear hb6 hr6 HB5 HS2 HR5
      go_wp2_with fail
      refine HSQ.out.mono ?_
      rintro e w7 ⟨rfl, hb7⟩
      have HB7 := Lib.hid (HB6.out.trans (hb7.mono HB6.out.size))
      clear hb7 HB6 HSQ
      go_wp2_with fail
      refine (HA.out _).mono ?_
      rintro e w8 ⟨rfl, hb8⟩
      have HB8 := Lib.hid (HB7.out.trans (hb8.mono HB7.out.size))
      clear hb8 HB7
      go_wp2
      go_ret
      exact ⟨rfl, HB8.out⟩
  | some a =>
    go_enter Try.func3, Try.ntmps3
    go_wp2_with fail
    refine HL.out.mono ?_
    rintro e w1 ⟨rfl, rfl⟩
    go_wp2_with fail
    refine (HALL.out _).mono ?_
    rintro e w2 ⟨rfl, hb2⟩
    have HB2 := Lib.hid hb2
    clear hb2 HALL
    go_wp2_with fail
    refine (HRALL.out _).mono ?_
    rintro e w3 ⟨rfl, hb3⟩
    have HB3 := Lib.hid (HB2.out.trans (hb3.mono HB2.out.size))
    clear hb3 HB2 HRALL
    go_wp2_with fail
    refine (HSM.out _).mono ?_
    rintro e w4 ⟨rfl, hb4⟩
    have HB4 := Lib.hid (HB3.out.trans (hb4.mono HB3.out.size))
    clear hb4 HB3 HSM
    go_wp2
    go_loopw [10] (fun i wr => i = .int .i64 0 ∧ Hid (Below w1.heap.size w1 wr)) (fun _ _ => 0)
    case atStart => exact ⟨rfl, HB4⟩
    case round =>
      obtain ⟨rfl, HB⟩ := hrel
      clear HB4
      go_wp2_with fail
      refine (HS1.out _).mono ?_
      rintro e w5 ⟨A5, c5, rfl, hr5, hb5⟩
      have HR5 := Lib.hid hr5
      have HB5 := Lib.hid (HB.out.trans (hb5.mono HB.out.size))
      clear hb5 hr5 HB HS1
      go_wp2_with fail
      refine (HS2.out _).mono ?_
      rintro e w6 ⟨A6, c6, rfl, hr6, hb6⟩
      have HSQ := q_same2 (c1 := c5) (c2 := c6) hK hK2 HR5.out hr6 hb6
      have HB6 := Lib.hid (HB5.out.trans (hb6.mono HB5.out.size))
      clear hb6 hr6 HB5 HS2 HR5
      go_wp2_with fail
      refine HSQ.out.mono ?_
      rintro e w7 ⟨rfl, hb7⟩
      have HB7 := Lib.hid (HB6.out.trans (hb7.mono HB6.out.size))
      clear hb7 HB6 HSQ
      go_wp2_with fail
      refine (HA.out _).mono ?_
      rintro e w8 ⟨rfl, hb8⟩
      have HB8 := Lib.hid (HB7.out.trans (hb8.mono HB7.out.size))
      clear hb8 HB7
      go_wp2
      go_ret
      exact ⟨rfl, HB8.out⟩
set_option maxRecDepth 40000 in
set_option maxHeartbeats 4000000 in
theorem walk_some (w : World) (b0 o0 : Nat) (c : Nat) (L : List ByteArray) (b : ByteArray) (h : Came w (some ⟨b0, o0, none⟩) c L) (hf : Few L) (hp : 0 < L.length) (hb : b.size ≤ 32768) :
    Calls Try.prog 3 #[.slice (some ⟨b0, o0, none⟩) L.length c, .string b] w fun e w' => e = .returned (.bool true) ∧ Below w.heap.size w w' := by
  obtain ⟨i0, hi, hz0, hz1, hz2⟩ := info_parts infoS
  have HA := q_alive
  have HL := q_large h false (decide_eq_false (by have := hf.len; have := hf.lens; omega)).symm
  have hs := hf.size
  obtain ⟨E, hE⟩ : ∃ E, E = bs (frs (ll L)) := ⟨_, rfl⟩
  have HH := Lib.hid h
  have HF := Lib.hid hf
  have HRALL : Hid (∀ W, Below w.heap.size w W → Calls Try.prog 10 #[.slice (some ⟨b0, o0, none⟩) L.length c] W fun e w' => e = .returned (.tuple #[.string E, .int .i64 0]) ∧ Below W.heap.size W w') := Lib.hid fun W hW => by
    rw [hE]
    exact Rf7.all_ok W _ c L (h.reads.keep (Nat.le_refl _) hW) h.len (by omega) hf.each
  have HALL : Hid (∀ W g d, Rds W (some ⟨g, 0, none⟩) L → Calls Try.prog 9 #[.slice (some ⟨g, 0, none⟩) L.length d] W fun e w' => e = .returned (.tuple #[.string E, .int .i64 0]) ∧ Below W.heap.size W w') := Lib.hid fun W g d hr => by
    rw [hE]
    exact Fp7.all_ok W _ d L hr h.len (by omega) hf.each
  have HSM : Hid (∀ W g d, Below w.heap.size w W → Rds W (some ⟨g, 0, none⟩) L → Calls Try.prog 11 #[.slice (some ⟨g, 0, none⟩) L.length d, .slice (some ⟨b0, o0, none⟩) L.length c] W fun e w' => e = .returned (.bool true) ∧ Below W.heap.size W w') := Lib.hid fun W g d hW hr =>
    same_any W _ _ d c L L hr (h.reads.keep (Nat.le_refl _) hW) (by have := h.len; omega) true (by simp)
  obtain ⟨T, K, n, e, hK, hK2, HS1, HS2⟩ := q_scans b (by omega)
  have hz : decide ((32768 : Int) < (b.size : Int)) = false := decide_eq_false (by omega)
  have hee : (E.toList == E.toList) = true := beq_self_eq_true _
  have hN : L.length ≤ 200 := hf.len
  have hread : Hid (∀ j u, (cellsS (ll L))[j]? = some u → w.cell? ((⟨b0, o0, none⟩ : Addr).add j) = some u) := Lib.hid fun j u hj => by
    obtain ⟨bb, oo, he, _, hc⟩ := h.reads (fun e => by rw [e] at hp; simp at hp)
    simp only [Option.some.injEq, Addr.mk.injEq] at he
    obtain ⟨rfl, rfl, _⟩ := he
    have hjl : j < L.length := by
      have := (List.getElem?_eq_some_iff.1 hj).1
      simpa [cellsS, ll] using this
    have hv : u = .string L[j] := by
      have e1 : (cellsS (ll L))[j]? = some (.string L[j]) := by
        simp [cellsS, ll, hjl]; rfl
      rw [e1] at hj
      exact (Option.some.inj hj).symm
    rw [Addr.add_lit, hv]
    exact hc j hjl
  have hnews : Hid ((cellsS (ll L)).length = L.length * 1) := Lib.hid (by simp [cellsS, ll])
  have hone : Hid (∀ u ∈ cellsS (ll L), u.oneCell' = true) := Lib.hid (by
    intro u hu
    obtain ⟨t, _, rfl⟩ := List.mem_map.1 hu
    rfl)
  have P4 : Hid (0 + L.length ≤ maxLen) := Lib.hid (by unfold maxLen; omega)
  have P5 : Hid ((0 + L.length) * 16 ≤ 140737488355328) := Lib.hid (by omega)
  have P8 : Hid (∀ w3 v, w.grownBy w3 (Value.slice none 0 0).ownBlock → w3.ownsRow w.heap.size 9 1 v (0 + L.length) ([] ++ cellsS (ll L)) → Below w.heap.size w w3 ∧ ∃ g d, v = .slice (some ⟨g, 0, none⟩) L.length d ∧ Rds w3 (some ⟨g, 0, none⟩) L) := Lib.hid fun w3 v hg ho => by
    refine ⟨⟨hg.os, hg.tape, hg.output, hg.size, fun j hj => hg.block j hj (fun e => by cases e)⟩, ?_⟩
    rw [Nat.zero_add, List.nil_append] at ho
    obtain ⟨m, hm⟩ : ∃ m, L.length = m + 1 := ⟨L.length - 1, by omega⟩
    rw [hm] at ho
    obtain ⟨g, d, rfl⟩ := ownsRow_succ ho
    refine ⟨g, d, by rw [hm], ?_⟩
    have h3 : w3.ownsRow w.heap.size 9 1 (.slice (some ⟨g, 0, none⟩) (m + 1) d) (ll L).length (cellsS (ll L)) := by rw [ll_len, hm]; exact ho
    have h4 := rds_of_own h3
    rw [ll_map] at h4
    exact h4
  clear h hf hs hE
  go_enter Try.func3, Try.ntmps3
  go_wp2_with fail
  refine HL.out.mono ?_
  rintro e w1 ⟨rfl, rfl⟩
  go_wp2_with (at_builtin; refine wpList_append_own _ rfl _ _ 22 rfl w1.heap.size 9 i0 (.string ⟨#[]⟩) 1 16 Try.underlying22 hi hz0 hz1 hz2 rfl (by decide) _ 0 [] rfl (World.ownsRow_nil _ _ _ _) ⟨b0, o0, none⟩ L.length c (cellsS (ll L)) rfl hnews.out hread.out hone.out P4.out P5.out (Nat.le_refl _) ?_; intro v3 w3 own3 hgrow hn3; clear hn3; obtain ⟨hb3, g3, d3, rfl, hr3⟩ := P8.out _ _ hgrow own3; have HB3 := Lib.hid hb3; have HR3 := Lib.hid hr3; clear own3 hgrow hb3 hr3)
  refine (HALL.out _ _ _ HR3.out).mono ?_
  rintro e w4 ⟨rfl, hb4⟩
  have HB4 := Lib.hid (HB3.out.trans (hb4.mono HB3.out.size))
  have HR4 := Lib.hid (HR3.out.keep (Nat.le_refl _) hb4)
  clear hb4 HB3 HR3 HALL
  go_wp2_with fail
  refine (HRALL.out _ HB4.out).mono ?_
  rintro e w5 ⟨rfl, hb5⟩
  have HB5 := Lib.hid (HB4.out.trans (hb5.mono HB4.out.size))
  have HR5 := Lib.hid (HR4.out.keep (Nat.le_refl _) hb5)
  clear hb5 HB4 HR4 HRALL
  go_wp2_with fail
  refine (HSM.out _ _ _ HB5.out HR5.out).mono ?_
  rintro e w6 ⟨rfl, hb6⟩
  have HB6 := Lib.hid (HB5.out.trans (hb6.mono HB5.out.size))
  clear hb6 HB5 HR5 HSM
  go_wp2
  obtain ⟨N, hNN⟩ : ∃ N, N = L.length := ⟨_, rfl⟩
  rw [← hNN]
  rw [← hNN] at hN hp
  have H1 := Lib.hid hNN
  clear hNN
  go_loopw [10] (fun i wr => ∃ k : Nat, k ≤ N ∧ i = .int .i64 k ∧ Hid (Below w1.heap.size w1 wr)) (fun i _ => N - (intOf i).toNat)
  case atStart => exact ⟨0, by omega, rfl, HB6⟩
  case round =>
    obtain ⟨k, hk, rfl, HB⟩ := hrel
    clear HB6
    by_cases hkN : k < N
    · have hkl : k < L.length := by rw [← H1.out]; exact hkN
      obtain ⟨b2, o2, he2, p0⟩ := (HH.out.reads.keep (Nat.le_refl _) HB.out).at_ hkl
      simp only [Option.some.injEq, Addr.mk.injEq] at he2
      obtain ⟨rfl, rfl, _⟩ := he2
      have hx := HF.out.each k hkl
      generalize L[k] = x at p0 hx
      obtain ⟨Q, Q1, Q2⟩ := q_put x hx
      have hqq : (Q.toList == Q.toList) = true := beq_self_eq_true _
      clear hkl hx
      go_wp2_with fail
      refine (Q1.out _).mono ?_
      rintro e w7 ⟨rfl, hb7⟩
      have p1 : w7.cell? ⟨b0, o0 + k, none⟩ = some (.string x) := by
        have hlt : b0 < wr.heap.size := by
          unfold World.cell? at p0
          rcases Nat.lt_or_ge b0 wr.heap.size with h' | h'
          · exact h'
          · have e : wr.heap[b0]? = none := by simp; omega
            rw [e] at p0; cases p0
        exact (hb7.cell (p := ⟨b0, o0 + k, none⟩) hlt).trans p0
      have HB7 := Lib.hid (HB.out.trans (hb7.mono HB.out.size))
      clear hb7 HB Q1 p0
      go_wp2_with fail
      refine (Q2.out _).mono ?_
      rintro e w8 ⟨rfl, hb8⟩
      have HB8 := Lib.hid (HB7.out.trans (hb8.mono HB7.out.size))
      clear hb8 HB7 Q2 p1
      go_wp2
      go_roundw
      case rel => exact ⟨k + 1, by omega, by go_num, HB8⟩
      case measure => simp [intOf]; omega
    · have hk2 : k = N := by omega
      subst hk2
      clear hkN
      go_wp2_with fail
      refine (HS1.out _).mono ?_
      rintro e w5 ⟨A5, c5, rfl, hr5, hb5⟩
      have HR5 := Lib.hid hr5
      have HB5 := Lib.hid (HB.out.trans (hb5.mono HB.out.size))
      clear hb5 hr5 HB HS1
      go_wp2_with fail
      refine (HS2.out _).mono ?_
      rintro e w6 ⟨A6, c6, rfl, hr6, hb6⟩
      have HSQ := q_same2 (c1 := c5) (c2 := c6) hK hK2 HR5.out hr6 hb6
      have HB6 := Lib.hid (HB5.out.trans (hb6.mono HB5.out.size))
      clear hb6 hr6 HB5 HS2 HR5
      go_wp2_with fail
      refine HSQ.out.mono ?_
      rintro e w7 ⟨rfl, hb7⟩
      have HB7 := Lib.hid (HB6.out.trans (hb7.mono HB6.out.size))
      clear hb7 HB6 HSQ
      go_wp2_with fail
      refine (HA.out _).mono ?_
      rintro e w8 ⟨rfl, hb8⟩
      have HB8 := Lib.hid (HB7.out.trans (hb8.mono HB7.out.size))
      clear hb8 HB7
      go_wp2
      go_ret
      exact ⟨rfl, HB8.out⟩
theorem walk (w : World) (A : Option Addr) (c : Nat) (L : List ByteArray) (b : ByteArray) (h : Came w A c L) (hb : b.size ≤ maxLen) :
    Calls Try.prog 3 #[.slice A L.length c, .string b] w fun e w' => e = .returned (.bool true) ∧ Below w.heap.size w w' := by
  by_cases hL : (200 < L.length ∨ 32768 < lens L) ∨ 32768 < b.size
  · exact walk_large w A c L b h hb hL
  · by_cases h0 : L = []
    · subst h0
      exact walk_none w A c b (by omega)
    · have hp : 0 < L.length := List.length_pos_iff.2 h0
      obtain ⟨b0, o0, rfl, _⟩ := h.reads h0
      exact walk_some w b0 o0 c L b h (few_of (fun e => hL (.inl e))) hp (by omega)
end Go.Proofs.Ytjpefkpmjhahgaa.Te7
