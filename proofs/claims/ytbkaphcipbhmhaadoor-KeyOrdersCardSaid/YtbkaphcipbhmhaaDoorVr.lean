/- The contracts of value.RowLess and value.Same, over rows that came in, or that the call made. -/
import Derived.Test.YtbkaphcipbhmhaaDoorVn
import Derived.Deep.QuietTactic
import Derived.BigQuiet
import Derived.Deep.RegionHeld3
import Derived.Deep.DrawnRows
namespace Go.Proofs.YtbkaphcipbhmhaaDoor.Vr
open Go Go.RowKit Go.Proofs.YtbkaphcipbhmhaaDoor.Vm Go.Proofs.YtbkaphcipbhmhaaDoor.Vl
/-- The four cells of a value. -/
def Four (w : World) (b o : Nat) (v : V) : Prop :=
  w.cell? ⟨b, o, none⟩ = some (.int .u8 v.k) ∧ w.cell? ⟨b, o + 1, none⟩ = some (.int .i64 v.n) ∧ w.cell? ⟨b, o + 2, none⟩ = some (.int .u64 (v.r : Int)) ∧ w.cell? ⟨b, o + 3, none⟩ = some (.string v.s)
/-- The slice at A reads as the row l. -/
def Reads (w : World) (A : Option Addr) (l : List V) : Prop :=
  l ≠ [] → ∃ b o, A = some ⟨b, o, none⟩ ∧ b < w.heap.size ∧ ∀ k (h : k < l.length), Four w b (o + k * 4) l[k]
theorem Reads.nil (w : World) (A : Option Addr) : Reads w A [] := fun h => absurd rfl h
theorem Reads.keep {w w' : World} {A : Option Addr} {l : List V} (h : Reads w A l) (hb : Below w.heap.size w w') : Reads w' A l := fun hl => by
  obtain ⟨b, o, rfl, hlt, hc⟩ := h hl
  refine ⟨b, o, rfl, by have := hb.size; omega, fun k hk => ?_⟩
  obtain ⟨c0, c1, c2, c3⟩ := hc k hk
  exact ⟨(hb.cell (p := ⟨b, o + k * 4, none⟩) hlt).trans c0, (hb.cell (p := ⟨b, o + k * 4 + 1, none⟩) hlt).trans c1, (hb.cell (p := ⟨b, o + k * 4 + 2, none⟩) hlt).trans c2, (hb.cell (p := ⟨b, o + k * 4 + 3, none⟩) hlt).trans c3⟩
theorem Reads.at_ {w : World} {A : Option Addr} {l : List V} (h : Reads w A l) {k : Nat} (hk : k < l.length) : ∃ b o, A = some ⟨b, o, none⟩ ∧ Four w b (o + k * 4) l[k] := by
  obtain ⟨b, o, e, _, hc⟩ := h (fun h0 => by rw [h0] at hk; simp at hk)
  exact ⟨b, o, e, hc k hk⟩
theorem run_neq' (k k' n n' : Int) (r r' : Nat) (s s' : ByteArray) (w : World) :
    (binOp .neq 38 (.agg #[.int .u8 k, .int .i64 n, .int .u64 (r : Int), .string s]) (.agg #[.int .u8 k', .int .i64 n', .int .u64 (r' : Int), .string s'])).run Tryd.prog w = .ok (.bool (!eqv ⟨k, n, r, s⟩ ⟨k', n', r', s'⟩)) w :=
  Ve.run_neq ⟨k, n, r, s⟩ ⟨k', n', r', s'⟩ w
def Lens (l m : List V) : Prop := l.length ≤ 140737488351232 ∧ m.length ≤ 140737488351232
theorem below_drewN (w : World) : ∀ n, Below w.heap.size w (w.drewN n)
  | 0 => Below.refl _ _
  | n + 1 => (below_drewN w n).drew
theorem hb_drewN {w w' : World} (h : Hid (Below w.heap.size w w')) (n : Nat) : Below w.heap.size w (w'.drewN n) :=
  h.out.trans ((below_drewN w' n).mono h.out.size)
/-- Behind draws and a call. -/
theorem chain {w wr W0 w1 : World} (hb : Hid (Below w.heap.size w wr)) (h1 : Below W0.heap.size W0 w1) (h0 : Below wr.heap.size wr W0) : Hid (Below w.heap.size w w1) :=
  Lib.hid (hb.out.trans ((h0.trans (h1.mono h0.size)).mono hb.out.size))
set_option maxRecDepth 20000 in
set_option maxHeartbeats 2000000 in
theorem same_any (w : World) (A A' : Option Addr) (c c' : Nat) (l m : List V) (hl : Reads w A l) (hm : Reads w A' m) (hlen : Lens l m) :
    Calls Tryd.prog 19 #[.slice A l.length c, .slice A' m.length c'] w fun e w' => e = .returned (.bool (same l m)) ∧ Below w.heap.size w w' := by
  obtain ⟨h1, h2⟩ := hlen
  by_cases hn : l.length = m.length
  · have HL := Lib.hid hl
    have HM := Lib.hid hm
    have HN := Lib.hid hn
    clear hl hm hn
    obtain ⟨N, hN⟩ : ∃ N, N = l.length := ⟨_, rfl⟩
    have hN' : N = m.length := by rw [hN]; exact HN.out
    rw [← hN, ← hN']
    have H1 := Lib.hid hN
    have H2 := Lib.hid hN'
    rw [← hN] at h1
    clear hN hN' h2 HN
    go_enter Tryd.func19, Tryd.ntmps19
    go_wp2
    go_loopw [5, 13, 14, 15, 16, 17, 18, 19, 20, 21, 22, 23, 24, 25] (fun _ i _ _ _ _ _ _ _ _ _ _ _ _ wr => ∃ k : Nat, k ≤ N ∧ i = .int .i64 k ∧ Hid (same (l.drop k) (m.drop k) = same l m) ∧ Hid (Below w.heap.size w wr)) (fun _ i _ _ _ _ _ _ _ _ _ _ _ _ _ => N - (intOf i).toNat)
    case atStart => exact ⟨0, by omega, rfl, Lib.hid (by simp), Lib.hid (Below.refl _ _)⟩
    case round =>
      obtain ⟨k, hk, rfl, hs, hb⟩ := hrel
      by_cases hlt : k < N
      · have hkl : k < l.length := by rw [← H1.out]; exact hlt
        have hkm : k < m.length := by rw [← H2.out]; exact hlt
        obtain ⟨b, o, rfl, p0, p1, p2, p3⟩ := (HL.out.keep hb.out).at_ hkl
        obtain ⟨b', o', rfl, q0, q1, q2, q3⟩ := (HM.out.keep hb.out).at_ hkm
        have hd : same (l.drop k) (m.drop k) = (eqv l[k] m[k] && same (l.drop (k + 1)) (m.drop (k + 1))) := by
          rw [List.drop_eq_getElem_cons hkl, List.drop_eq_getElem_cons hkm]; rfl
        rw [hs.out] at hd
        have HD := Lib.hid hd
        clear hd hs
        obtain ⟨x, hx⟩ : ∃ x, x = l[k] := ⟨_, rfl⟩
        obtain ⟨y, hy⟩ : ∃ y, y = m[k] := ⟨_, rfl⟩
        rw [← hx] at HD p0 p1 p2 p3
        rw [← hy] at HD q0 q1 q2 q3
        clear hx hy hkl hkm
        obtain ⟨k0, n0, r0, s0⟩ := x
        obtain ⟨k1, n1, r1, s1⟩ := y
        dsimp only at p0 p1 p2 p3 q0 q1 q2 q3
        have he := run_neq' k0 k1 n0 n1 r0 r1 s0 s1
        cases hE : eqv ⟨k0, n0, r0, s0⟩ ⟨k1, n1, r1, s1⟩
        · rw [hE] at he
          rw [hE, Bool.false_and] at HD
          clear hE
          go_wp2
          go_quiet (fail)
          go_wp2
          go_ret
          exact ⟨by rw [HD.out]; rfl, hb_drewN hb _⟩
        · rw [hE] at he
          rw [hE, Bool.true_and] at HD
          clear hE
          go_wp2
          go_quiet (fail)
          go_wp2
          exact ⟨⟨k + 1, by omega, by go_num, Lib.hid HD.out.symm, Lib.hid (hb_drewN hb _)⟩, by simp [intOf]; omega⟩
      · obtain rfl : k = N := by omega
        have ht : same l m = true := by
          rw [← hs.out, H1.out]
          have e : l.length = m.length := by rw [← H1.out, ← H2.out]
          rw [List.drop_length, e, List.drop_length]; rfl
        have HT := Lib.hid ht
        clear ht hs
        go_wp2
        go_ret
        exact ⟨by rw [HT.out]; rfl, hb.out⟩
  · have hf : same l m = false := by
      cases h : same l m
      · rfl
      · rw [same_iff.1 h] at hn; exact absurd rfl hn
    rw [hf]
    clear hf hl hm
    have hn1 : ((l.length : Int) != (m.length : Int)) = true := by simp; omega
    have hn2 : ¬ ((l.length : Int) = (m.length : Int)) := by omega
    go_enter Tryd.func19, Tryd.ntmps19
    go_wp2
    go_ret
    exact ⟨rfl, Below.refl _ _⟩
theorem drop_nil (m : List V) (k M : Nat) (hM : M = m.length) {j : Nat} (hk : k = j) : rowLess [] (m.drop j) = decide (k < M) := by
  subst hk hM
  cases h : m.drop k with
  | nil => have := List.drop_eq_nil_iff.1 h; rw [decide_eq_false (by omega)]; rfl
  | cons b t =>
    have : ¬ m.length ≤ k := fun hc => by rw [List.drop_eq_nil_iff.2 hc] at h; cases h
    rw [decide_eq_true (by omega)]; rfl
theorem drop_cons (l : List V) (j : Nat) (hj : j < l.length) : rowLess (l.drop j) [] = false := by
  rw [List.drop_eq_getElem_cons hj]; rfl
set_option maxRecDepth 20000 in
set_option maxHeartbeats 2000000 in
theorem rowless_le (w : World) (A A' : Option Addr) (c c' : Nat) (l m : List V) (hl : Reads w A l) (hm : Reads w A' m) (hlen : Lens l m) (ol : ∀ v ∈ l, v.r < 18446744073709551616) (om : ∀ v ∈ m, v.r < 18446744073709551616) (hle : l.length ≤ m.length) :
    Calls Tryd.prog 18 #[.slice A l.length c, .slice A' m.length c'] w fun e w' => e = .returned (.bool (rowLess l m)) ∧ Below w.heap.size w w' := by
  obtain ⟨h1, h2⟩ := hlen
  have HL := Lib.hid hl
  have HM := Lib.hid hm
  have OL := Lib.hid ol
  have OM := Lib.hid om
  clear hl hm ol om
  obtain ⟨N, hN⟩ : ∃ N, N = l.length := ⟨_, rfl⟩
  obtain ⟨M, hM⟩ : ∃ M, M = m.length := ⟨_, rfl⟩
  rw [← hN, ← hM]
  rw [← hN] at h1 hle
  rw [← hM] at h2 hle
  have H1 := Lib.hid hN
  have H2 := Lib.hid hM
  clear hN hM
  go_enter Tryd.func18, Tryd.ntmps18
  go_wp2
  go_loopw [5, 11, 12, 13, 14, 15, 16, 17, 18, 19, 20, 21, 22, 23, 24, 25, 26, 27, 28, 29, 30, 31, 32] (fun _ i _ _ _ _ _ _ _ _ _ _ _ _ _ _ _ _ _ _ _ _ _ wr => ∃ k : Nat, k ≤ N ∧ i = .int .i64 k ∧ Hid (rowLess (l.drop k) (m.drop k) = rowLess l m) ∧ Hid (Below w.heap.size w wr)) (fun _ i _ _ _ _ _ _ _ _ _ _ _ _ _ _ _ _ _ _ _ _ _ _ => N - (intOf i).toNat)
  case atStart => exact ⟨0, by omega, rfl, Lib.hid (by simp), Lib.hid (Below.refl _ _)⟩
  case round =>
    obtain ⟨k, hk, rfl, hs, hb⟩ := hrel
    by_cases hlt : k < N
    · have hkl : k < l.length := by rw [← H1.out]; omega
      have hkm : k < m.length := by rw [← H2.out]; omega
      have hk1 : k < N := by omega
      have hk2 : k < M := by omega
      obtain ⟨b, o, rfl, p0, p1, p2, p3⟩ := (HL.out.keep hb.out).at_ hkl
      obtain ⟨b', o', rfl, q0, q1, q2, q3⟩ := (HM.out.keep hb.out).at_ hkm
      have hd : rowLess (l.drop k) (m.drop k) = (if eqv l[k] m[k] = true then rowLess (l.drop (k + 1)) (m.drop (k + 1)) else less l[k] m[k]) := by
        rw [List.drop_eq_getElem_cons hkl, List.drop_eq_getElem_cons hkm]; rfl
      rw [hs.out] at hd
      have HD := Lib.hid hd
      have HR := Lib.hid (OL.out _ (List.getElem_mem hkl))
      have HS := Lib.hid (OM.out _ (List.getElem_mem hkm))
      clear hd hs
      have HKs : Hid (∀ W, Below w.heap.size w W → Four W b (o + k * 4) l[k] ∧ Four W b' (o' + k * 4) m[k]) := Lib.hid fun W hW => by
        obtain ⟨b1, o1, e1, f1⟩ := (HL.out.keep hW).at_ hkl
        obtain ⟨b2, o2, e2, f2⟩ := (HM.out.keep hW).at_ hkm
        cases e1; cases e2
        exact ⟨f1, f2⟩
      obtain ⟨x, hx⟩ : ∃ x, x = l[k] := ⟨_, rfl⟩
      obtain ⟨y, hy⟩ : ∃ y, y = m[k] := ⟨_, rfl⟩
      rw [← hx] at HD p0 p1 p2 p3 HR HKs
      rw [← hy] at HD q0 q1 q2 q3 HS HKs
      clear hx hy hkl hkm
      obtain ⟨k0, n0, r0, s0⟩ := x
      obtain ⟨k1, n1, r1, s1⟩ := y
      dsimp only at p0 p1 p2 p3 q0 q1 q2 q3
      have he := run_neq' k0 k1 n0 n1 r0 r1 s0 s1
      cases hE : eqv ⟨k0, n0, r0, s0⟩ ⟨k1, n1, r1, s1⟩
      · rw [hE] at he
        rw [hE, if_neg (by simp)] at HD
        clear hE
        go_wp2
        go_quiet (fail)
        go_wp2
        have HC : Hid (∀ W, Calls Tryd.prog 28 #[.agg #[.int .u8 k0, .int .i64 n0, .int .u64 (r0 : Int), .string s0], .agg #[.int .u8 k1, .int .i64 n1, .int .u64 (r1 : Int), .string s1]] W fun e w' => e = .returned (.bool (less ⟨k0, n0, r0, s0⟩ ⟨k1, n1, r1, s1⟩)) ∧ Below W.heap.size W w') :=
          Lib.hid fun W => Vn.less_at k0 k1 n0 n1 r0 r1 s0 s1 W HR.out HS.out
        clear he hlt
        have HK : Hid (∀ W, Below w.heap.size w W → W.cell? ⟨b, o + k * 4, none⟩ = some (.int .u8 k0) ∧ W.cell? ⟨b, o + k * 4 + 1, none⟩ = some (.int .i64 n0) ∧ W.cell? ⟨b, o + k * 4 + 2, none⟩ = some (.int .u64 (r0 : Int)) ∧ W.cell? ⟨b, o + k * 4 + 3, none⟩ = some (.string s0) ∧ W.cell? ⟨b', o' + k * 4, none⟩ = some (.int .u8 k1) ∧ W.cell? ⟨b', o' + k * 4 + 1, none⟩ = some (.int .i64 n1) ∧ W.cell? ⟨b', o' + k * 4 + 2, none⟩ = some (.int .u64 (r1 : Int)) ∧ W.cell? ⟨b', o' + k * 4 + 3, none⟩ = some (.string s1)) := Lib.hid fun W hW => by
          obtain ⟨⟨c0, c1, c2, c3⟩, d0, d1, d2, d3⟩ := HKs.out W hW
          exact ⟨c0, c1, c2, c3, d0, d1, d2, d3⟩
        clear HKs
        go_region_held3 (fun W => W.cell? ⟨b, o + k * 4, none⟩ = some (.int .u8 k0) ∧ W.cell? ⟨b, o + k * 4 + 1, none⟩ = some (.int .i64 n0) ∧ W.cell? ⟨b, o + k * 4 + 2, none⟩ = some (.int .u64 (r0 : Int)) ∧ W.cell? ⟨b, o + k * 4 + 3, none⟩ = some (.string s0) ∧ W.cell? ⟨b', o' + k * 4, none⟩ = some (.int .u8 k1) ∧ W.cell? ⟨b', o' + k * 4 + 1, none⟩ = some (.int .i64 n1) ∧ W.cell? ⟨b', o' + k * 4 + 2, none⟩ = some (.int .u64 (r1 : Int)) ∧ W.cell? ⟨b', o' + k * 4 + 3, none⟩ = some (.string s1)) (first | exact HK.out _ (Hid.out (by assumption)) | go_keep)
          (((with_reducible refine (HC.out _).mono ?_); rintro e w1 ⟨rfl, hw1⟩; have HX := chain hb hw1 ⟨rfl, rfl, rfl, Nat.le_refl _, fun _ _ => rfl⟩; clear hw1))
        all_goals go_wp2
        go_ret
        exact ⟨by rw [HD.out]; rfl, Hid.out (by assumption)⟩
      · rw [hE] at he
        rw [hE, if_pos rfl] at HD
        clear hE
        go_wp2
        go_quiet (fail)
        go_wp2
        exact ⟨⟨k + 1, by omega, by go_num, Lib.hid HD.out.symm, Lib.hid (hb_drewN hb _)⟩, by simp [intOf]; omega⟩
    · obtain rfl : k = N := by omega
      have ht : rowLess l m = decide (k < M) := by
        rw [← hs.out]
        rw [H1.out, List.drop_length]
        exact drop_nil m _ M H2.out rfl
      have HT := Lib.hid ht
      clear ht hs hlt
      skip
      go_wp2
      go_ret
      exact ⟨by rw [HT.out]; rfl, hb.out⟩
set_option maxRecDepth 20000 in
set_option maxHeartbeats 2000000 in
theorem rowless_gt (w : World) (A A' : Option Addr) (c c' : Nat) (l m : List V) (hl : Reads w A l) (hm : Reads w A' m) (hlen : Lens l m) (ol : ∀ v ∈ l, v.r < 18446744073709551616) (om : ∀ v ∈ m, v.r < 18446744073709551616) (hle : m.length < l.length) :
    Calls Tryd.prog 18 #[.slice A l.length c, .slice A' m.length c'] w fun e w' => e = .returned (.bool (rowLess l m)) ∧ Below w.heap.size w w' := by
  obtain ⟨h1, h2⟩ := hlen
  have HL := Lib.hid hl
  have HM := Lib.hid hm
  have OL := Lib.hid ol
  have OM := Lib.hid om
  clear hl hm ol om
  obtain ⟨N, hN⟩ : ∃ N, N = l.length := ⟨_, rfl⟩
  obtain ⟨M, hM⟩ : ∃ M, M = m.length := ⟨_, rfl⟩
  rw [← hN, ← hM]
  rw [← hN] at h1 hle
  rw [← hM] at h2 hle
  have H1 := Lib.hid hN
  have H2 := Lib.hid hM
  clear hN hM
  go_enter Tryd.func18, Tryd.ntmps18
  go_wp2
  go_loopw [5, 11, 12, 13, 14, 15, 16, 17, 18, 19, 20, 21, 22, 23, 24, 25, 26, 27, 28, 29, 30, 31, 32] (fun _ i _ _ _ _ _ _ _ _ _ _ _ _ _ _ _ _ _ _ _ _ _ wr => ∃ k : Nat, k ≤ M ∧ i = .int .i64 k ∧ Hid (rowLess (l.drop k) (m.drop k) = rowLess l m) ∧ Hid (Below w.heap.size w wr)) (fun _ i _ _ _ _ _ _ _ _ _ _ _ _ _ _ _ _ _ _ _ _ _ _ => M - (intOf i).toNat)
  case atStart => exact ⟨0, by omega, rfl, Lib.hid (by simp), Lib.hid (Below.refl _ _)⟩
  case round =>
    obtain ⟨k, hk, rfl, hs, hb⟩ := hrel
    by_cases hlt : k < M
    · have hkl : k < l.length := by rw [← H1.out]; omega
      have hkm : k < m.length := by rw [← H2.out]; omega
      have hk1 : k < N := by omega
      have hk2 : k < M := by omega
      obtain ⟨b, o, rfl, p0, p1, p2, p3⟩ := (HL.out.keep hb.out).at_ hkl
      obtain ⟨b', o', rfl, q0, q1, q2, q3⟩ := (HM.out.keep hb.out).at_ hkm
      have hd : rowLess (l.drop k) (m.drop k) = (if eqv l[k] m[k] = true then rowLess (l.drop (k + 1)) (m.drop (k + 1)) else less l[k] m[k]) := by
        rw [List.drop_eq_getElem_cons hkl, List.drop_eq_getElem_cons hkm]; rfl
      rw [hs.out] at hd
      have HD := Lib.hid hd
      have HR := Lib.hid (OL.out _ (List.getElem_mem hkl))
      have HS := Lib.hid (OM.out _ (List.getElem_mem hkm))
      clear hd hs
      have HKs : Hid (∀ W, Below w.heap.size w W → Four W b (o + k * 4) l[k] ∧ Four W b' (o' + k * 4) m[k]) := Lib.hid fun W hW => by
        obtain ⟨b1, o1, e1, f1⟩ := (HL.out.keep hW).at_ hkl
        obtain ⟨b2, o2, e2, f2⟩ := (HM.out.keep hW).at_ hkm
        cases e1; cases e2
        exact ⟨f1, f2⟩
      obtain ⟨x, hx⟩ : ∃ x, x = l[k] := ⟨_, rfl⟩
      obtain ⟨y, hy⟩ : ∃ y, y = m[k] := ⟨_, rfl⟩
      rw [← hx] at HD p0 p1 p2 p3 HR HKs
      rw [← hy] at HD q0 q1 q2 q3 HS HKs
      clear hx hy hkl hkm
      obtain ⟨k0, n0, r0, s0⟩ := x
      obtain ⟨k1, n1, r1, s1⟩ := y
      dsimp only at p0 p1 p2 p3 q0 q1 q2 q3
      have he := run_neq' k0 k1 n0 n1 r0 r1 s0 s1
      cases hE : eqv ⟨k0, n0, r0, s0⟩ ⟨k1, n1, r1, s1⟩
      · rw [hE] at he
        rw [hE, if_neg (by simp)] at HD
        clear hE
        go_wp2
        go_quiet (fail)
        go_wp2
        have HC : Hid (∀ W, Calls Tryd.prog 28 #[.agg #[.int .u8 k0, .int .i64 n0, .int .u64 (r0 : Int), .string s0], .agg #[.int .u8 k1, .int .i64 n1, .int .u64 (r1 : Int), .string s1]] W fun e w' => e = .returned (.bool (less ⟨k0, n0, r0, s0⟩ ⟨k1, n1, r1, s1⟩)) ∧ Below W.heap.size W w') :=
          Lib.hid fun W => Vn.less_at k0 k1 n0 n1 r0 r1 s0 s1 W HR.out HS.out
        clear he hlt
        have HK : Hid (∀ W, Below w.heap.size w W → W.cell? ⟨b, o + k * 4, none⟩ = some (.int .u8 k0) ∧ W.cell? ⟨b, o + k * 4 + 1, none⟩ = some (.int .i64 n0) ∧ W.cell? ⟨b, o + k * 4 + 2, none⟩ = some (.int .u64 (r0 : Int)) ∧ W.cell? ⟨b, o + k * 4 + 3, none⟩ = some (.string s0) ∧ W.cell? ⟨b', o' + k * 4, none⟩ = some (.int .u8 k1) ∧ W.cell? ⟨b', o' + k * 4 + 1, none⟩ = some (.int .i64 n1) ∧ W.cell? ⟨b', o' + k * 4 + 2, none⟩ = some (.int .u64 (r1 : Int)) ∧ W.cell? ⟨b', o' + k * 4 + 3, none⟩ = some (.string s1)) := Lib.hid fun W hW => by
          obtain ⟨⟨c0, c1, c2, c3⟩, d0, d1, d2, d3⟩ := HKs.out W hW
          exact ⟨c0, c1, c2, c3, d0, d1, d2, d3⟩
        clear HKs
        go_region_held3 (fun W => W.cell? ⟨b, o + k * 4, none⟩ = some (.int .u8 k0) ∧ W.cell? ⟨b, o + k * 4 + 1, none⟩ = some (.int .i64 n0) ∧ W.cell? ⟨b, o + k * 4 + 2, none⟩ = some (.int .u64 (r0 : Int)) ∧ W.cell? ⟨b, o + k * 4 + 3, none⟩ = some (.string s0) ∧ W.cell? ⟨b', o' + k * 4, none⟩ = some (.int .u8 k1) ∧ W.cell? ⟨b', o' + k * 4 + 1, none⟩ = some (.int .i64 n1) ∧ W.cell? ⟨b', o' + k * 4 + 2, none⟩ = some (.int .u64 (r1 : Int)) ∧ W.cell? ⟨b', o' + k * 4 + 3, none⟩ = some (.string s1)) (first | exact HK.out _ (Hid.out (by assumption)) | go_keep)
          (((with_reducible refine (HC.out _).mono ?_); rintro e w1 ⟨rfl, hw1⟩; have HX := chain hb hw1 ⟨rfl, rfl, rfl, Nat.le_refl _, fun _ _ => rfl⟩; clear hw1))
        all_goals go_wp2
        go_ret
        exact ⟨by rw [HD.out]; rfl, Hid.out (by assumption)⟩
      · rw [hE] at he
        rw [hE, if_pos rfl] at HD
        clear hE
        go_wp2
        go_quiet (fail)
        go_wp2
        exact ⟨⟨k + 1, by omega, by go_num, Lib.hid HD.out.symm, Lib.hid (hb_drewN hb _)⟩, by simp [intOf]; omega⟩
    · obtain rfl : k = M := by omega
      have ht : rowLess l m = decide (N < k) := by
        rw [← hs.out, decide_eq_false (by omega)]
        rw [H2.out, List.drop_length]
        exact drop_cons l _ (by rw [← H1.out, ← H2.out]; exact hle)
      have HT := Lib.hid ht
      clear ht hs hlt
      skip
      go_wp2
      go_ret
      exact ⟨by rw [HT.out]; rfl, hb.out⟩
end Go.Proofs.YtbkaphcipbhmhaaDoor.Vr
