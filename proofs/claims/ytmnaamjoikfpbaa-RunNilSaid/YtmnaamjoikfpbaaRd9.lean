/- Slices of pairs, and what they read as; pairs compared; the document's Same, May, Ahead, Within. -/
import Derived.Test.YtmnaamjoikfpbaaSn9
import Derived.Laws.StructEq
namespace Go.Proofs.Ytmnaamjoikfpbaa.Rd9
open Go Go.RowKit Go.Proofs.Ytmnaamjoikfpbaa.Pm9 Go.Proofs.Ytmnaamjoikfpbaa.Wd9 Go.Proofs.Ytmnaamjoikfpbaa.Mt9 Go.Proofs.Ytmnaamjoikfpbaa.Mm9 Go.Proofs.Ytmnaamjoikfpbaa.Sn9
/-- The three cells of a pair. -/
def Three (w : World) (b o : Nat) (x : Pr) : Prop := w.cell? ⟨b, o, none⟩ = some (.string x.k) ∧ w.cell? ⟨b, o + 1, none⟩ = some (.string x.v) ∧ w.cell? ⟨b, o + 2, none⟩ = some (.bool x.g)
/-- The slice at A reads as the pairs L. -/
def Reads (w : World) (A : Option Addr) (L : List Pr) : Prop := L ≠ [] → ∃ b o, A = some ⟨b, o, none⟩ ∧ b < w.heap.size ∧ ∀ k (h : k < L.length), Three w b (o + k * 3) L[k]
theorem Reads.nil (w : World) (A : Option Addr) : Reads w A [] := fun h => absurd rfl h
theorem Reads.keep {B : Nat} {w w' : World} {A : Option Addr} {L : List Pr} (h : Reads w A L) (hB : w.heap.size ≤ B) (hb : Below B w w') : Reads w' A L := fun hl => by
  obtain ⟨b, o, rfl, hlt, hc⟩ := h hl
  refine ⟨b, o, rfl, by have := hb.size; omega, fun k hk => ?_⟩
  obtain ⟨c0, c1, c2⟩ := hc k hk
  exact ⟨(hb.cell (p := ⟨b, o + k * 3, none⟩) (by show b < B; omega)).trans c0, (hb.cell (p := ⟨b, o + k * 3 + 1, none⟩) (by show b < B; omega)).trans c1, (hb.cell (p := ⟨b, o + k * 3 + 2, none⟩) (by show b < B; omega)).trans c2⟩
/-- Also where others' blocks were written. -/
theorem Reads.tread {S : Nat → Prop} {w w' : World} {A : Option Addr} {L : List Pr} (h : Reads w A L) (ht : Tread S w w') (hS : ∀ a, A = some a → ¬ S a.block) : Reads w' A L := fun hl => by
  obtain ⟨b, o, rfl, hlt, hc⟩ := h hl
  have hk := ht.block b hlt (hS _ rfl)
  refine ⟨b, o, rfl, by have := ht.size; omega, fun k hk' => ?_⟩
  obtain ⟨c0, c1, c2⟩ := hc k hk'
  have e : ∀ i, w'.cell? ⟨b, i, none⟩ = w.cell? ⟨b, i, none⟩ := fun i => by simp [World.cell?, hk]
  exact ⟨(e _).trans c0, (e _).trans c1, (e _).trans c2⟩
theorem Reads.at_ {w : World} {A : Option Addr} {L : List Pr} (h : Reads w A L) {k : Nat} (hk : k < L.length) : ∃ b o, A = some ⟨b, o, none⟩ ∧ Three w b (o + k * 3) L[k] := by
  obtain ⟨b, o, e, _, hc⟩ := h (fun h0 => by rw [h0] at hk; simp at hk)
  exact ⟨b, o, e, hc k hk⟩
theorem reads_of_own {W : World} {n0 : Nat} {A : Option Addr} {n c : Nat} {L : List Pr} (h : W.ownsRow n0 39 3 (.slice A n c) L.length (cellsP L)) : Reads W A L := fun hne => by
  have hl : 0 < L.length := List.length_pos_iff.2 hne
  rcases h.2 with ⟨hv, h0⟩ | ⟨g, cap, cur, hv, hb, hg, hrest⟩
  · omega
  · have hA : A = some ⟨g, 0, none⟩ := by injection hv
    have hcells := h.cells (g := g) (by rw [hv]; rfl)
    refine ⟨g, 0, hA, (Array.getElem?_eq_some_iff.1 hg).1, fun k hk => ?_⟩
    have one : ∀ j u, j < 3 → (cells3 L[k])[j]? = some u → W.cell? ⟨g, 0 + k * 3 + j, none⟩ = some u := fun j u hj hu => by
      have h1 := hcells (3 * k + j) u (by rw [cellsP_get L k j hk hj]; exact hu)
      have e : (⟨g, 0, none⟩ : Addr).add (3 * k + j) = ⟨g, 0 + k * 3 + j, none⟩ := by unfold Addr.add; split <;> simp_all; omega
      rwa [e] at h1
    exact ⟨one 0 _ (by omega) rfl, one 1 _ (by omega) rfl, one 2 _ (by omega) rfl⟩
/-- Are two pairs the same? -/
def eqP (x y : Pr) : Bool := x.k.toList == y.k.toList && (x.v.toList == y.v.toList && x.g == y.g)
theorem eqP_iff {x y : Pr} : eqP x y = true ↔ x = y := by
  obtain ⟨k, v, g⟩ := x
  obtain ⟨k', v', g'⟩ := y
  unfold eqP
  constructor
  · intro h
    simp only [Bool.and_eq_true, beq_iff_eq] at h
    rw [bytes_ext h.1, bytes_ext h.2.1, h.2.2]
  · intro h
    cases h
    simp
theorem eqP_not {x y : Pr} : eqP x y = false ↔ x ≠ y := by rw [← Bool.not_eq_true, eqP_iff]
theorem eq_cells (k v : ByteArray) (g : Bool) (k' v' : ByteArray) (g' : Bool) (w : World) :
    (Op.equalIn 10000 39 (.agg #[.string k, .string v, .bool g]) (.agg #[.string k', .string v', .bool g'])).run Try.prog w = .ok (eqP ⟨k, v, g⟩ ⟨k', v', g'⟩) w := by
  rw [run_equalIn_struct (d := 9999) _ _ _ _ (by kernel_rfl) (by kernel_rfl)]
  have hf : (Try.prog.fieldsOf 39).toList = [⟨ "Key", 9, 0, false, "", "", 0⟩, ⟨ "Value", 9, 1, false, "", "", 16⟩, ⟨ "Gone", 4, 2, false, "", "", 32⟩] := by kernel_rfl
  rw [hf]
  clear hf
  go_simp
  unfold eqP
  dsimp only
  by_cases h1 : k.toList = k'.toList
  · by_cases h2 : v.toList = v'.toList <;> cases g <;> cases g' <;> simp [h1, h2]
  · simp [h1]
theorem run_eq (k v : ByteArray) (g : Bool) (k' v' : ByteArray) (g' : Bool) (w : World) :
    (binOp .eql 39 (.agg #[.string k, .string v, .bool g]) (.agg #[.string k', .string v', .bool g'])).run Try.prog w = .ok (.bool (eqP ⟨k, v, g⟩ ⟨k', v', g'⟩)) w := by
  rw [run_eql_struct, eq_cells]; rfl
theorem run_ne (k v : ByteArray) (g : Bool) (k' v' : ByteArray) (g' : Bool) (w : World) :
    (binOp .neq 39 (.agg #[.string k, .string v, .bool g]) (.agg #[.string k', .string v', .bool g'])).run Try.prog w = .ok (.bool (!eqP ⟨k, v, g⟩ ⟨k', v', g'⟩)) w := by
  rw [run_neq_struct, eq_cells]; rfl
theorem below_drewN (w : World) : ∀ n, Below w.heap.size w (w.drewN n)
  | 0 => Below.refl _ _
  | n + 1 => (below_drewN w n).drew
theorem hb_drewN {w w' : World} (h : Hid (Below w.heap.size w w')) (n : Nat) : Below w.heap.size w (w'.drewN n) :=
  h.out.trans ((below_drewN w' n).mono h.out.size)
def sameP : List Pr → List Pr → Bool
  | [], [] => true
  | x :: l, y :: m => eqP x y && sameP l m
  | _, _ => false
theorem same_iff : ∀ {l m : List Pr}, sameP l m = true ↔ l = m
  | [], [] => by simp [sameP]
  | [], y :: m => by simp [sameP]
  | x :: l, [] => by simp [sameP]
  | x :: l, y :: m => by simp [sameP, eqP_iff, same_iff]
set_option maxRecDepth 20000 in
set_option maxHeartbeats 2000000 in
theorem same_any (w : World) (A A' : Option Addr) (c c' : Nat) (l m : List Pr) (hl : Reads w A l) (hm : Reads w A' m) (hlen : l.length ≤ 140737488351232) :
    Calls Try.prog 19 #[.slice A l.length c, .slice A' m.length c'] w fun e w' => e = .returned (.bool (sameP l m)) ∧ Below w.heap.size w w' := by
  by_cases hn : l.length = m.length
  · have HL := Lib.hid hl
    have HM := Lib.hid hm
    have HN := Lib.hid hn
    clear hl hm hn
    obtain ⟨N, hN⟩ : ∃ N, N = l.length := ⟨_, rfl⟩
    have hN' : N = m.length := by rw [hN]; exact HN.out
    rw [← hN, ← hN']
    have H1 := Lib.hid hN
    have H2 := Lib.hid hN'
    rw [← hN] at hlen
    clear hN hN' HN
    go_enter Try.func19, Try.ntmps19
    go_wp2
    go_loopw [5, 11, 12, 13, 14, 15, 16, 17, 18, 19, 20, 21, 22, 23, 24, 25] (fun i _ _ _ _ _ _ _ _ _ _ _ _ _ _ _ wr => ∃ k : Nat, k ≤ N ∧ i = .int .i64 k ∧ Hid (sameP (l.drop k) (m.drop k) = sameP l m) ∧ Hid (Below w.heap.size w wr)) (fun i _ _ _ _ _ _ _ _ _ _ _ _ _ _ _ _ => N - (intOf i).toNat)
    case atStart => exact ⟨0, by omega, rfl, Lib.hid (by simp), Lib.hid (Below.refl _ _)⟩
    case round =>
      obtain ⟨k, hk, rfl, hs, hb⟩ := hrel
      by_cases hlt : k < N
      · have hkl : k < l.length := by rw [← H1.out]; exact hlt
        have hkm : k < m.length := by rw [← H2.out]; exact hlt
        obtain ⟨b, o, rfl, p0, p1, p2⟩ := (HL.out.keep (Nat.le_refl _) hb.out).at_ hkl
        obtain ⟨b', o', rfl, q0, q1, q2⟩ := (HM.out.keep (Nat.le_refl _) hb.out).at_ hkm
        have hd : sameP (l.drop k) (m.drop k) = (eqP l[k] m[k] && sameP (l.drop (k + 1)) (m.drop (k + 1))) := by
          rw [List.drop_eq_getElem_cons hkl, List.drop_eq_getElem_cons hkm]; rfl
        rw [hs.out] at hd
        have HD := Lib.hid hd
        clear hd hs
        obtain ⟨x, hx⟩ : ∃ x, x = l[k] := ⟨_, rfl⟩
        obtain ⟨y, hy⟩ : ∃ y, y = m[k] := ⟨_, rfl⟩
        rw [← hx] at HD p0 p1 p2
        rw [← hy] at HD q0 q1 q2
        clear hx hy hkl hkm
        obtain ⟨k0, v0, g0⟩ := x
        obtain ⟨k1, v1, g1⟩ := y
        dsimp only at p0 p1 p2 q0 q1 q2
        have he := run_ne k0 v0 g0 k1 v1 g1
        cases hE : eqP ⟨k0, v0, g0⟩ ⟨k1, v1, g1⟩
        · rw [hE] at he
          rw [hE, Bool.false_and] at HD
          clear hE
          go_wp2
          go_quiet (fail)
          go_wp2
          go_ret
          exact ⟨by rw [HD.out]; rfl, hb_drewN hb _⟩
        · rw [hE] at he
          rw [hE, Bool.true_and] at HD
          clear hE
          go_wp2
          go_quiet (fail)
          go_wp2
          exact ⟨⟨k + 1, by omega, by go_num, Lib.hid HD.out.symm, Lib.hid (hb_drewN hb _)⟩, by simp [intOf]; omega⟩
      · obtain rfl : k = N := by omega
        have ht : sameP l m = true := by
          rw [← hs.out, H1.out]
          have e : l.length = m.length := by rw [← H1.out, ← H2.out]
          rw [List.drop_length, e, List.drop_length]; rfl
        have HT := Lib.hid ht
        clear ht hs
        go_wp2
        go_ret
        exact ⟨by rw [HT.out]; rfl, hb.out⟩
  · have hf : sameP l m = false := by
      cases h : sameP l m
      · rfl
      · rw [same_iff.1 h] at hn; exact absurd rfl hn
    rw [hf]
    clear hf hl hm
    have hn1 : ((l.length : Int) != (m.length : Int)) = true := by simp; omega
    have hn2 : ¬ ((l.length : Int) = (m.length : Int)) := by omega
    go_enter Try.func19, Try.ntmps19
    go_wp2
    go_ret
    exact ⟨rfl, Below.refl _ _⟩
set_option maxRecDepth 20000 in
set_option maxHeartbeats 2000000 in
theorem may_any (w : World) (x : Pr) (hk : x.k.size ≤ 140737488351232) (hv : x.v.size ≤ 140737488351232) :
    Calls Try.prog 42 #[.agg #[.string x.k, .string x.v, .bool x.g]] w fun e w' => e = .returned (.bool (may x)) ∧ Below w.heap.size w w' := by
  obtain ⟨k, v, g⟩ := x
  dsimp only at hk hv ⊢
  have hb := (Below.refl w.heap.size w).alloc (Nat.le_refl _) (.cells #[.string k, .string v, .bool g] 39)
  have HB := Lib.hid hb
  clear hb
  unfold may
  dsimp only
  go_enter Try.func42, Try.ntmps42
  by_cases h0 : 1 ≤ k.size
  · have g0 : (1 : Int) ≤ (k.size : Int) := by omega
    rw [decide_eq_true h0]
    by_cases h1 : k.size ≤ 512
    · have g1 : (k.size : Int) ≤ 512 := by omega
      rw [decide_eq_true h1]
      by_cases h2 : v.size ≤ 262144
      · have g2 : (v.size : Int) ≤ 262144 := by omega
        rw [decide_eq_true h2]
        cases g
        · go_wp2
          go_ret
          exact ⟨rfl, HB.out⟩
        · by_cases zv : v.size = 0
          · have e2 := empty_of zv
            rw [decide_eq_true zv]
            clear zv
            go_wp2
            go_ret
            exact ⟨rfl, HB.out⟩
          · have e2 := not_empty_of zv
            rw [decide_eq_false zv]
            clear zv
            go_wp2
            go_ret
            exact ⟨rfl, HB.out⟩
      · have g2 : ¬ (v.size : Int) ≤ 262144 := by omega
        rw [decide_eq_false h2]
        go_wp2
        go_ret
        exact ⟨rfl, HB.out⟩
    · have g1 : ¬ (k.size : Int) ≤ 512 := by omega
      rw [decide_eq_false h1]
      go_wp2
      go_ret
      exact ⟨rfl, HB.out⟩
  · have g0 : ¬ (1 : Int) ≤ (k.size : Int) := by omega
    rw [decide_eq_false h0]
    go_wp2
    go_ret
    exact ⟨rfl, HB.out⟩
end Go.Proofs.Ytmnaamjoikfpbaa.Rd9
