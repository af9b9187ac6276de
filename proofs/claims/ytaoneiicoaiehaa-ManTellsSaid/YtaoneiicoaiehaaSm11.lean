/- slices.Sort of a row of 64-bit numbers: the choice of a pivot. -/
import Derived.Test.YtaoneiicoaiehaaSx11
namespace Go.Proofs.Ytaoneiicoaiehaa.Sm11
open Go Go.RowKit Go.Lib Go.Sort Go.Proofs.Ytaoneiicoaiehaa.Dh Go.Proofs.Ytaoneiicoaiehaa.Sx11
/-- With a count in a new block. -/
structure Cnt (w0 w : World) (b off : Nat) (d : Array Int) (c s : Nat) : Prop where
  srt : Srt w0 w b off d
  new : w0.heap.size ≤ c
  cell : w.cell? ⟨c, 0, none⟩ = some (.int .i64 (s : Int))
  free : w.frozen? ⟨c, 0, none⟩ = false
variable {w0 w : World} {b off c s : Nat} {d : Array Int}
theorem Cnt.drewN (h : Cnt w0 w b off d c s) (n : Nat) : Cnt w0 (w.drewN n) b off d c s := ⟨h.srt.drewN n, h.new, h.cell, h.free⟩
theorem Cnt.bump (h : Cnt w0 w b off d c s) (t : Nat) : Cnt w0 (w.setCell ⟨c, 0, none⟩ (.int .i64 (t : Int))) b off d c t :=
  ⟨h.srt.store c 0 _ h.new, h.new, World.cell?_setCell_same _ _ _ h.cell, by rw [World.frozen?_setCell]; exact h.free⟩
set_option maxHeartbeats 8000000 in
set_option maxRecDepth 100000 in
theorem order_any (cap x y : Nat) (h : Cnt w0 w b off d c s) (hx : x < d.size) (hy : y < d.size) (hs : s ≤ 1000) :
    Calls Try.prog 101 #[.slice (some ⟨b, off, none⟩) d.size cap, .int .i64 x, .int .i64 y, .pointer (some ⟨c, 0, none⟩)] w fun e w' =>
      ∃ p q t : Nat, e = .returned (.tuple #[.int .i64 p, .int .i64 q]) ∧ ((p = x ∧ q = y) ∨ (p = y ∧ q = x)) ∧ t ≤ s + 1 ∧ Cnt w0 w' b off d c t := by
  obtain ⟨G, hG, hcw, hfw⟩ := h.srt.fam
  have hcc := h.cell
  have hcf := h.free
  have HS := Lib.hid h
  clear h hG
  go_enter Try.func101, Try.ntmps101
  cases hl : ltInt (G y) (G x) with
  | true =>
    go_wp2
    go_quiet (first | (go_at_call 73; refine Calls.quiet_of_same (less_any _ _ _)))
    rw [hl]
    go_wp2
    go_ret2
    have hb := (HS.out.drewN nq).bump (s + 1)
    exact ⟨y, x, s + 1, rfl, .inr ⟨rfl, rfl⟩, Nat.le_refl _, by simpa using hb⟩
  | false =>
    go_wp2
    go_quiet (first | (go_at_call 73; refine Calls.quiet_of_same (less_any _ _ _)))
    rw [hl]
    go_wp2
    go_ret2
    exact ⟨x, y, s, rfl, .inl ⟨rfl, rfl⟩, Nat.le_succ _, HS.out.drewN nq⟩
set_option maxHeartbeats 8000000 in
set_option maxRecDepth 100000 in
theorem median_any (cap x y z : Nat) (h : Cnt w0 w b off d c s) (hx : x < d.size) (hy : y < d.size) (hz : z < d.size) (hs : s ≤ 900) :
    Calls Try.prog 95 #[.slice (some ⟨b, off, none⟩) d.size cap, .int .i64 x, .int .i64 y, .int .i64 z, .pointer (some ⟨c, 0, none⟩)] w fun e w' =>
      ∃ p t : Nat, e = .returned (.int .i64 p) ∧ (p = x ∨ p = y ∨ p = z) ∧ t ≤ s + 3 ∧ Cnt w0 w' b off d c t := by
  have H1 := Lib.hid (order_any cap x y h hx hy (by omega))
  clear h
  go_enter Try.func95, Try.ntmps95
  go_wp2_with fail
  refine H1.out.mono ?_
  rintro e w1 ⟨x1, y1, s1, rfl, hxy, hs1, hc1⟩
  have H2 := Lib.hid (order_any cap y1 z hc1 (by omega) hz (by omega))
  clear H1 hc1
  go_wp2_with fail
  refine H2.out.mono ?_
  rintro e w2 ⟨y2, z2, s2, rfl, hyz, hs2, hc2⟩
  have H3 := Lib.hid (order_any cap x1 y2 hc2 (by omega) (by omega) (by omega))
  clear H2 hc2
  go_wp2_with fail
  refine H3.out.mono ?_
  rintro e w3 ⟨x3, y3, s3, rfl, hxy3, hs3, hc3⟩
  have H4 := Lib.hid hc3
  clear H3 hc3
  go_wp2
  go_ret
  exact ⟨y3, s3, rfl, by omega, by omega, H4.out⟩
set_option maxHeartbeats 8000000 in
set_option maxRecDepth 100000 in
theorem near_any (cap x : Nat) (h : Cnt w0 w b off d c s) (h0 : 0 < x) (hx : x + 1 < d.size) (hsz : d.size < 2305843009213693952) (hs : s ≤ 900) :
    Calls Try.prog 94 #[.slice (some ⟨b, off, none⟩) d.size cap, .int .i64 x, .pointer (some ⟨c, 0, none⟩)] w fun e w' =>
      ∃ p t : Nat, e = .returned (.int .i64 p) ∧ (p + 1 = x ∨ p = x ∨ p = x + 1) ∧ t ≤ s + 3 ∧ Cnt w0 w' b off d c t := by
  have hc := median_any cap (x - 1) x (x + 1) h (by omega) (by omega) hx hs
  have e1 : ((x - 1 : Nat) : Int) = (x : Int) - 1 := by omega
  have e2 : ((x + 1 : Nat) : Int) = (x : Int) + 1 := by omega
  rw [e1, e2] at hc
  have H1 := Lib.hid hc
  clear h hc
  go_enter Try.func94, Try.ntmps94
  go_wp2_with fail
  refine H1.out.mono ?_
  rintro e w1 ⟨p, s1, rfl, hp, hs1, hc1⟩
  have H4 := Lib.hid hc1
  clear hc1
  go_wp2
  go_ret
  exact ⟨p, s1, rfl, by omega, by omega, H4.out⟩
/-- What choosePivot answers. -/
def Picks (w0 : World) (b off : Nat) (d : Array Int) (x y : Nat) (e : Ending) (w' : World) : Prop :=
  ∃ p k : Nat, e = .returned (.tuple #[.int .i64 p, .int .i64 k]) ∧ x ≤ p ∧ p < y ∧ (k = 0 ∨ k = 1 ∨ k = 2) ∧ Srt w0 w' b off d
theorem Cnt.start (h : Srt w0 w b off d) : Cnt w0 (w.alloc (.cells #[.int .i64 0] 3)) b off d w.heap.size 0 :=
  ⟨h.alloc _, h.tread.size, by simp, by simp⟩
set_option maxHeartbeats 8000000 in
set_option maxRecDepth 100000 in
theorem pick_any (cap x y : Nat) (h : Srt w0 w b off d) (hxy : x < y) (hy : y ≤ d.size) (hsz : d.size < 2305843009213693952) :
    Calls Try.prog 70 #[.slice (some ⟨b, off, none⟩) d.size cap, .int .i64 x, .int .i64 y] w fun e w' => Picks w0 b off d x y e w' := by
  have HS := Lib.hid h
  have h0 := Cnt.start h
  obtain ⟨l, rfl⟩ : ∃ l, y = x + l := ⟨y - x, by omega⟩
  rw [Int.natCast_add]
  clear h
  by_cases h8 : l < 8
  · have HC := Lib.hid h0
    have hcc := h0.cell
    clear h0
    go_enter Try.func70, Try.ntmps70
    go_wp2
    go_ret2
    exact ⟨x + l / 4 * 2, 1, by go_num, by omega, by omega, by omega, HC.out.srt⟩
  · -- what stands behind: the count is read, the answer told
    have TAIL : ∀ (w2 : World) (j s : Nat), Cnt w0 w2 b off d w.heap.size s → x ≤ j → j < x + l → Picks w0 b off d x (x + l) (.returned (.tuple #[.int .i64 j, .int .i64 ((if s = 0 then 1 else if s = 12 then 2 else 0 : Nat) : Int)])) w2 := by
      intro w2 j s hc h1 h2
      refine ⟨j, _, rfl, h1, h2, ?_, hc.srt⟩
      split
      · exact .inr (.inl rfl)
      · split
        · exact .inr (.inr rfl)
        · exact .inl rfl
    have HT := Lib.hid TAIL
    clear TAIL
    by_cases h50 : l < 50
    · have hc := median_any cap (x + l / 4) (x + l / 4 * 2) (x + l / 4 * 3) h0 (by omega) (by omega) (by omega) (by omega)
      clear h0
      have e1 : ((x + l / 4 : Nat) : Int) = (x : Int) + ((x : Int) + (l : Int) - (x : Int)) / 4 := by omega
      have e2 : ((x + l / 4 * 2 : Nat) : Int) = (x : Int) + ((x : Int) + (l : Int) - (x : Int)) / 4 * 2 := by omega
      have e3 : ((x + l / 4 * 3 : Nat) : Int) = (x : Int) + ((x : Int) + (l : Int) - (x : Int)) / 4 * 3 := by omega
      rw [e1, e2, e3] at hc
      have H1 := Lib.hid hc
      clear hc e1 e2 e3
      go_enter Try.func70, Try.ntmps70
      go_wp2_with fail
      refine H1.out.mono ?_
      rintro e w1 ⟨p, s, rfl, hp, hs1, hc1⟩
      have hcc := hc1.cell
      have HC := Lib.hid hc1
      clear H1 hc1
      by_cases hs0 : s = 0
      · subst hs0
        go_wp2
        go_ret2
        exact HT.out _ _ _ HC.out (by omega) (by omega)
      · by_cases hs12 : s = 12
        · subst hs12
          go_wp2
          go_ret2
          exact HT.out _ _ _ HC.out (by omega) (by omega)
        · go_wp2
          go_ret2
          have := HT.out _ p _ HC.out (by omega) (by omega)
          rw [if_neg hs0, if_neg hs12] at this
          exact this
    · have hc := near_any cap (x + l / 4) h0 (by omega) (by omega) hsz (by omega)
      clear h0
      have e1 : ((x + l / 4 : Nat) : Int) = (x : Int) + ((x : Int) + (l : Int) - (x : Int)) / 4 := by omega
      rw [e1] at hc
      have H1 := Lib.hid hc
      clear hc e1
      go_enter Try.func70, Try.ntmps70
      go_wp2_with fail
      refine H1.out.mono ?_
      rintro e w1 ⟨p1, s1, rfl, hp1, hs1, hc1⟩
      have hc := near_any cap (x + l / 4 * 2) hc1 (by omega) (by omega) hsz (by omega)
      have e2 : ((x + l / 4 * 2 : Nat) : Int) = (x : Int) + ((x : Int) + (l : Int) - (x : Int)) / 4 * 2 := by omega
      rw [e2] at hc
      have H2 := Lib.hid hc
      clear H1 hc1 hc e2
      go_wp2_with fail
      refine H2.out.mono ?_
      rintro e w2 ⟨p2, s2, rfl, hp2, hs2, hc2⟩
      have hc := near_any cap (x + l / 4 * 3) hc2 (by omega) (by omega) hsz (by omega)
      have e3 : ((x + l / 4 * 3 : Nat) : Int) = (x : Int) + ((x : Int) + (l : Int) - (x : Int)) / 4 * 3 := by omega
      rw [e3] at hc
      have H3 := Lib.hid hc
      clear H2 hc2 hc e3
      go_wp2_with fail
      refine H3.out.mono ?_
      rintro e w3 ⟨p3, s3, rfl, hp3, hs3, hc3⟩
      have H4 := Lib.hid (median_any cap p1 p2 p3 hc3 (by omega) (by omega) (by omega) (by omega))
      clear H3 hc3
      go_wp2_with fail
      refine H4.out.mono ?_
      rintro e w4 ⟨p, s, rfl, hp, hs4, hc4⟩
      have hcc := hc4.cell
      have HC := Lib.hid hc4
      clear H4 hc4
      by_cases hs0 : s = 0
      · subst hs0
        go_wp2
        go_ret2
        exact HT.out _ _ _ HC.out (by omega) (by omega)
      · by_cases hs12 : s = 12
        · subst hs12
          go_wp2
          go_ret2
          exact HT.out _ _ _ HC.out (by omega) (by omega)
        · go_wp2
          go_ret2
          have := HT.out _ p _ HC.out (by omega) (by omega)
          rw [if_neg hs0, if_neg hs12] at this
          exact this
end Go.Proofs.Ytaoneiicoaiehaa.Sm11
