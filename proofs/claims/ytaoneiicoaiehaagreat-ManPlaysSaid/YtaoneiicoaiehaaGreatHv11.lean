/- A row of the law's steps that came in, and the law's heavy over it. -/
import Derived.Test.YtaoneiicoaiehaaGreatMa11
namespace Go.Proofs.YtaoneiicoaiehaaGreat.Hv11
open Go Go.RowKit Go.Proofs.YtaoneiicoaiehaaGreat.Dh Go.Proofs.YtaoneiicoaiehaaGreat.Nu11 Go.Proofs.YtaoneiicoaiehaaGreat.Ma11
/-- A step: what is done, a man, two numbers. -/
structure Sx where
  o : Int
  m : Man
  A : Option Addr
  c : Nat
  n : Int
  k : Int
structure Sx.ok (w : World) (s : Sx) : Prop where
  man : ManAt w s.m s.A s.c
  len : s.m.runs.length ≤ 9223372036854775807
  n : -9223372036854775808 ≤ s.n ∧ s.n ≤ 9223372036854775807
  k : -9223372036854775808 ≤ s.k ∧ s.k ≤ 9223372036854775807
structure Cell (w : World) (b o : Nat) (s : Sx) : Prop where
  c0 : w.cell? ⟨b, o, none⟩ = some (.int .i64 s.o)
  c1 : w.cell? ⟨b, o + 1, none⟩ = some (.int .u64 (s.m.wal : Int))
  c2 : w.cell? ⟨b, o + 2, none⟩ = some (.slice s.A s.m.runs.length s.c)
  c3 : w.cell? ⟨b, o + 3, none⟩ = some (.int .u64 (s.m.next : Int))
  c4 : w.cell? ⟨b, o + 4, none⟩ = some (.int .i64 s.n)
  c5 : w.cell? ⟨b, o + 5, none⟩ = some (.int .i64 s.k)
/-- A row of steps that came in. -/
structure CameIn (w : World) (ao : Option Addr) (l : List Sx) : Prop where
  cells : l ≠ [] → ∃ b o, ao = some ⟨b, o, none⟩ ∧ b < w.heap.size ∧ ∀ k (h : k < l.length), Cell w b (o + k * 6) l[k]
  ok : ∀ s ∈ l, s.ok w
  len : l.length ≤ 140737488351232
theorem Cell.keep {w w' : World} {b o : Nat} {s : Sx} (h : Cell w b o s) (hb : b < w.heap.size) (hw : Below w.heap.size w w') : Cell w' b o s :=
  ⟨(hw.cell (p := ⟨b, o, none⟩) hb).trans h.c0, (hw.cell (p := ⟨b, o + 1, none⟩) hb).trans h.c1, (hw.cell (p := ⟨b, o + 2, none⟩) hb).trans h.c2, (hw.cell (p := ⟨b, o + 3, none⟩) hb).trans h.c3, (hw.cell (p := ⟨b, o + 4, none⟩) hb).trans h.c4, (hw.cell (p := ⟨b, o + 5, none⟩) hb).trans h.c5⟩
/-- What heavy comes to. -/
def HeavyEnd (l : List Sx) (e : Ending) : Prop := ∃ r, e = .returned (.bool r) ∧ (r = false → l.length ≤ 60 ∧ ∀ s ∈ l, s.m.runs.length ≤ 20)
set_option maxRecDepth 100000 in
set_option maxHeartbeats 4000000 in
theorem heavy_any {w : World} {ao : Option Addr} {l : List Sx} (h : CameIn w ao l) (cap : Nat) :
    Calls Tryz.prog 4 #[.slice ao l.length cap] w fun e w' => HeavyEnd l e ∧ w' = w := by
  have hl := h.len
  have HC := Lib.hid h
  clear h
  go_enter Tryz.func4, Tryz.ntmps4
  go_wp2
  go_loop [3, 4, 5, 6, 7, 8, 9, 10, 11, 12, 13, 14, 15, 16, 17, 18, 19, 20, 21] (fun i _ _ _ _ _ _ _ _ _ _ _ _ _ _ _ _ _ _ => ∃ k : Nat, k ≤ l.length ∧ k ≤ 100 ∧ i = .int .i64 k ∧ Hid (∀ j (hj : j < l.length), j < k → l[j].m.runs.length ≤ 20)) (fun i _ _ _ _ _ _ _ _ _ _ _ _ _ _ _ _ _ _ => 100 - (intOf i).toNat)
  case atStart => exact ⟨0, by omega, by omega, rfl, Lib.hid fun j _ h => by omega⟩
  case round =>
    obtain ⟨k, hk, hk2, rfl, hs⟩ := hrel
    by_cases h1 : k < l.length
    · by_cases h2 : k < 100
      · obtain ⟨b, o, rfl, hb, hcs⟩ := HC.out.cells (fun e => by rw [e] at h1; simp at h1)
        have hc := (hcs k h1).c2
        have hz1 : decide ((k : Int) < (l.length : Int)) = true := decide_eq_true (by omega)
        have hz2 : decide ((k : Int) < 100) = true := decide_eq_true (by omega)
        have hil : (k : Int) < (l.length : Int) := by omega
        have hi0 : (0 : Int) ≤ (k : Int) := by omega
        by_cases h3 : 20 < l[k].m.runs.length
        · generalize l[k] = s at hc h3
          clear hcs
          have hz3 : ((s.m.runs.length : Nat) : Int) > 20 := by omega
          go_wp2
          go_ret
          exact ⟨⟨true, rfl, fun h => by cases h⟩, rfl⟩
        · have hn : Hid (∀ j (hj : j < l.length), j < k + 1 → l[j].m.runs.length ≤ 20) := Lib.hid fun j hj hjk => by
            rcases Nat.lt_or_ge j k with h | h
            · exact hs.out j hj h
            · obtain rfl : j = k := by omega
              omega
          generalize l[k] = s at hc h3
          clear hcs
          have hz3 : ¬ ((s.m.runs.length : Nat) : Int) > 20 := by omega
          go_wp2
          go_round
          case rel => exact ⟨k + 1, by omega, by omega, by go_num, hn⟩
          case measure => simp [intOf]; omega
      · obtain rfl : k = 100 := by omega
        have hz : ((l.length : Nat) : Int) > 60 := by omega
        go_wp2
        go_ret
        exact ⟨⟨true, rfl, fun h => by cases h⟩, rfl⟩
    · obtain rfl : k = l.length := by omega
      have hz1 : decide ((l.length : Int) < (l.length : Int)) = false := decide_eq_false (by omega)
      by_cases h60 : 60 < l.length
      · have hz : ((l.length : Nat) : Int) > 60 := by omega
        go_wp2
        go_ret
        exact ⟨⟨true, rfl, fun h => by cases h⟩, rfl⟩
      · have hz : ¬ ((l.length : Nat) : Int) > 60 := by omega
        go_wp2
        go_ret
        exact ⟨⟨false, rfl, fun _ => ⟨by omega, fun s hm => by obtain ⟨j, hj, rfl⟩ := List.getElem_of_mem hm; exact hs.out j hj hj⟩⟩, rfl⟩
end Go.Proofs.YtaoneiicoaiehaaGreat.Hv11
