/- CodeGets: any bytes are read as the document reads them. -/
import Derived.Test.YthoiolihkomgmaaDoorGr5
import Derived.Test.YthoiolihkomgmaaDoorLq5
namespace Go.Proofs.YthoiolihkomgmaaDoor.Wq5
open Go Go.RowKit Go.Proofs Go.Proofs.YthoiolihkomgmaaDoor.Wm Go.Proofs.YthoiolihkomgmaaDoor.Vm Go.Proofs.YthoiolihkomgmaaDoor.Vr Go.Proofs.YthoiolihkomgmaaDoor.Vs Go.Proofs.YthoiolihkomgmaaDoor.Vc Go.Proofs.YthoiolihkomgmaaDoor.Vf Go.Proofs.YthoiolihkomgmaaDoor.Vh Go.Proofs.YthoiolihkomgmaaDoor.Vk Go.Proofs.YthoiolihkomgmaaDoor.Vz Go.Proofs.YthoiolihkomgmaaDoor.Cm Go.Proofs.YthoiolihkomgmaaDoor.Cb5 Go.Proofs.YthoiolihkomgmaaDoor.Pv5 Go.Proofs.YthoiolihkomgmaaDoor.Rv5 Go.Proofs.YthoiolihkomgmaaDoor.Rr5 Go.Proofs.YthoiolihkomgmaaDoor.Rs5 Go.Proofs.YthoiolihkomgmaaDoor.Rx5 Go.Proofs.YthoiolihkomgmaaDoor.Pw5 Go.Proofs.YthoiolihkomgmaaDoor.Lq5 Go.Proofs.YthoiolihkomgmaaDoor.Al5 Go.Proofs.YthoiolihkomgmaaDoor.Ge5 Go.Proofs.YthoiolihkomgmaaDoor.Gr5
theorem get_any (s : List UInt8) (w : World) (hs : s.length ≤ 80000) (hT : Tabs w) :
    Calls Tryd.prog 17 #[.string (bs s)] w (ValGot w s (Cm.value s)) := by
  have hA : Below w.heap.size w (w.alloc (.cells #[.int .u8 0, .int .i64 0, .int .u64 0, .string ⟨#[]⟩] 24)) := (Below.refl _ _).alloc (Nat.le_refl _) _
  have HR := Lib.hid (read_value s (w.alloc (.cells #[.int .u8 0, .int .i64 0, .int .u64 0, .string ⟨#[]⟩] 24)) hs (hT.keep hA) (tabs_lt (hT.keep hA)))
  have X0 := Lib.hid (Box.new w 0 0 0 ⟨#[]⟩)
  have HA := Lib.hid hA
  clear hT hA
  cases hq : Cm.value s with
  | bad c =>
    rw [hq] at HR
    clear hq
    go_enter Tryd.func17, Tryd.ntmps17
    go_wp2_with fail
    with_reducible refine HR.out.mono ?_
    rintro e w1 ⟨rfl, hb⟩
    have HB := Lib.hid hb
    obtain ⟨d0, d1, d2, d3⟩ := (X0.out.below hb).cells
    have dz := (X0.out.below hb).soft
    obtain ⟨hs0, hs1, hs2, hs3⟩ := reads4 (X0.out.below hb).four
    clear hb
    unfold vv zv
    go_wp2
    refine bodyPost_ret (v := .tuple #[.agg #[.int .u8 0, .int .i64 0, .int .u64 0, .string ⟨#[]⟩], .int .i64 0, .int .i64 c]) (by simp [results, Tryd.results17, go_sem, hs0, hs1, hs2, hs3]) rfl ⟨rfl, ?_⟩
    exact ((((HA.out.trans (HB.out.mono HA.out.size)).setCell (Nat.le_refl _) _).setCell (Nat.le_refl _) _).setCell (Nat.le_refl _) _).setCell (Nat.le_refl _) _
  | ok v r =>
    rw [hq] at HR
    clear hq
    obtain ⟨k, n, b, t⟩ := v
    obtain ⟨q, hq⟩ : ∃ q : Int, q = (s.length : Int) - (r.length : Int) := ⟨_, rfl⟩
    have HQ := Lib.hid hq
    have HR2 : Hid (Calls Tryd.prog 28 #[.string (bs s), .func (.func 29) #[] #[]] (w.alloc (.cells #[.int .u8 0, .int .i64 0, .int .u64 0, .string ⟨#[]⟩] 24)) fun e w' => e = .returned (.tuple #[.agg #[.int .u8 k, .int .i64 n, .int .u64 (b : Int), .string t], .int .i64 q, .int .i64 0]) ∧ Below (w.alloc (.cells #[.int .u8 0, .int .i64 0, .int .u64 0, .string ⟨#[]⟩] 24)).heap.size (w.alloc (.cells #[.int .u8 0, .int .i64 0, .int .u64 0, .string ⟨#[]⟩] 24)) w') := by rw [hq]; exact HR
    clear HR hq
    go_enter Tryd.func17, Tryd.ntmps17
    go_wp2_with fail
    with_reducible refine HR2.out.mono ?_
    rintro e w1 ⟨rfl, hb⟩
    have HB := Lib.hid hb
    obtain ⟨d0, d1, d2, d3⟩ := (X0.out.below hb).cells
    have dz := (X0.out.below hb).soft
    obtain ⟨hs0, hs1, hs2, hs3⟩ := reads4 (X0.out.below hb).four
    clear hb
    go_wp2
    refine bodyPost_ret (v := .tuple #[.agg #[.int .u8 k, .int .i64 n, .int .u64 (b : Int), .string t], .int .i64 q, .int .i64 0]) (by simp [results, Tryd.results17, go_sem, hs0, hs1, hs2, hs3]) rfl ⟨by rw [HQ.out]; rfl, ?_⟩
    exact ((((HA.out.trans (HB.out.mono HA.out.size)).setCell (Nat.le_refl _) _).setCell (Nat.le_refl _) _).setCell (Nat.le_refl _) _).setCell (Nat.le_refl _) _
/-- What is told of a value, of a row: in one form for what is got and for why nothing is. -/
def trip (s : List UInt8) : V × Int × Int := match Cm.value s with
  | .ok v r => (v, (s.length : Int) - (r.length : Int), 0)
  | .bad c => (zv, 0, c)
def tripR (s : List UInt8) : List V × Int × Int := match Cm.row s with
  | .ok l r => (l, (s.length : Int) - (r.length : Int), 0)
  | .bad c => ([], 0, c)
theorem one {s : List UInt8} {w : World} {e : Ending} {w' : World} (h : ValGot w s (Cm.value s) e w') : e = .returned (.tuple #[vv (trip s).1, .int .i64 (trip s).2.1, .int .i64 (trip s).2.2]) ∧ Below w.heap.size w w' := by
  unfold trip
  cases hq : Cm.value s with
  | ok v r => rw [hq] at h; exact h
  | bad c => rw [hq] at h; exact h
def RowTold (w : World) (l : List V) (q E : Int) (e : Ending) (w' : World) : Prop := ∃ A c, e = .returned (.tuple #[.slice A l.length c, .int .i64 q, .int .i64 E]) ∧ Reads w' A l ∧ Below w.heap.size w w'
theorem oneR {s : List UInt8} {w : World} {e : Ending} {w' : World} (h : RowGot w s (Cm.row s) e w') : RowTold w (tripR s).1 (tripR s).2.1 (tripR s).2.2 e w' := by
  unfold tripR
  cases hq : Cm.row s with
  | ok l r => rw [hq] at h; obtain ⟨b, c, h1, h2, h3⟩ := h; exact ⟨_, c, h1, h2, h3⟩
  | bad c => rw [hq] at h; exact ⟨none, 0, h.1, Reads.nil _ _, h.2⟩
theorem oneS {s : List UInt8} {w : World} {e : Ending} {w' : World} (h : RefRow w s (Cm.row s) e w') : RowTold w (tripR s).1 (tripR s).2.1 (tripR s).2.2 e w' := by
  unfold tripR
  cases hq : Cm.row s with
  | ok l r => rw [hq] at h; obtain ⟨A, c, h1, h2, h3⟩ := h; exact ⟨A, c, h1, h2, h3⟩
  | bad c => rw [hq] at h; exact ⟨none, 0, h.1, Reads.nil _ _, h.2⟩
theorem tripR_short (s : List UInt8) : (tripR s).1.length ≤ 8 := by
  unfold tripR
  cases hq : Cm.row s with
  | ok l r => exact (row_is (row_back hq).2.1).2.1
  | bad c => exact Nat.zero_le _
theorem w_big (S : ByteArray) (w : World) (hT : Tabs w) (hs : 16384 < S.size) : Calls Tryd.prog 4 #[.string S] w fun e w' => e = .returned (.bool true) ∧ Below w.heap.size w w' := by
  have hz : (16384 : Int) < (S.size : Int) := by omega
  have FA := q_alive (Lib.hid hT)
  clear hT
  go_enter Tryd.func4, Tryd.ntmps4
  go_wp2_with fail
  with_reducible refine (FA.out _ (Lib.hid (Below.refl _ _))).mono ?_
  rintro e w9 ⟨rfl, hb⟩
  have HB := Lib.hid hb
  clear hb
  go_wp2
  go_ret
  exact ⟨rfl, HB.out⟩
set_option maxRecDepth 40000 in
set_option maxHeartbeats 2000000 in
theorem w_small (S : ByteArray) (w : World) (hT : Tabs w) (hs : ¬ 16384 < S.size) : Calls Tryd.prog 4 #[.string S] w fun e w' => e = .returned (.bool true) ∧ Below w.heap.size w w' := by
  have hz : ¬ (16384 : Int) < (S.size : Int) := by omega
  have hlen : S.data.toList.length = S.size := Array.length_toList
  obtain ⟨v, q, E, htr⟩ : ∃ v q E, trip S.data.toList = (v, q, E) := ⟨_, _, _, rfl⟩
  obtain ⟨l, q2, E2, htR⟩ : ∃ l q E, tripR S.data.toList = (l, q, E) := ⟨_, _, _, rfl⟩
  have hl8 := tripR_short S.data.toList
  rw [htR] at hl8
  obtain ⟨k, n, r, s⟩ := v
  have F1 : Hid (∀ W, Tabs W → Calls Tryd.prog 17 #[.string S] W fun e w' => e = .returned (.tuple #[.agg #[.int .u8 k, .int .i64 n, .int .u64 (r : Int), .string s], .int .i64 q, .int .i64 E]) ∧ Below W.heap.size W w') := Lib.hid fun W hW => (get_any S.data.toList W (by omega) hW).mono fun e w' h => by
    have := one h; rw [htr] at this; exact this
  have F2 : Hid (∀ W, Tabs W → Calls Tryd.prog 18 #[.string S] W fun e w' => e = .returned (.tuple #[.agg #[.int .u8 k, .int .i64 n, .int .u64 (r : Int), .string s], .int .i64 q, .int .i64 E]) ∧ Below W.heap.size W w') := Lib.hid fun W hW => (refget_any S.data.toList W hW (by omega)).mono fun e w' h => by
    have := one h; rw [htr] at this; exact this
  have F3 : Hid (∀ W, Tabs W → Calls Tryd.prog 19 #[.string S] W (RowTold W l q2 E2)) := Lib.hid fun W hW => (getRow_any S.data.toList W (by omega) hW (tabs_lt hW)).mono fun e w' h => by
    have := oneR h; rw [htR] at this; exact this
  have F4 : Hid (∀ W, Tabs W → Calls Tryd.prog 20 #[.string S] W (RowTold W l q2 E2)) := Lib.hid fun W hW => (refgetRow_any S.data.toList W hW (by omega)).mono fun e w' h => by
    have := oneS h; rw [htR] at this; exact this
  have heq : ∀ W, (binOp .eql 24 (.agg #[.int .u8 k, .int .i64 n, .int .u64 (r : Int), .string s]) (.agg #[.int .u8 k, .int .i64 n, .int .u64 (r : Int), .string s])).run Tryd.prog W = .ok (.bool true) W := fun W => by
    have := Ve.run_eql ⟨k, n, r, s⟩ ⟨k, n, r, s⟩ W
    rw [eqv_self] at this
    exact this
  have T0 := Lib.hid hT
  have HL8 := Lib.hid hl8
  clear hT htr htR hl8 hlen
  go_enter Tryd.func4, Tryd.ntmps4
  go_wp2_with fail
  with_reducible refine (F1.out _ T0.out).mono ?_
  rintro e w1 ⟨rfl, hb⟩
  have B1 := Lib.hid (hb.alloc hb.size (.cells #[.int .u8 k, .int .i64 n, .int .u64 (r : Int), .string s] 24))
  have X1 := Lib.hid (Box.new w1 k n r s)
  have T1 := Lib.hid (T0.out.keep B1.out)
  clear hb
  go_wp2_with fail
  with_reducible refine (F2.out _ T1.out).mono ?_
  rintro e w2 ⟨rfl, hb⟩
  have X2 := Lib.hid ((X1.out.below hb).past (.cells #[.int .u8 k, .int .i64 n, .int .u64 (r : Int), .string s] 24))
  have Y2 := Lib.hid (Box.new w2 k n r s)
  have B2 := Lib.hid ((B1.out.trans (hb.mono B1.out.size)).alloc (by have := B1.out.size; have := hb.size; omega) (.cells #[.int .u8 k, .int .i64 n, .int .u64 (r : Int), .string s] 24))
  have T2 := Lib.hid (T0.out.keep B2.out)
  clear hb
  go_wp2_with fail
  with_reducible refine (F3.out _ T2.out).mono ?_
  rintro e w3 ⟨A3, c3, rfl, hr3, hb⟩
  have X3 := Lib.hid (X2.out.below hb)
  have Y3 := Lib.hid (Y2.out.below hb)
  have B3 := Lib.hid (B2.out.trans (hb.mono B2.out.size))
  have T3 := Lib.hid (T0.out.keep B3.out)
  have R3 := Lib.hid hr3
  clear hb hr3
  go_wp2_with fail
  with_reducible refine (F4.out _ T3.out).mono ?_
  rintro e w4 ⟨A4, c4, rfl, hr4, hb⟩
  have X4 := Lib.hid (X3.out.below hb)
  have Y4 := Lib.hid (Y3.out.below hb)
  have B4 := Lib.hid (B3.out.trans (hb.mono B3.out.size))
  have T4 := Lib.hid (T0.out.keep B4.out)
  have FS : Hid (Calls Tryd.prog 12 #[.slice A3 l.length c3, .slice A4 l.length c4] w4 fun e w' => e = .returned (.bool true) ∧ Below w4.heap.size w4 w') := Lib.hid (by
    have := refsame_any w4 A3 A4 c3 c4 l l (R3.out.keep hb) hr4 ⟨by have := HL8.out; omega, by have := HL8.out; omega⟩
    rw [Lq5.same_self] at this
    exact this)
  obtain ⟨d0, d1, d2, d3⟩ := X4.out.cells
  obtain ⟨e0, e1, e2, e3⟩ := Y4.out.cells
  clear hb hr4
  go_wp2_with fail
  with_reducible refine FS.out.mono ?_
  rintro e w5 ⟨rfl, hb⟩
  have B5 := Lib.hid (B4.out.trans (hb.mono B4.out.size))
  have FA := q_alive (Lib.hid (T0.out.keep B5.out))
  clear hb
  go_wp2_with fail
  with_reducible refine (FA.out _ (Lib.hid (Below.refl _ _))).mono ?_
  rintro e w9 ⟨rfl, hb⟩
  have HB := Lib.hid hb
  clear hb
  go_wp2
  go_ret
  exact ⟨rfl, B5.out.trans (HB.out.mono B5.out.size)⟩
theorem walk (S : ByteArray) (w : World) (hT : Tabs w) : Calls Tryd.prog 4 #[.string S] w fun e w' => e = .returned (.bool true) ∧ Below w.heap.size w w' := by
  by_cases hs : 16384 < S.size
  · exact w_big S w hT hs
  · exact w_small S w hT hs
end Go.Proofs.YthoiolihkomgmaaDoor.Wq5
