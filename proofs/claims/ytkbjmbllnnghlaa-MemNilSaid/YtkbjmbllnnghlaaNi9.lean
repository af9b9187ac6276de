/- What no mem answers; MemNil's walk. -/
import Derived.Test.YtkbjmbllnnghlaaLa9
namespace Go.Proofs.Ytkbjmbllnnghlaa.Ni9
open Go Go.RowKit Go.Proofs.Ytkbjmbllnnghlaa.Pm9 Go.Proofs.Ytkbjmbllnnghlaa.Wd9 Go.Proofs.Ytkbjmbllnnghlaa.Mt9 Go.Proofs.Ytkbjmbllnnghlaa.Mm9 Go.Proofs.Ytkbjmbllnnghlaa.Mg9 Go.Proofs.Ytkbjmbllnnghlaa.Sn9 Go.Proofs.Ytkbjmbllnnghlaa.Rd9 Go.Proofs.Ytkbjmbllnnghlaa.Rg9 Go.Proofs.Ytkbjmbllnnghlaa.La9
set_option maxRecDepth 20000 in
set_option maxHeartbeats 2000000 in
theorem nil_get (w : World) (k : ByteArray) : Calls Try.prog 15 #[.pointer none, .string k] w fun e w' => e = .returned (.tuple #[.agg #[.string ⟨#[]⟩, .string ⟨#[]⟩, .bool false], .bool false]) ∧ Below w.heap.size w w' := by
  go_enter Try.func15, Try.ntmps15
  go_wp2
  go_returns
  exact ⟨rfl, (Below.refl w.heap.size w).alloc (Nat.le_refl _) _⟩
theorem nil_clear (w : World) : Calls Try.prog 20 #[.pointer none] w fun e w' => e = .returned (.tuple #[]) ∧ w' = w := by
  go_enter Try.func20, Try.ntmps20
  go_wp2
  refine bodyPost_ret (results_none rfl _ _ _) rfl ?_
  exact ⟨rfl, rfl⟩
theorem nil_put (w : World) (k v : ByteArray) (g : Bool) : Calls Try.prog 9 #[.pointer none, .agg #[.string k, .string v, .bool g]] w fun e w' => e = .returned (.int .i64 1) ∧ Below w.heap.size w w' := by
  go_enter Try.func9, Try.ntmps9
  go_wp2
  go_ret
  exact ⟨rfl, (Below.refl w.heap.size w).alloc (Nat.le_refl _) _⟩
theorem nil_scan (w : World) (most : Int) : Calls Try.prog 18 #[.pointer none, .string ⟨#[]⟩, .string ⟨#[]⟩, .int .i64 most] w fun e w' => (∃ A c, e = .returned (.slice A 0 c)) ∧ Below w.heap.size w w' := by
  refine (scan_none none ⟨#[]⟩ ⟨#[]⟩ most (.inl rfl)).mono fun e w' x => ?_
  obtain ⟨A, c, h1, _, h3⟩ := x
  exact ⟨⟨A, c, h1⟩, h3⟩
theorem nil_len (w : World) : Calls Try.prog 12 #[.pointer none] w fun e w' => e = .returned (.int .i64 0) ∧ w' = w := by
  go_enter Try.func12, Try.ntmps12
  go_wp2
  go_ret
  exact ⟨rfl, rfl⟩
theorem nil_size (w : World) : Calls Try.prog 13 #[.pointer none] w fun e w' => e = .returned (.int .i64 0) ∧ w' = w := by
  go_enter Try.func13, Try.ntmps13
  go_wp2
  go_ret
  exact ⟨rfl, rfl⟩
theorem zero_eq (w : World) : (binOp .eql 33 (.agg #[.string ⟨#[]⟩, .string ⟨#[]⟩, .bool false]) (.agg #[.string ⟨#[]⟩, .string ⟨#[]⟩, .bool false])).run Try.prog w = .ok (.bool true) w := by
  rw [run_eq, eqP_iff.2 rfl]
/-- Two steps one behind the other. -/
theorem bl {n : Nat} {a b c : World} (h : Below n a b) (k : Below b.heap.size b c) (hn : n ≤ b.heap.size) : Below n a c := h.trans (k.mono hn)
set_option maxRecDepth 20000 in
set_option maxHeartbeats 4000000 in
theorem walk_of (k v : ByteArray) (g : Bool) (hk : k.size ≤ 140737488351232) (hv : v.size ≤ 140737488351232) (most : Int) (w : World) :
    Calls Try.prog 5 #[.agg #[.string k, .string v, .bool g], .int .i64 most] w fun e w' => e = .returned (.bool true) ∧ Below w.heap.size w w' := by
  obtain ⟨W, hW⟩ : ∃ W, W = w.alloc (.cells #[.string k, .string v, .bool g] 33) := ⟨_, rfl⟩
  have hx : W.heap[w.heap.size]? = some (pairO ⟨k, v, g⟩) := by rw [hW]; exact heap_new _ _
  have hsz : W.heap.size = w.heap.size + 1 := by rw [hW, size_alloc]
  have hb0 : Below w.heap.size w W := by rw [hW]; exact (Below.refl w.heap.size w).alloc (Nat.le_refl _) _
  have hn := heap_new W (pairO ⟨k, v, g⟩)
  have hr : Reads (W.alloc (pairO ⟨k, v, g⟩)) (some ⟨W.heap.size, 0, none⟩) [⟨k, v, g⟩] := fun _ => by
    refine ⟨W.heap.size, 0, rfl, lt_of_at hn, fun i hi => ?_⟩
    match i, hi with
    | 0, _ => exact ⟨cell_of hn 0, cell_of hn 1, cell_of hn 2⟩
  have hL := large_any _ (some ⟨W.heap.size, 0, none⟩) 1 [⟨k, v, g⟩] hr (by show 1 ≤ _; decide) (fun x hx => by rw [List.mem_singleton.1 hx]; exact ⟨hk, hv⟩)
  have hb1 : Below w.heap.size w (W.alloc (pairO ⟨k, v, g⟩)) := hb0.alloc (by omega) _
  rw [hsz] at hL
  have hL2 : Calls Try.prog 6 #[.slice (some ⟨w.heap.size + 1, 0, none⟩) 1 1] (W.alloc (.cells #[.string k, .string v, .bool g] 33)) (LargeTo (W.alloc (pairO ⟨k, v, g⟩)) 1 (size [⟨k, v, g⟩])) := hL
  have HL := Lib.hid hL2
  clear hL2
  have HB1 := Lib.hid hb1
  have b0 := cell_of hx 0
  have b1 := cell_of hx 1
  have b2 := cell_of hx 2
  dsimp only at b0 b1 b2
  have HX := Lib.hid hx
  rw [hW] at b0 b1 b2
  have HW := Lib.hid hW
  have HSZ := Lib.hid hsz
  clear hx hb0 hn hr hL hb1 hW hsz
  go_enter Try.func5, Try.ntmps5
  go_wp2_with fail
  rw [← HW.out]
  with_reducible refine HL.out.mono ?_
  rintro e w1 ⟨r, rfl, _, hb2⟩
  have HB2 := Lib.hid (HB1.out.trans (hb2.mono HB1.out.size))
  have x1 := (hb2.block w.heap.size (by have := HSZ.out; rw [size_alloc]; omega)).trans ((heap_alloc W (pairO ⟨k, v, g⟩) w.heap.size (by have := HSZ.out; omega)).trans HX.out)
  have HX1 := Lib.hid x1
  clear hb2 x1
  cases r
  · obtain ⟨n0, hn0⟩ : ∃ n0, n0 = w.heap.size := ⟨_, rfl⟩
    rw [← hn0] at HB2 HX1 ⊢
    have HB := HB2.out
    have HX2 := HX1.out
    clear HL HB1 HX HW HSZ HB2 HX1
    have c0 := cell_of HX2 0
    have c1 := cell_of HX2 1
    have c2 := cell_of HX2 2
    dsimp only at c0 c1 c2
    have KB := Lib.hid HB
    have KX := Lib.hid HX2
    have KN := Lib.hid hn0
    clear HB HX2 hn0
    have hze := zero_eq
    go_wp2_with fail
    refine (nil_get _ _).mono ?_
    rintro e w2 ⟨rfl, hb2⟩
    obtain ⟨W3, hW3⟩ : ∃ W3, W3 = w2.alloc (.cells #[.string ⟨#[]⟩, .string ⟨#[]⟩, .bool false] 33) := ⟨_, rfl⟩
    have hb3 : Below w1.heap.size w1 W3 := by rw [hW3]; exact hb2.alloc hb2.size _
    have hn1 : n0 < w1.heap.size := lt_of_at KX.out
    have x3 : W3.heap[n0]? = some (pairO ⟨k, v, g⟩) := (hb3.block n0 hn1).trans KX.out
    have q3 : W3.heap[w2.heap.size]? = some (pairO ⟨⟨#[]⟩, ⟨#[]⟩, false⟩) := by rw [hW3]; exact heap_new _ _
    have KB3 := Lib.hid (KB.out.trans (hb3.mono (by rw [KN.out]; exact KB.out.size)))
    have d0 := cell_of x3 0
    have d1 := cell_of x3 1
    have d2 := cell_of x3 2
    dsimp only at d0 d1 d2
    have X3 := Lib.hid x3
    have Q3 := Lib.hid q3
    rw [hW3] at d0 d1 d2
    have HW3 := Lib.hid hW3
    clear hb2 hb3 x3 q3 hW3 c0 c1 c2
    go_wp2_with fail
    refine (nil_clear _).mono ?_
    rintro e w4 ⟨rfl, rfl⟩
    go_wp2_with fail
    refine (nil_put _ _ _ _).mono ?_
    rintro e w4 ⟨rfl, hb4⟩
    rw [← HW3.out] at hb4
    have q4 := (hb4.block _ (lt_of_at Q3.out)).trans Q3.out
    have e0 := cell_of q4 0
    have e1 := cell_of q4 1
    have e2 := cell_of q4 2
    dsimp only at e0 e1 e2
    have KB4 := Lib.hid (KB3.out.trans (hb4.mono (by rw [KN.out]; exact KB3.out.size)))
    clear hb4 q4
    go_wp2_with fail
    refine (nil_scan _ _).mono ?_
    rintro e w5 ⟨⟨A5, c5, rfl⟩, hb5⟩
    have KB5 := Lib.hid (KB4.out.trans (hb5.mono (by rw [KN.out]; exact KB4.out.size)))
    clear hb5
    go_wp2_with fail
    refine (nil_len _).mono ?_
    rintro e w6 ⟨rfl, rfl⟩
    go_wp2_with fail
    refine (nil_size _).mono ?_
    rintro e w6 ⟨rfl, rfl⟩
    go_wp2_with fail
    refine (alive_any _).mono ?_
    rintro e w7 ⟨rfl, hb7⟩
    have hb := KB5.out.trans (hb7.mono (by rw [KN.out]; exact KB5.out.size))
    clear hb7
    go_wp2
    go_ret
    exact ⟨rfl, by rw [← KN.out]; exact hb⟩
  · go_wp2_with fail
    refine (alive_any _).mono ?_
    rintro e w2 ⟨rfl, hb3⟩
    go_wp2
    go_ret
    exact ⟨rfl, HB2.out.trans (hb3.mono HB2.out.size)⟩
theorem walk (W : World) (x : Pr) (most : Int) (hx : x.k.size ≤ 140737488351232 ∧ x.v.size ≤ 140737488351232) (_ : -9223372036854775808 ≤ most ∧ most ≤ 9223372036854775807) :
    Calls Try.prog 5 #[.agg #[.string x.k, .string x.v, .bool x.g], .int .i64 most] W fun e w' => e = .returned (.bool true) ∧ Below W.heap.size W w' :=
  walk_of x.k x.v x.g hx.1 hx.2 most W
end Go.Proofs.Ytkbjmbllnnghlaa.Ni9
