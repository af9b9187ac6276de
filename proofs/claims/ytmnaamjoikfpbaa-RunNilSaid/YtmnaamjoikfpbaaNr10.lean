/- The law's heavy, of one step; RunNil's walk. -/
import Derived.Test.YtmnaamjoikfpbaaWr10
import Derived.Test.YtmnaamjoikfpbaaAv10
import Derived.Test.YtmnaamjoikfpbaaOs10
import Derived.Test.YtmnaamjoikfpbaaOp9
namespace Go.Proofs.Ytmnaamjoikfpbaa.Nr10
open Go Go.RowKit Go.Proofs.Ytmnaamjoikfpbaa.Dh Go.Proofs.Ytmnaamjoikfpbaa.Nm Go.Proofs.Ytmnaamjoikfpbaa.St Go.Proofs.Ytmnaamjoikfpbaa.Pm9 Go.Proofs.Ytmnaamjoikfpbaa.Mt9 Go.Proofs.Ytmnaamjoikfpbaa.Mg9 Go.Proofs.Ytmnaamjoikfpbaa.Rd9 Go.Proofs.Ytmnaamjoikfpbaa.On10 Go.Proofs.Ytmnaamjoikfpbaa.Ge10 Go.Proofs.Ytmnaamjoikfpbaa.Sn10 Go.Proofs.Ytmnaamjoikfpbaa.Wr10 Go.Proofs.Ytmnaamjoikfpbaa.Av10 Go.Proofs.Ytmnaamjoikfpbaa.Op9
abbrev stepO (o : Int) (f : ByteArray) (A : Option Addr) (N c : Nat) (k a b : ByteArray) (n m : Int) : Obj := .cells #[.int .i64 o, .string f, .slice A N c, .string k, .string a, .string b, .int .i64 n, .int .i64 m] 53 (0, 0)
set_option maxRecDepth 20000 in
set_option maxHeartbeats 4000000 in
theorem heavy_any (w : World) (B : Nat) (o n m : Int) (f k a b : ByteArray) (A : Option Addr) (c : Nat) (L : List Pr) (hL : PairsAt w A L) (hx : w.heap[B]? = some (stepO o f A L.length c k a b n m)) (hf : f.size ≤ 140737488351232) (hk : k.size ≤ 140737488351232) (ha : a.size ≤ 140737488351232) (hb : b.size ≤ 140737488351232) :
    Calls Try.prog 22 #[.slice (some ⟨B, 0, none⟩) 1 1] w fun e w' => (∃ r, e = .returned (.bool r)) ∧ Below w.heap.size w w' := by
  obtain ⟨N, hN⟩ : ∃ N, N = L.length := ⟨_, rfl⟩
  have hl := hL.len
  rw [← hN] at hx hl
  have HP := Lib.hid hL
  have HX := Lib.hid hx
  have HN := Lib.hid hN
  clear hL hx hN
  go_enter Try.func22, Try.ntmps22
  go_wp2
  go_loopw [3, 4, 5, 6, 7, 8, 9, 10, 11, 12, 13, 14, 15, 16, 17, 18, 19, 20, 21, 22, 23, 24, 25, 26, 27, 28, 29, 30, 31, 32, 33, 34, 35, 36, 37, 38, 39, 40, 41, 42, 43, 44, 45, 46, 47, 48, 49, 50, 51, 52, 53, 54, 55, 56, 57] (fun z i _ _ _ _ _ _ _ _ _ _ _ _ _ _ _ _ _ _ _ _ _ _ _ _ _ _ _ _ _ _ _ _ _ _ _ _ _ _ _ _ _ _ _ _ _ _ _ _ _ _ _ _ _ wr => ∃ j Z : Nat, j ≤ 1 ∧ Z ≤ 3940649673834496 ∧ i = .int .i64 j ∧ z = .int .i64 Z ∧ Hid (j = 0 → Z = 0) ∧ Hid (Below w.heap.size w wr)) (fun _ i _ _ _ _ _ _ _ _ _ _ _ _ _ _ _ _ _ _ _ _ _ _ _ _ _ _ _ _ _ _ _ _ _ _ _ _ _ _ _ _ _ _ _ _ _ _ _ _ _ _ _ _ _ _ => 1 - (intOf i).toNat)
  case atStart => exact ⟨0, 0, by omega, by omega, rfl, rfl, Lib.hid fun _ => rfl, Lib.hid (Below.refl _ _)⟩
  case round =>
    obtain ⟨j, Z, hj, hZ, rfl, rfl, hz, hB⟩ := hrel
    by_cases h0 : j = 0
    · subst h0
      obtain rfl := hz.out rfl
      have hx := (hB.out.block B (Wd9.lt_of_at HX.out)).trans HX.out
      have c2 := cell_of hx 2
      have HLg := Lib.hid (La9.large_any wr A c L (HP.out.reads.keep (Nat.le_refl _) hB.out) HP.out.len HP.out.text)
      rw [← HN.out] at HLg
      have HX1 := Lib.hid hx
      clear hz hx
      go_wp2_with fail
      refine HLg.out.mono ?_
      rintro e w1 ⟨r, rfl, _, hb1⟩
      have HB1 := Lib.hid (hB.out.trans (hb1.mono hB.out.size))
      have hx := (hb1.block B (Wd9.lt_of_at HX1.out)).trans HX1.out
      clear hb1 c2
      cases r
      · have c1 := cell_of hx 1
        have c2 := cell_of hx 2
        have c3 := cell_of hx 3
        have c4 := cell_of hx 4
        have c5 := cell_of hx 5
        clear hx
        go_wp2
        go_quiet (fail)
        go_wp2
        exact ⟨⟨1, 20 * N + k.size + a.size + b.size + f.size, by omega, by omega, rfl, by go_num, Lib.hid fun h => by omega, Lib.hid (Rq9.below_dn HB1.out _)⟩, by simp [intOf]⟩
      · clear hx
        go_wp2
        go_ret
        exact ⟨⟨true, rfl⟩, HB1.out⟩
    · obtain rfl : j = 1 := by omega
      clear hz
      go_wp2
      go_ret
      exact ⟨⟨_, rfl⟩, hB.out⟩
set_option maxRecDepth 20000 in
set_option maxHeartbeats 4000000 in
theorem walk_of (w : World) (o n m : Int) (f k a b : ByteArray) (A : Option Addr) (c : Nat) (L : List Pr) (hL : PairsAt w A L) (hf : f.size ≤ 140737488351232) (hk : k.size ≤ 140737488351232) (ha : a.size ≤ 140737488351232) (hb : b.size ≤ 140737488351232) :
    Calls Try.prog 5 #[.agg #[.int .i64 o, .string f, .slice A L.length c, .string k, .string a, .string b, .int .i64 n, .int .i64 m]] w fun e w' => e = .returned (.bool true) ∧ Below w.heap.size w w' := by
  obtain ⟨W, hW⟩ : ∃ W, W = w.alloc (.cells #[.int .i64 o, .string f, .slice A L.length c, .string k, .string a, .string b, .int .i64 n, .int .i64 m] 53) := ⟨_, rfl⟩
  have hx : W.heap[w.heap.size]? = some (stepO o f A L.length c k a b n m) := by rw [hW]; exact Wd9.heap_new _ _
  have hsz : W.heap.size = w.heap.size + 1 := by rw [hW, size_alloc]
  have hb0 : Below w.heap.size w W := by rw [hW]; exact (Below.refl w.heap.size w).alloc (Nat.le_refl _) _
  have hn := Wd9.heap_new W (stepO o f A L.length c k a b n m)
  have hb1 : Below w.heap.size w (W.alloc (stepO o f A L.length c k a b n m)) := hb0.alloc (by omega) _
  have hH := heavy_any _ W.heap.size o n m f k a b A c L ⟨hL.reads.keep (Nat.le_refl _) hb1, hL.text, hL.len⟩ hn hf hk ha hb
  rw [hsz] at hH
  obtain ⟨N, hN⟩ : ∃ N, N = L.length := ⟨_, rfl⟩
  rw [← hN] at hH hx hW hb1 ⊢
  have HL := Lib.hid hH
  have HB1 := Lib.hid hb1
  have b0 := cell_of hx 0
  have b1 := cell_of hx 1
  have b2 := cell_of hx 2
  have b3 := cell_of hx 3
  have b4 := cell_of hx 4
  have b5 := cell_of hx 5
  have b6 := cell_of hx 6
  have b7 := cell_of hx 7
  have HX := Lib.hid hx
  rw [hW] at b0 b1 b2 b3 b4 b5 b6 b7
  have HW := Lib.hid hW
  have HSZ := Lib.hid hsz
  clear hx hb0 hn hH hb1 hW hsz hN hL
  go_enter Try.func5, Try.ntmps5
  go_wp2_with fail
  rw [← HW.out]
  with_reducible refine HL.out.mono ?_
  rintro e w1 ⟨⟨r, rfl⟩, hb2⟩
  have HB2 := Lib.hid (HB1.out.trans (hb2.mono HB1.out.size))
  have x1 := (hb2.block w.heap.size (by have := HSZ.out; rw [size_alloc]; omega)).trans ((heap_alloc W (stepO o f A N c k a b n m) w.heap.size (by have := HSZ.out; omega)).trans HX.out)
  have HX1 := Lib.hid x1
  clear hb2 x1
  cases r
  · obtain ⟨n0, hn0⟩ : ∃ n0, n0 = w.heap.size := ⟨_, rfl⟩
    rw [← hn0] at HB2 HX1 ⊢
    have KN := Lib.hid hn0
    have hze : ∀ V : World, (binOp .eql 39 (.agg #[.string ⟨#[]⟩, .string ⟨#[]⟩, .bool false]) (.agg #[.string ⟨#[]⟩, .string ⟨#[]⟩, .bool false])).run Try.prog V = .ok (.bool true) V := fun V => by rw [run_eq, eqP_iff.2 rfl]
    have HK : Hid (∀ V, Below w1.heap.size w1 V → V.heap[n0]? = some (stepO o f A N c k a b n m)) := Lib.hid fun V hV => (hV.block n0 (Wd9.lt_of_at HX1.out)).trans HX1.out
    have c3 := cell_of HX1.out 3
    clear HL HB1 HX HW HSZ hn0 b0 b1 b2 b3 b4 b5 b6 b7
    have HG : Hid (∀ V, Calls Try.prog 16 #[.pointer none, .string k] V fun e w' => e = .returned (.tuple #[.agg #[.string ⟨#[]⟩, .string ⟨#[]⟩, .bool false], .bool false, .int .i64 1]) ∧ Below V.heap.size V w') := Lib.hid fun V => Ge10.get_nil V k
    have HS : Hid (∀ V, Calls Try.prog 18 #[.pointer none, .string a, .string b, .int .i64 n] V fun e w' => (∃ A c, e = .returned (.tuple #[.slice A 0 c, .int .i64 1])) ∧ Below V.heap.size V w') := Lib.hid fun V => (Sn10.scan_nil V a b n).mono fun e w' ⟨A, c, h1, _, h3⟩ => ⟨⟨A, c, h1⟩, h3⟩
    go_wp2_with fail
    refine (HG.out _).mono ?_
    rintro e w2 ⟨rfl, hb2⟩
    obtain ⟨W3, hW3⟩ : ∃ W3, W3 = w2.alloc (.cells #[.string ⟨#[]⟩, .string ⟨#[]⟩, .bool false] 39) := ⟨_, rfl⟩
    have hb3 : Below w1.heap.size w1 W3 := by rw [hW3]; exact hb2.alloc hb2.size _
    have q3 : W3.heap[w2.heap.size]? = some (pairO ⟨⟨#[]⟩, ⟨#[]⟩, false⟩) := by rw [hW3]; exact Wd9.heap_new _ _
    have x3 := HK.out W3 hb3
    have d4 := cell_of x3 4
    have d5 := cell_of x3 5
    have d6 := cell_of x3 6
    rw [hW3] at d4 d5 d6
    have Q3 := Lib.hid q3
    have HB3 := Lib.hid hb3
    have HW3 := Lib.hid hW3
    clear hb2 hb3 x3 q3 hW3 c3
    go_wp2_with fail
    rw [← HW3.out]
    refine (HS.out _).mono ?_
    rintro e w4 ⟨⟨A4, c4, rfl⟩, hb4⟩
    have hb5 := HB3.out.trans (hb4.mono HB3.out.size)
    have q4 := (hb4.block _ (Wd9.lt_of_at Q3.out)).trans Q3.out
    have d1 := cell_of (HK.out w4 hb5) 1
    have Q4 := Lib.hid q4
    have HB5 := Lib.hid hb5
    clear hb4 hb5 q4 d4 d5 d6
    go_wp2_with fail
    refine (On10.open_nil _ _).mono ?_
    rintro e w6 ⟨rfl, hb6⟩
    have hb7 := HB5.out.trans (hb6.mono HB5.out.size)
    have q6 := (hb6.block _ (Wd9.lt_of_at Q4.out)).trans Q4.out
    have e1 := cell_of (HK.out w6 hb7) 1
    have e2 := cell_of (HK.out w6 hb7) 2
    have z0 := cell_of q6 0
    have z1 := cell_of q6 1
    have z2 := cell_of q6 2
    dsimp only at z0 z1 z2
    have HB7 := Lib.hid hb7
    have HAV := Lib.hid (alive_any w6)
    clear hb6 hb7 q6 d1
    go_wp2_with (first
      | (go_at_call 13; refine (On10.len_nil _).mono ?_; rintro e wU ⟨rfl, hwU⟩; rw [hwU]; clear hwU wU)
      | (go_at_call 14; refine (On10.size_nil _).mono ?_; rintro e wU ⟨rfl, hwU⟩; rw [hwU]; clear hwU wU)
      | (go_at_call 10; refine (Wr10.write_nil _ _ _ _ _).mono ?_; rintro e wU ⟨rfl, hwU⟩; rw [hwU]; clear hwU wU)
      | (go_at_call 7; refine HAV.out.mono ?_; rintro e w8 ⟨rfl, hb8⟩; have HB8 := Lib.hid (HB7.out.trans (hb8.mono HB7.out.size)); clear hb8))
    go_ret
    exact ⟨rfl, by rw [← KN.out]; exact HB2.out.trans (HB8.out.mono (by rw [KN.out]; exact HB2.out.size))⟩
  · go_wp2_with fail
    refine (alive_any _).mono ?_
    rintro e w2 ⟨rfl, hb3⟩
    go_wp2
    go_ret
    exact ⟨rfl, HB2.out.trans (hb3.mono HB2.out.size)⟩
theorem walk (W : World) (o : Int) (f : ByteArray) (A : Option Addr) (c : Nat) (L : List Pr) (k a b : ByteArray) (n m : Int) (h : PairsAt W A L ∧ f.size ≤ 140737488351232 ∧ k.size ≤ 140737488351232 ∧ a.size ≤ 140737488351232 ∧ b.size ≤ 140737488351232) :
    Calls Try.prog 5 #[.agg #[.int .i64 o, .string f, .slice A L.length c, .string k, .string a, .string b, .int .i64 n, .int .i64 m]] W fun e w' => e = .returned (.bool true) ∧ Below W.heap.size W w' :=
  walk_of W o n m f k a b A c L h.1 h.2.1 h.2.2.1 h.2.2.2.1 h.2.2.2.2
end Go.Proofs.Ytmnaamjoikfpbaa.Nr10
