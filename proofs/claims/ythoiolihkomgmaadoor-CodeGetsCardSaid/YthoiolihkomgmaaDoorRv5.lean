/- The reader's value: what every kind's bytes are read as. -/
import Derived.Test.YthoiolihkomgmaaDoorTx5
import Derived.Test.YthoiolihkomgmaaDoorPv5
import Derived.Test.YthoiolihkomgmaaDoorVk
namespace Go.Proofs.YthoiolihkomgmaaDoor.Rv5
open Go Go.RowKit Go.Proofs Go.Proofs.YthoiolihkomgmaaDoor.Wm Go.Proofs.YthoiolihkomgmaaDoor.Vm Go.Proofs.YthoiolihkomgmaaDoor.Vs Go.Proofs.YthoiolihkomgmaaDoor.Vc Go.Proofs.YthoiolihkomgmaaDoor.Vk Go.Proofs.YthoiolihkomgmaaDoor.Cm Go.Proofs.YthoiolihkomgmaaDoor.Sh5 Go.Proofs.YthoiolihkomgmaaDoor.Rd5 Go.Proofs.YthoiolihkomgmaaDoor.Tx5 Go.Proofs.YthoiolihkomgmaaDoor.Pv5
theorem _root_.Go.Proofs.YthoiolihkomgmaaDoor.Pv5.Box.soft {w : World} {b : Nat} {k n r : Int} {t : ByteArray} (h : Box w b k n r t) (o : Nat) : w.frozen? ⟨b, o, none⟩ = false := by
  unfold Box at h
  simp [World.frozen?, h]
theorem _root_.Go.Proofs.YthoiolihkomgmaaDoor.Pv5.Box.four {w : World} {b : Nat} {k n r : Int} {t : ByteArray} (h : Box w b k n r t) : ∀ i, i < 4 → (w.cell? ⟨b, i, none⟩).isSome = true := fun i hi => by
  obtain ⟨c0, c1, c2, c3⟩ := h.cells
  match i, hi with
  | 0, _ => rw [c0]; rfl
  | 1, _ => rw [c1]; rfl
  | 2, _ => rw [c2]; rfl
  | 3, _ => rw [c3]; rfl
theorem _root_.Go.Proofs.YthoiolihkomgmaaDoor.Pv5.Box.lt {w : World} {b : Nat} {k n r : Int} {t : ByteArray} (h : Box w b k n r t) : b < w.heap.size := lt_of_block h
theorem _root_.Go.Proofs.YthoiolihkomgmaaDoor.Pv5.Box.below {w w1 : World} {b : Nat} {k n r : Int} {t : ByteArray} (h : Box w b k n r t) (hb : Below w.heap.size w w1) : Box w1 b k n r t := (hb.block b (lt_of_block h)).trans h
theorem _root_.Go.Proofs.YthoiolihkomgmaaDoor.Pv5.Box.only {w w1 : World} {B b : Nat} {k n r : Int} {t : ByteArray} (h : Box w b k n r t) (ho : Only B w w1) (hB : b ≠ B) : Box w1 b k n r t := (ho.block b (lt_of_block h) (fun e => hB (Option.some.inj e))).trans h
theorem _root_.Go.Proofs.YthoiolihkomgmaaDoor.Pv5.Box.past {w : World} {b : Nat} {k n r : Int} {t : ByteArray} (h : Box w b k n r t) (o : Obj) : Box (w.alloc o) b k n r t := h.below ((Below.refl _ _).alloc (Nat.le_refl _) _)
theorem _root_.Go.World.grownBy.new {B b o : Nat} {w w1 : World} (h : Only B w w1) (hb : w.heap.size ≤ b) (v : Value) : Only B w (w1.setCell ⟨b, o, none⟩ v) :=
  ⟨h.os, h.tape, h.output, by simpa [World.setCell] using h.size, fun k hk hn => (Below.heap_setCell w1 ⟨b, o, none⟩ v k (by simp only; omega)).trans (h.block k hk hn)⟩
theorem _root_.Go.Proofs.YthoiolihkomgmaaDoor.Rd5.Rd.other {w : World} {B b o : Nat} {l : List UInt8} (h : Rd w B l) (hb : b ≠ B) (v : Value) : Rd (w.setCell ⟨b, o, none⟩ v) B l :=
  (Below.heap_setCell w ⟨b, o, none⟩ v B (fun e => hb e.symm)).trans h
/-- The value is stored where the result is, and all else stands. -/
theorem stored {w w2 : World} {B a : Nat} {l : List UInt8} {x0 x1 x2 x3 : Value} (ho : Only B w w2) (hr : Rd w2 B l) (ha : w.heap.size ≤ a) (hB : B < w.heap.size) :
    Rd ((((w2.setCell ⟨a, 0, none⟩ x0).setCell ⟨a, 1, none⟩ x1).setCell ⟨a, 2, none⟩ x2).setCell ⟨a, 3, none⟩ x3) B l ∧ Only B w ((((w2.setCell ⟨a, 0, none⟩ x0).setCell ⟨a, 1, none⟩ x1).setCell ⟨a, 2, none⟩ x2).setCell ⟨a, 3, none⟩ x3) :=
  have hn : a ≠ B := by omega
  ⟨(((hr.other hn _).other hn _).other hn _).other hn _, (((ho.new ha _).new ha _).new ha _).new ha _⟩
def zero : Obj := .cells #[.int .u8 0, .int .i64 0, .int .u64 0, .string ⟨#[]⟩] 24
theorem only_alloc {B : Nat} (w : World) (o : Obj) : Only B w (w.alloc o) := Only.of_below ((Below.refl _ _).alloc (Nat.le_refl _) _)
theorem wrap8 {k : Nat} (h : k < 256) : IntKind.u8.wrap (k : Int) = (k : Int) := by
  simp only [IntKind.wrap, IntKind.bits, IntKind.signed]
  simp
  omega
/-- No number and no text behind the kind. -/
theorem v_other {w : World} {B : Nat} {c : UInt8} {r : List UInt8} (h : Rd w B (c :: r)) (hl : r.length ≤ 90000) (hT : Tabs w) (hB : 1 < B) (hk : (c.toNat : Int) ≠ 1 ∧ (c.toNat : Int) ≠ 2 ∧ (c.toNat : Int) ≠ 3 ∧ (c.toNat : Int) ≠ 4 ∧ (c.toNat : Int) ≠ 5) :
    Calls Tryd.prog 29 #[.pointer (some ⟨B, 0, none⟩)] w (Outc B w (checked ⟨(c.toNat : Int), 0, 0, ⟨#[]⟩⟩ r) vv) := by
  obtain ⟨h1, h2, h3, h4, h5⟩ := hk
  have hw := wrap8 c.toNat_lt
  have hBw := h.lt
  have HW := Lib.hid hBw
  have h' : Rd (w.alloc (.cells #[.int .u8 0, .int .i64 0, .int .u64 0, .string ⟨#[]⟩] 24)) B (c :: r) := h.keep ((Below.refl _ _).alloc (Nat.le_refl _) _)
  have HN : Hid (Calls Tryd.prog 40 #[.pointer (some ⟨B, 0, none⟩), .int .i64 1] (w.alloc (.cells #[.int .u8 0, .int .i64 0, .int .u64 0, .string ⟨#[]⟩] 24)) fun e w' => e = .returned (.int .u64 (c.toNat : Int)) ∧ Rd w' B r ∧ Only B (w.alloc (.cells #[.int .u8 0, .int .i64 0, .int .u64 0, .string ⟨#[]⟩] 24)) w') :=
    Lib.hid ((number_ok 1 h' (by omega) (by omega) (by simp) (by simp only [List.length_cons]; omega)).mono fun e w' ⟨a, d, o⟩ => ⟨by rw [a, num1], d, o⟩)
  have HA := Lib.hid (Box.new w 0 0 0 ⟨#[]⟩)
  have HT := Lib.hid (hT.keep ((Below.refl w.heap.size w).alloc (Nat.le_refl _) (.cells #[.int .u8 0, .int .i64 0, .int .u64 0, .string ⟨#[]⟩] 24)))
  have HC : Hid (∀ W, Tabs W → Calls Tryd.prog 21 #[.agg #[.int .u8 (c.toNat : Int), .int .i64 0, .int .u64 0, .string ⟨#[]⟩]] W fun e w' => e = .returned (.int .i64 (erg (may ⟨(c.toNat : Int), 0, 0, ⟨#[]⟩⟩))) ∧ Below W.heap.size W w') := Lib.hid fun W hW => check_any ⟨(c.toNat : Int), 0, 0, ⟨#[]⟩⟩ W hW (Nat.zero_le _)
  have HG := Lib.hid (fun W => give_up 7 W)
  obtain ⟨k, hk⟩ : ∃ k : Int, k = (c.toNat : Int) := ⟨_, rfl⟩
  rw [← hk] at h1 h2 h3 h4 h5 hw HN HC ⊢
  unfold checked
  clear h h' hk hT hBw
  cases hm : may ⟨k, 0, 0, ⟨#[]⟩⟩
  · rw [hm] at HC
    clear hm
    rw [if_neg (by simp)]
    go_enter Tryd.func29, Tryd.ntmps29
    go_wp2_with fail
    with_reducible refine HN.out.mono ?_
    rintro e w1 ⟨rfl, hr1, ho1⟩
    have HO1 := Lib.hid ho1; have HR1 := Lib.hid hr1
    have HT1 := Lib.hid ((only_tabs HT.out ho1 hB).keep ((Below.refl w1.heap.size w1).alloc (Nat.le_refl _) (.cells #[.int .u8 k, .int .i64 0, .int .u64 0, .string ⟨#[]⟩] 24)))
    clear ho1 hr1
    go_wp2_with fail
    with_reducible refine (HC.out _ HT1.out).mono ?_
    rintro e w2 ⟨rfl, hb2⟩
    have HB2 := Lib.hid hb2
    clear hb2
    go_wp2_with fail
    with_reducible refine (HG.out _).mono ?_
    rintro e w3 ⟨rfl, rfl⟩
    exact ⟨rfl, rfl, (((only_alloc w _).trans HO1.out).trans (only_alloc w1 _)).trans (Only.of_below HB2.out)⟩
  · rw [hm] at HC
    clear hm
    rw [if_pos rfl]
    go_enter Tryd.func29, Tryd.ntmps29
    go_wp2_with fail
    with_reducible refine HN.out.mono ?_
    rintro e w1 ⟨rfl, hr1, ho1⟩
    have HO1 := Lib.hid ho1; have HR1 := Lib.hid hr1
    have HA1 := Lib.hid ((HA.out.only ho1 (by have := HW.out; omega)).past (.cells #[.int .u8 k, .int .i64 0, .int .u64 0, .string ⟨#[]⟩] 24))
    have HX1 := Lib.hid (Box.new w1 k 0 0 ⟨#[]⟩)
    have HT1 := Lib.hid ((only_tabs HT.out ho1 hB).keep ((Below.refl w1.heap.size w1).alloc (Nat.le_refl _) (.cells #[.int .u8 k, .int .i64 0, .int .u64 0, .string ⟨#[]⟩] 24)))
    have HR2 := Lib.hid (hr1.keep ((Below.refl w1.heap.size w1).alloc (Nat.le_refl _) (.cells #[.int .u8 k, .int .i64 0, .int .u64 0, .string ⟨#[]⟩] 24)))
    clear ho1 hr1
    go_wp2_with fail
    with_reducible refine (HC.out _ HT1.out).mono ?_
    rintro e w2 ⟨rfl, hb2⟩
    have HB2 := Lib.hid hb2
    obtain ⟨c0, c1, c2, c3⟩ := (HX1.out.below hb2).cells
    obtain ⟨d0, d1, d2, d3⟩ := (HA1.out.below hb2).cells
    have hfz := (HA1.out.below hb2).soft
    obtain ⟨hs0, hs1, hs2, hs3⟩ := reads4 (HA1.out.below hb2).four
    have hO := (((only_alloc w _).trans HO1.out).trans (only_alloc w1 _)).trans (Only.of_below hb2)
    have HS := Lib.hid (fun x0 x1 x2 x3 => stored (x0 := x0) (x1 := x1) (x2 := x2) (x3 := x3) hO (HR2.out.keep hb2) (Nat.le_refl _) HW.out)
    clear hb2 hO
    go_wp2
    refine bodyPost_ret (v := .agg #[.int .u8 k, .int .i64 0, .int .u64 0, .string ⟨#[]⟩]) (by simp [results, Tryd.results29, go_sem, hs0, hs1, hs2, hs3]) rfl ⟨rfl, HS.out _ _ _ _⟩
theorem _root_.Go.Proofs.YthoiolihkomgmaaDoor.Pv5.Box.set1 {w : World} {b : Nat} {k n r : Int} {t : ByteArray} (h : Box w b k n r t) (m : Int) : Box (w.setCell ⟨b, 1, none⟩ (.int .i64 m)) b k m r t := heap_setCell_same w b 1 _ _ _ h
theorem _root_.Go.Proofs.YthoiolihkomgmaaDoor.Pv5.Box.set2 {w : World} {b : Nat} {k n r : Int} {t : ByteArray} (h : Box w b k n r t) (m : Int) : Box (w.setCell ⟨b, 2, none⟩ (.int .u64 m)) b k n m t := heap_setCell_same w b 2 _ _ _ h
theorem _root_.Go.Proofs.YthoiolihkomgmaaDoor.Pv5.Box.set3 {w : World} {b : Nat} {k n r : Int} {t : ByteArray} (h : Box w b k n r t) (m : ByteArray) : Box (w.setCell ⟨b, 3, none⟩ (.string m)) b k n r m := heap_setCell_same w b 3 _ _ _ h
theorem _root_.Go.Proofs.YthoiolihkomgmaaDoor.Pv5.Box.other {w : World} {b a o : Nat} {k n r : Int} {t : ByteArray} (h : Box w b k n r t) (ha : b ≠ a) (v : Value) : Box (w.setCell ⟨a, o, none⟩ v) b k n r t := (Below.heap_setCell w ⟨a, o, none⟩ v b ha).trans h
theorem tabs_set {w : World} {b o : Nat} (h : Tabs w) (hb : 1 < b) (v : Value) : Tabs (w.setCell ⟨b, o, none⟩ v) :=
  only_tabs h ((Only.refl b w).trans ⟨rfl, rfl, rfl, by simp [World.setCell], fun k _ hn => Below.heap_setCell w ⟨b, o, none⟩ v k (fun e => hn (congrArg some e))⟩) hb
theorem number_one {w : World} {B : Nat} {l : List UInt8} (h : Rd w B l) (hl : l.length ≤ 9223372036854775807) : Calls Tryd.prog 40 #[.pointer (some ⟨B, 0, none⟩), .int .i64 1] w (Outc B w (num 1 l) (fun v => .int .u64 (v : Int))) := by
  unfold num
  by_cases hn : 1 ≤ l.length
  · rw [if_pos hn]; exact number_ok 1 h (by omega) (by omega) hn hl
  · rw [if_neg hn]; exact number_bad 1 h (by omega)
theorem number_eight {w : World} {B : Nat} {l : List UInt8} (h : Rd w B l) (hl : l.length ≤ 9223372036854775807) : Calls Tryd.prog 40 #[.pointer (some ⟨B, 0, none⟩), .int .i64 8] w (Outc B w (num 8 l) (fun v => .int .u64 (v : Int))) := by
  unfold num
  by_cases hn : 8 ≤ l.length
  · rw [if_pos hn]; exact number_ok 8 h (by omega) (by omega) hn hl
  · rw [if_neg hn]; exact number_bad 8 h (by omega)
theorem num_lt {n : Nat} {l : List UInt8} {v : Nat} {r : List UInt8} (h : num n l = .ok v r) : v < 256 ^ n ∧ r.length ≤ l.length := by
  unfold num at h
  split at h
  · rename_i hn
    cases h
    have := getL_lt (l.take n)
    rw [List.length_take, Nat.min_eq_left hn] at this
    exact ⟨this, by rw [List.length_drop]; omega⟩
  · cases h
end Go.Proofs.YthoiolihkomgmaaDoor.Rv5
