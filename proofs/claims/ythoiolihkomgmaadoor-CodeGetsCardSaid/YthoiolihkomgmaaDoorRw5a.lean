/- The reader's value, kind by kind (written by a program). -/
import Derived.Test.YthoiolihkomgmaaDoorRv5
namespace Go.Proofs.YthoiolihkomgmaaDoor.Rv5
open Go Go.RowKit Go.Proofs Go.Proofs.YthoiolihkomgmaaDoor.Wm Go.Proofs.YthoiolihkomgmaaDoor.Vm Go.Proofs.YthoiolihkomgmaaDoor.Vs Go.Proofs.YthoiolihkomgmaaDoor.Vc Go.Proofs.YthoiolihkomgmaaDoor.Vk Go.Proofs.YthoiolihkomgmaaDoor.Cm Go.Proofs.YthoiolihkomgmaaDoor.Sh5 Go.Proofs.YthoiolihkomgmaaDoor.Rd5 Go.Proofs.YthoiolihkomgmaaDoor.Tx5 Go.Proofs.YthoiolihkomgmaaDoor.Pv5
set_option maxRecDepth 20000 in
theorem v_bool {w : World} {B : Nat} {c : UInt8} {r : List UInt8} (h : Rd w B (c :: r)) (hl : r.length ≤ 90000) (hT : Tabs w) (hB : 1 < B) (hk : c.toNat = 1) :
    Calls Tryd.prog 29 #[.pointer (some ⟨B, 0, none⟩)] w (Outc B w (match num 1 r with | .ok v r' => checked ⟨1, (v : Int), 0, ⟨#[]⟩⟩ r' | .bad c => .bad c) vv) := by
  have hBw := h.lt
  have HW := Lib.hid hBw
  have h' : Rd (w.alloc (.cells #[.int .u8 0, .int .i64 0, .int .u64 0, .string ⟨#[]⟩] 24)) B (c :: r) := h.keep ((Below.refl _ _).alloc (Nat.le_refl _) _)
  have HN : Hid (Calls Tryd.prog 40 #[.pointer (some ⟨B, 0, none⟩), .int .i64 1] (w.alloc (.cells #[.int .u8 0, .int .i64 0, .int .u64 0, .string ⟨#[]⟩] 24)) fun e w' => e = .returned (.int .u64 1) ∧ Rd w' B r ∧ Only B (w.alloc (.cells #[.int .u8 0, .int .i64 0, .int .u64 0, .string ⟨#[]⟩] 24)) w') :=
    Lib.hid ((number_ok 1 h' (by omega) (by omega) (by simp) (by simp only [List.length_cons]; omega)).mono fun e w' ⟨a, d, o⟩ => ⟨by rw [a, num1, hk]; rfl, d, o⟩)
  have HA := Lib.hid (Box.new w 0 0 0 ⟨#[]⟩)
  have HT := Lib.hid (hT.keep ((Below.refl w.heap.size w).alloc (Nat.le_refl _) (.cells #[.int .u8 0, .int .i64 0, .int .u64 0, .string ⟨#[]⟩] 24)))
  have HG := Lib.hid (fun W => give_up 7 W)
  have H2 : Hid (∀ W, Hid (Rd W B r) → Hid (Tabs W) → Calls Tryd.prog 40 #[.pointer (some ⟨B, 0, none⟩), .int .i64 1] W (Outc B W (num 1 r) (fun v => .int .u64 (v : Int)))) := Lib.hid fun W hW hTW => number_one hW.out (by omega)
  clear h h' hT hBw
  cases hq : num 1 r with
  | bad d =>
    rw [hq] at H2
    clear hq
    go_enter Tryd.func29, Tryd.ntmps29
    go_wp2_with fail
    with_reducible refine HN.out.mono ?_
    rintro e w1 ⟨rfl, hr1, ho1⟩
    have HO1 := Lib.hid ho1
    have hlt1 := HW.out
    have hs1 := ho1.size
    have HB1 : Hid (B < w1.heap.size) := Lib.hid (by have := HA.out.lt; omega)
    have HA1 := Lib.hid ((HA.out.only ho1 (by omega)).past (.cells #[.int .u8 1, .int .i64 0, .int .u64 0, .string ⟨#[]⟩] 24))
    have HX1 := Lib.hid (Box.new w1 1 0 0 ⟨#[]⟩)
    have HT1 := Lib.hid ((only_tabs HT.out ho1 hB).keep ((Below.refl w1.heap.size w1).alloc (Nat.le_refl _) (.cells #[.int .u8 1, .int .i64 0, .int .u64 0, .string ⟨#[]⟩] 24)))
    have HR1 := Lib.hid (hr1.keep ((Below.refl w1.heap.size w1).alloc (Nat.le_refl _) (.cells #[.int .u8 1, .int .i64 0, .int .u64 0, .string ⟨#[]⟩] 24)))
    have HO2 := Lib.hid (((only_alloc w (.cells #[.int .u8 0, .int .i64 0, .int .u64 0, .string ⟨#[]⟩] 24)).trans ho1).trans (only_alloc w1 (.cells #[.int .u8 1, .int .i64 0, .int .u64 0, .string ⟨#[]⟩] 24)))
    clear ho1 hr1 hlt1 hs1
    go_wp2_with fail
    with_reducible refine (H2.out _ HR1 HT1).mono ?_
    rintro e w2 ⟨rfl, ho2⟩
    exact ⟨rfl, rfl, HO2.out.trans ho2⟩
  | ok v r' =>
    rw [hq] at H2
    have hv := (num_lt hq).1
    have hw : IntKind.i64.wrap (v : Int) = (v : Int) := by rw [wrap_i64 (by omega)]; unfold toI; rw [if_pos (by omega)]
    clear hq
    have HC : Hid (∀ W, Tabs W → Calls Tryd.prog 21 #[.agg #[.int .u8 1, .int .i64 (v : Int), .int .u64 0, .string ⟨#[]⟩]] W fun e w' => e = .returned (.int .i64 (erg (may ⟨1, (v : Int), 0, ⟨#[]⟩⟩))) ∧ Below W.heap.size W w') := Lib.hid fun W hW => check_any ⟨1, (v : Int), 0, ⟨#[]⟩⟩ W hW (Nat.zero_le _)
    show Calls _ _ _ _ (Outc B w (checked ⟨1, (v : Int), 0, ⟨#[]⟩⟩ r') vv)
    unfold checked
    cases hm : may ⟨1, (v : Int), 0, ⟨#[]⟩⟩
    · rw [hm] at HC
      clear hm
      rw [if_neg (by simp)]
      go_enter Tryd.func29, Tryd.ntmps29
      go_wp2_with fail
      with_reducible refine HN.out.mono ?_
      rintro e w1 ⟨rfl, hr1, ho1⟩
      have HO1 := Lib.hid ho1
      have hlt1 := HW.out
      have hs1 := ho1.size
      have HB1 : Hid (B < w1.heap.size) := Lib.hid (by have := HA.out.lt; omega)
      have HA1 := Lib.hid ((HA.out.only ho1 (by omega)).past (.cells #[.int .u8 1, .int .i64 0, .int .u64 0, .string ⟨#[]⟩] 24))
      have HX1 := Lib.hid (Box.new w1 1 0 0 ⟨#[]⟩)
      have HT1 := Lib.hid ((only_tabs HT.out ho1 hB).keep ((Below.refl w1.heap.size w1).alloc (Nat.le_refl _) (.cells #[.int .u8 1, .int .i64 0, .int .u64 0, .string ⟨#[]⟩] 24)))
      have HR1 := Lib.hid (hr1.keep ((Below.refl w1.heap.size w1).alloc (Nat.le_refl _) (.cells #[.int .u8 1, .int .i64 0, .int .u64 0, .string ⟨#[]⟩] 24)))
      have HO2 := Lib.hid (((only_alloc w (.cells #[.int .u8 0, .int .i64 0, .int .u64 0, .string ⟨#[]⟩] 24)).trans ho1).trans (only_alloc w1 (.cells #[.int .u8 1, .int .i64 0, .int .u64 0, .string ⟨#[]⟩] 24)))
      clear ho1 hr1 hlt1 hs1
      go_wp2_with fail
      with_reducible refine (H2.out _ HR1 HT1).mono ?_
      rintro e w2 ⟨rfl, hr2, ho2⟩
      have hb1 := HB1.out
      have hX2 := HX1.out.only ho2 (by omega)
      have hA2 := HA1.out.only ho2 (by have := HW.out; omega)
      obtain ⟨c0, c1, c2, c3⟩ := hX2.cells
      have hsoft := hX2.soft
      have hne : w.heap.size ≠ w1.heap.size := by have := HO1.out.size; simp at this; omega
      have HX3 := Lib.hid (hX2.set1 (v : Int))
      have HA3 := Lib.hid (hA2.other (o := 1) hne (.int .i64 (v : Int)))
      have HR3 := Lib.hid (hr2.other (b := w1.heap.size) (o := 1) (by omega) (.int .i64 (v : Int)))
      have HT3 := Lib.hid (tabs_set (b := w1.heap.size) (o := 1) (only_tabs HT1.out ho2 hB) (by omega) (.int .i64 (v : Int)))
      have HO3 := Lib.hid (World.grownBy.new (b := w1.heap.size) (o := 1) (HO2.out.trans ho2) (by have := HO1.out.size; simp at this; omega) (.int .i64 (v : Int)))
      clear hX2 hA2 hr2 ho2 hne hb1
      go_wp2_with fail
      with_reducible refine (HC.out _ HT3.out).mono ?_
      rintro e w3 ⟨rfl, hb3⟩
      have HB3 := Lib.hid hb3
      clear hb3
      go_wp2_with fail
      with_reducible refine (HG.out _).mono ?_
      rintro e w4 ⟨rfl, rfl⟩
      exact ⟨rfl, rfl, HO3.out.trans (Only.of_below HB3.out)⟩
    · rw [hm] at HC
      clear hm
      rw [if_pos rfl]
      go_enter Tryd.func29, Tryd.ntmps29
      go_wp2_with fail
      with_reducible refine HN.out.mono ?_
      rintro e w1 ⟨rfl, hr1, ho1⟩
      have HO1 := Lib.hid ho1
      have hlt1 := HW.out
      have hs1 := ho1.size
      have HB1 : Hid (B < w1.heap.size) := Lib.hid (by have := HA.out.lt; omega)
      have HA1 := Lib.hid ((HA.out.only ho1 (by omega)).past (.cells #[.int .u8 1, .int .i64 0, .int .u64 0, .string ⟨#[]⟩] 24))
      have HX1 := Lib.hid (Box.new w1 1 0 0 ⟨#[]⟩)
      have HT1 := Lib.hid ((only_tabs HT.out ho1 hB).keep ((Below.refl w1.heap.size w1).alloc (Nat.le_refl _) (.cells #[.int .u8 1, .int .i64 0, .int .u64 0, .string ⟨#[]⟩] 24)))
      have HR1 := Lib.hid (hr1.keep ((Below.refl w1.heap.size w1).alloc (Nat.le_refl _) (.cells #[.int .u8 1, .int .i64 0, .int .u64 0, .string ⟨#[]⟩] 24)))
      have HO2 := Lib.hid (((only_alloc w (.cells #[.int .u8 0, .int .i64 0, .int .u64 0, .string ⟨#[]⟩] 24)).trans ho1).trans (only_alloc w1 (.cells #[.int .u8 1, .int .i64 0, .int .u64 0, .string ⟨#[]⟩] 24)))
      clear ho1 hr1 hlt1 hs1
      go_wp2_with fail
      with_reducible refine (H2.out _ HR1 HT1).mono ?_
      rintro e w2 ⟨rfl, hr2, ho2⟩
      have hb1 := HB1.out
      have hX2 := HX1.out.only ho2 (by omega)
      have hA2 := HA1.out.only ho2 (by have := HW.out; omega)
      obtain ⟨c0, c1, c2, c3⟩ := hX2.cells
      have hsoft := hX2.soft
      have hne : w.heap.size ≠ w1.heap.size := by have := HO1.out.size; simp at this; omega
      have HX3 := Lib.hid (hX2.set1 (v : Int))
      have HA3 := Lib.hid (hA2.other (o := 1) hne (.int .i64 (v : Int)))
      have HR3 := Lib.hid (hr2.other (b := w1.heap.size) (o := 1) (by omega) (.int .i64 (v : Int)))
      have HT3 := Lib.hid (tabs_set (b := w1.heap.size) (o := 1) (only_tabs HT1.out ho2 hB) (by omega) (.int .i64 (v : Int)))
      have HO3 := Lib.hid (World.grownBy.new (b := w1.heap.size) (o := 1) (HO2.out.trans ho2) (by have := HO1.out.size; simp at this; omega) (.int .i64 (v : Int)))
      clear hX2 hA2 hr2 ho2 hne hb1
      go_wp2_with fail
      with_reducible refine (HC.out _ HT3.out).mono ?_
      rintro e w3 ⟨rfl, hb3⟩
      have HB3 := Lib.hid hb3
      obtain ⟨e0, e1, e2, e3⟩ := (HX3.out.below hb3).cells
      obtain ⟨d0, d1, d2, d3⟩ := (HA3.out.below hb3).cells
      have hfz := (HA3.out.below hb3).soft
      obtain ⟨hs0, hs1, hs2, hs3⟩ := reads4 (HA3.out.below hb3).four
      have hO := HO3.out.trans (Only.of_below hb3)
      have HS := Lib.hid (fun x0 x1 x2 x3 => stored (x0 := x0) (x1 := x1) (x2 := x2) (x3 := x3) hO (HR3.out.keep hb3) (Nat.le_refl _) HW.out)
      clear hb3 hO c0 c1 c2 c3
      go_wp2
      refine bodyPost_ret (v := .agg #[.int .u8 1, .int .i64 (v : Int), .int .u64 0, .string ⟨#[]⟩]) (by simp [results, Tryd.results29, go_sem, hs0, hs1, hs2, hs3]) rfl ⟨rfl, HS.out _ _ _ _⟩
set_option maxRecDepth 20000 in
theorem v_int {w : World} {B : Nat} {c : UInt8} {r : List UInt8} (h : Rd w B (c :: r)) (hl : r.length ≤ 90000) (hT : Tabs w) (hB : 1 < B) (hk : c.toNat = 2) :
    Calls Tryd.prog 29 #[.pointer (some ⟨B, 0, none⟩)] w (Outc B w (match num 8 r with | .ok v r' => checked ⟨2, toI v, 0, ⟨#[]⟩⟩ r' | .bad c => .bad c) vv) := by
  have hBw := h.lt
  have HW := Lib.hid hBw
  have h' : Rd (w.alloc (.cells #[.int .u8 0, .int .i64 0, .int .u64 0, .string ⟨#[]⟩] 24)) B (c :: r) := h.keep ((Below.refl _ _).alloc (Nat.le_refl _) _)
  have HN : Hid (Calls Tryd.prog 40 #[.pointer (some ⟨B, 0, none⟩), .int .i64 1] (w.alloc (.cells #[.int .u8 0, .int .i64 0, .int .u64 0, .string ⟨#[]⟩] 24)) fun e w' => e = .returned (.int .u64 2) ∧ Rd w' B r ∧ Only B (w.alloc (.cells #[.int .u8 0, .int .i64 0, .int .u64 0, .string ⟨#[]⟩] 24)) w') :=
    Lib.hid ((number_ok 1 h' (by omega) (by omega) (by simp) (by simp only [List.length_cons]; omega)).mono fun e w' ⟨a, d, o⟩ => ⟨by rw [a, num1, hk]; rfl, d, o⟩)
  have HA := Lib.hid (Box.new w 0 0 0 ⟨#[]⟩)
  have HT := Lib.hid (hT.keep ((Below.refl w.heap.size w).alloc (Nat.le_refl _) (.cells #[.int .u8 0, .int .i64 0, .int .u64 0, .string ⟨#[]⟩] 24)))
  have HG := Lib.hid (fun W => give_up 7 W)
  have H2 : Hid (∀ W, Hid (Rd W B r) → Hid (Tabs W) → Calls Tryd.prog 40 #[.pointer (some ⟨B, 0, none⟩), .int .i64 8] W (Outc B W (num 8 r) (fun v => .int .u64 (v : Int)))) := Lib.hid fun W hW hTW => number_eight hW.out (by omega)
  clear h h' hT hBw
  cases hq : num 8 r with
  | bad d =>
    rw [hq] at H2
    clear hq
    go_enter Tryd.func29, Tryd.ntmps29
    go_wp2_with fail
    with_reducible refine HN.out.mono ?_
    rintro e w1 ⟨rfl, hr1, ho1⟩
    have HO1 := Lib.hid ho1
    have hlt1 := HW.out
    have hs1 := ho1.size
    have HB1 : Hid (B < w1.heap.size) := Lib.hid (by have := HA.out.lt; omega)
    have HA1 := Lib.hid ((HA.out.only ho1 (by omega)).past (.cells #[.int .u8 2, .int .i64 0, .int .u64 0, .string ⟨#[]⟩] 24))
    have HX1 := Lib.hid (Box.new w1 2 0 0 ⟨#[]⟩)
    have HT1 := Lib.hid ((only_tabs HT.out ho1 hB).keep ((Below.refl w1.heap.size w1).alloc (Nat.le_refl _) (.cells #[.int .u8 2, .int .i64 0, .int .u64 0, .string ⟨#[]⟩] 24)))
    have HR1 := Lib.hid (hr1.keep ((Below.refl w1.heap.size w1).alloc (Nat.le_refl _) (.cells #[.int .u8 2, .int .i64 0, .int .u64 0, .string ⟨#[]⟩] 24)))
    have HO2 := Lib.hid (((only_alloc w (.cells #[.int .u8 0, .int .i64 0, .int .u64 0, .string ⟨#[]⟩] 24)).trans ho1).trans (only_alloc w1 (.cells #[.int .u8 2, .int .i64 0, .int .u64 0, .string ⟨#[]⟩] 24)))
    clear ho1 hr1 hlt1 hs1
    go_wp2_with fail
    with_reducible refine (H2.out _ HR1 HT1).mono ?_
    rintro e w2 ⟨rfl, ho2⟩
    exact ⟨rfl, rfl, HO2.out.trans ho2⟩
  | ok v r' =>
    rw [hq] at H2
    have hv := (num_lt hq).1
    have hw : IntKind.i64.wrap (v : Int) = toI v := wrap_i64 (by omega)
    show Calls _ _ _ _ (Outc B w (checked ⟨2, toI v, 0, ⟨#[]⟩⟩ r') vv)
    obtain ⟨q, hqq⟩ : ∃ q, q = toI v := ⟨_, rfl⟩
    rw [← hqq] at hw ⊢
    clear hqq
    clear hq
    have HC : Hid (∀ W, Tabs W → Calls Tryd.prog 21 #[.agg #[.int .u8 2, .int .i64 q, .int .u64 0, .string ⟨#[]⟩]] W fun e w' => e = .returned (.int .i64 (erg (may ⟨2, q, 0, ⟨#[]⟩⟩))) ∧ Below W.heap.size W w') := Lib.hid fun W hW => check_any ⟨2, q, 0, ⟨#[]⟩⟩ W hW (Nat.zero_le _)
    show Calls _ _ _ _ (Outc B w (checked ⟨2, q, 0, ⟨#[]⟩⟩ r') vv)
    unfold checked
    cases hm : may ⟨2, q, 0, ⟨#[]⟩⟩
    · rw [hm] at HC
      clear hm
      rw [if_neg (by simp)]
      go_enter Tryd.func29, Tryd.ntmps29
      go_wp2_with fail
      with_reducible refine HN.out.mono ?_
      rintro e w1 ⟨rfl, hr1, ho1⟩
      have HO1 := Lib.hid ho1
      have hlt1 := HW.out
      have hs1 := ho1.size
      have HB1 : Hid (B < w1.heap.size) := Lib.hid (by have := HA.out.lt; omega)
      have HA1 := Lib.hid ((HA.out.only ho1 (by omega)).past (.cells #[.int .u8 2, .int .i64 0, .int .u64 0, .string ⟨#[]⟩] 24))
      have HX1 := Lib.hid (Box.new w1 2 0 0 ⟨#[]⟩)
      have HT1 := Lib.hid ((only_tabs HT.out ho1 hB).keep ((Below.refl w1.heap.size w1).alloc (Nat.le_refl _) (.cells #[.int .u8 2, .int .i64 0, .int .u64 0, .string ⟨#[]⟩] 24)))
      have HR1 := Lib.hid (hr1.keep ((Below.refl w1.heap.size w1).alloc (Nat.le_refl _) (.cells #[.int .u8 2, .int .i64 0, .int .u64 0, .string ⟨#[]⟩] 24)))
      have HO2 := Lib.hid (((only_alloc w (.cells #[.int .u8 0, .int .i64 0, .int .u64 0, .string ⟨#[]⟩] 24)).trans ho1).trans (only_alloc w1 (.cells #[.int .u8 2, .int .i64 0, .int .u64 0, .string ⟨#[]⟩] 24)))
      clear ho1 hr1 hlt1 hs1
      go_wp2_with fail
      with_reducible refine (H2.out _ HR1 HT1).mono ?_
      rintro e w2 ⟨rfl, hr2, ho2⟩
      have hb1 := HB1.out
      have hX2 := HX1.out.only ho2 (by omega)
      have hA2 := HA1.out.only ho2 (by have := HW.out; omega)
      obtain ⟨c0, c1, c2, c3⟩ := hX2.cells
      have hsoft := hX2.soft
      have hne : w.heap.size ≠ w1.heap.size := by have := HO1.out.size; simp at this; omega
      have HX3 := Lib.hid (hX2.set1 q)
      have HA3 := Lib.hid (hA2.other (o := 1) hne (.int .i64 q))
      have HR3 := Lib.hid (hr2.other (b := w1.heap.size) (o := 1) (by omega) (.int .i64 q))
      have HT3 := Lib.hid (tabs_set (b := w1.heap.size) (o := 1) (only_tabs HT1.out ho2 hB) (by omega) (.int .i64 q))
      have HO3 := Lib.hid (World.grownBy.new (b := w1.heap.size) (o := 1) (HO2.out.trans ho2) (by have := HO1.out.size; simp at this; omega) (.int .i64 q))
      clear hX2 hA2 hr2 ho2 hne hb1
      go_wp2_with fail
      with_reducible refine (HC.out _ HT3.out).mono ?_
      rintro e w3 ⟨rfl, hb3⟩
      have HB3 := Lib.hid hb3
      clear hb3
      go_wp2_with fail
      with_reducible refine (HG.out _).mono ?_
      rintro e w4 ⟨rfl, rfl⟩
      exact ⟨rfl, rfl, HO3.out.trans (Only.of_below HB3.out)⟩
    · rw [hm] at HC
      clear hm
      rw [if_pos rfl]
      go_enter Tryd.func29, Tryd.ntmps29
      go_wp2_with fail
      with_reducible refine HN.out.mono ?_
      rintro e w1 ⟨rfl, hr1, ho1⟩
      have HO1 := Lib.hid ho1
      have hlt1 := HW.out
      have hs1 := ho1.size
      have HB1 : Hid (B < w1.heap.size) := Lib.hid (by have := HA.out.lt; omega)
      have HA1 := Lib.hid ((HA.out.only ho1 (by omega)).past (.cells #[.int .u8 2, .int .i64 0, .int .u64 0, .string ⟨#[]⟩] 24))
      have HX1 := Lib.hid (Box.new w1 2 0 0 ⟨#[]⟩)
      have HT1 := Lib.hid ((only_tabs HT.out ho1 hB).keep ((Below.refl w1.heap.size w1).alloc (Nat.le_refl _) (.cells #[.int .u8 2, .int .i64 0, .int .u64 0, .string ⟨#[]⟩] 24)))
      have HR1 := Lib.hid (hr1.keep ((Below.refl w1.heap.size w1).alloc (Nat.le_refl _) (.cells #[.int .u8 2, .int .i64 0, .int .u64 0, .string ⟨#[]⟩] 24)))
      have HO2 := Lib.hid (((only_alloc w (.cells #[.int .u8 0, .int .i64 0, .int .u64 0, .string ⟨#[]⟩] 24)).trans ho1).trans (only_alloc w1 (.cells #[.int .u8 2, .int .i64 0, .int .u64 0, .string ⟨#[]⟩] 24)))
      clear ho1 hr1 hlt1 hs1
      go_wp2_with fail
      with_reducible refine (H2.out _ HR1 HT1).mono ?_
      rintro e w2 ⟨rfl, hr2, ho2⟩
      have hb1 := HB1.out
      have hX2 := HX1.out.only ho2 (by omega)
      have hA2 := HA1.out.only ho2 (by have := HW.out; omega)
      obtain ⟨c0, c1, c2, c3⟩ := hX2.cells
      have hsoft := hX2.soft
      have hne : w.heap.size ≠ w1.heap.size := by have := HO1.out.size; simp at this; omega
      have HX3 := Lib.hid (hX2.set1 q)
      have HA3 := Lib.hid (hA2.other (o := 1) hne (.int .i64 q))
      have HR3 := Lib.hid (hr2.other (b := w1.heap.size) (o := 1) (by omega) (.int .i64 q))
      have HT3 := Lib.hid (tabs_set (b := w1.heap.size) (o := 1) (only_tabs HT1.out ho2 hB) (by omega) (.int .i64 q))
      have HO3 := Lib.hid (World.grownBy.new (b := w1.heap.size) (o := 1) (HO2.out.trans ho2) (by have := HO1.out.size; simp at this; omega) (.int .i64 q))
      clear hX2 hA2 hr2 ho2 hne hb1
      go_wp2_with fail
      with_reducible refine (HC.out _ HT3.out).mono ?_
      rintro e w3 ⟨rfl, hb3⟩
      have HB3 := Lib.hid hb3
      obtain ⟨e0, e1, e2, e3⟩ := (HX3.out.below hb3).cells
      obtain ⟨d0, d1, d2, d3⟩ := (HA3.out.below hb3).cells
      have hfz := (HA3.out.below hb3).soft
      obtain ⟨hs0, hs1, hs2, hs3⟩ := reads4 (HA3.out.below hb3).four
      have hO := HO3.out.trans (Only.of_below hb3)
      have HS := Lib.hid (fun x0 x1 x2 x3 => stored (x0 := x0) (x1 := x1) (x2 := x2) (x3 := x3) hO (HR3.out.keep hb3) (Nat.le_refl _) HW.out)
      clear hb3 hO c0 c1 c2 c3
      go_wp2
      refine bodyPost_ret (v := .agg #[.int .u8 2, .int .i64 q, .int .u64 0, .string ⟨#[]⟩]) (by simp [results, Tryd.results29, go_sem, hs0, hs1, hs2, hs3]) rfl ⟨rfl, HS.out _ _ _ _⟩
set_option maxRecDepth 20000 in
theorem v_real {w : World} {B : Nat} {c : UInt8} {r : List UInt8} (h : Rd w B (c :: r)) (hl : r.length ≤ 90000) (hT : Tabs w) (hB : 1 < B) (hk : c.toNat = 3) :
    Calls Tryd.prog 29 #[.pointer (some ⟨B, 0, none⟩)] w (Outc B w (match num 8 r with | .ok v r' => checked ⟨3, 0, v, ⟨#[]⟩⟩ r' | .bad c => .bad c) vv) := by
  have hBw := h.lt
  have HW := Lib.hid hBw
  have h' : Rd (w.alloc (.cells #[.int .u8 0, .int .i64 0, .int .u64 0, .string ⟨#[]⟩] 24)) B (c :: r) := h.keep ((Below.refl _ _).alloc (Nat.le_refl _) _)
  have HN : Hid (Calls Tryd.prog 40 #[.pointer (some ⟨B, 0, none⟩), .int .i64 1] (w.alloc (.cells #[.int .u8 0, .int .i64 0, .int .u64 0, .string ⟨#[]⟩] 24)) fun e w' => e = .returned (.int .u64 3) ∧ Rd w' B r ∧ Only B (w.alloc (.cells #[.int .u8 0, .int .i64 0, .int .u64 0, .string ⟨#[]⟩] 24)) w') :=
    Lib.hid ((number_ok 1 h' (by omega) (by omega) (by simp) (by simp only [List.length_cons]; omega)).mono fun e w' ⟨a, d, o⟩ => ⟨by rw [a, num1, hk]; rfl, d, o⟩)
  have HA := Lib.hid (Box.new w 0 0 0 ⟨#[]⟩)
  have HT := Lib.hid (hT.keep ((Below.refl w.heap.size w).alloc (Nat.le_refl _) (.cells #[.int .u8 0, .int .i64 0, .int .u64 0, .string ⟨#[]⟩] 24)))
  have HG := Lib.hid (fun W => give_up 7 W)
  have H2 : Hid (∀ W, Hid (Rd W B r) → Hid (Tabs W) → Calls Tryd.prog 40 #[.pointer (some ⟨B, 0, none⟩), .int .i64 8] W (Outc B W (num 8 r) (fun v => .int .u64 (v : Int)))) := Lib.hid fun W hW hTW => number_eight hW.out (by omega)
  clear h h' hT hBw
  cases hq : num 8 r with
  | bad d =>
    rw [hq] at H2
    clear hq
    go_enter Tryd.func29, Tryd.ntmps29
    go_wp2_with fail
    with_reducible refine HN.out.mono ?_
    rintro e w1 ⟨rfl, hr1, ho1⟩
    have HO1 := Lib.hid ho1
    have hlt1 := HW.out
    have hs1 := ho1.size
    have HB1 : Hid (B < w1.heap.size) := Lib.hid (by have := HA.out.lt; omega)
    have HA1 := Lib.hid ((HA.out.only ho1 (by omega)).past (.cells #[.int .u8 3, .int .i64 0, .int .u64 0, .string ⟨#[]⟩] 24))
    have HX1 := Lib.hid (Box.new w1 3 0 0 ⟨#[]⟩)
    have HT1 := Lib.hid ((only_tabs HT.out ho1 hB).keep ((Below.refl w1.heap.size w1).alloc (Nat.le_refl _) (.cells #[.int .u8 3, .int .i64 0, .int .u64 0, .string ⟨#[]⟩] 24)))
    have HR1 := Lib.hid (hr1.keep ((Below.refl w1.heap.size w1).alloc (Nat.le_refl _) (.cells #[.int .u8 3, .int .i64 0, .int .u64 0, .string ⟨#[]⟩] 24)))
    have HO2 := Lib.hid (((only_alloc w (.cells #[.int .u8 0, .int .i64 0, .int .u64 0, .string ⟨#[]⟩] 24)).trans ho1).trans (only_alloc w1 (.cells #[.int .u8 3, .int .i64 0, .int .u64 0, .string ⟨#[]⟩] 24)))
    clear ho1 hr1 hlt1 hs1
    go_wp2_with fail
    with_reducible refine (H2.out _ HR1 HT1).mono ?_
    rintro e w2 ⟨rfl, ho2⟩
    exact ⟨rfl, rfl, HO2.out.trans ho2⟩
  | ok v r' =>
    rw [hq] at H2

    clear hq
    have HC : Hid (∀ W, Tabs W → Calls Tryd.prog 21 #[.agg #[.int .u8 3, .int .i64 0, .int .u64 (v : Int), .string ⟨#[]⟩]] W fun e w' => e = .returned (.int .i64 (erg (may ⟨3, 0, v, ⟨#[]⟩⟩))) ∧ Below W.heap.size W w') := Lib.hid fun W hW => check_any ⟨3, 0, v, ⟨#[]⟩⟩ W hW (Nat.zero_le _)
    show Calls _ _ _ _ (Outc B w (checked ⟨3, 0, v, ⟨#[]⟩⟩ r') vv)
    unfold checked
    cases hm : may ⟨3, 0, v, ⟨#[]⟩⟩
    · rw [hm] at HC
      clear hm
      rw [if_neg (by simp)]
      go_enter Tryd.func29, Tryd.ntmps29
      go_wp2_with fail
      with_reducible refine HN.out.mono ?_
      rintro e w1 ⟨rfl, hr1, ho1⟩
      have HO1 := Lib.hid ho1
      have hlt1 := HW.out
      have hs1 := ho1.size
      have HB1 : Hid (B < w1.heap.size) := Lib.hid (by have := HA.out.lt; omega)
      have HA1 := Lib.hid ((HA.out.only ho1 (by omega)).past (.cells #[.int .u8 3, .int .i64 0, .int .u64 0, .string ⟨#[]⟩] 24))
      have HX1 := Lib.hid (Box.new w1 3 0 0 ⟨#[]⟩)
      have HT1 := Lib.hid ((only_tabs HT.out ho1 hB).keep ((Below.refl w1.heap.size w1).alloc (Nat.le_refl _) (.cells #[.int .u8 3, .int .i64 0, .int .u64 0, .string ⟨#[]⟩] 24)))
      have HR1 := Lib.hid (hr1.keep ((Below.refl w1.heap.size w1).alloc (Nat.le_refl _) (.cells #[.int .u8 3, .int .i64 0, .int .u64 0, .string ⟨#[]⟩] 24)))
      have HO2 := Lib.hid (((only_alloc w (.cells #[.int .u8 0, .int .i64 0, .int .u64 0, .string ⟨#[]⟩] 24)).trans ho1).trans (only_alloc w1 (.cells #[.int .u8 3, .int .i64 0, .int .u64 0, .string ⟨#[]⟩] 24)))
      clear ho1 hr1 hlt1 hs1
      go_wp2_with fail
      with_reducible refine (H2.out _ HR1 HT1).mono ?_
      rintro e w2 ⟨rfl, hr2, ho2⟩
      have hb1 := HB1.out
      have hX2 := HX1.out.only ho2 (by omega)
      have hA2 := HA1.out.only ho2 (by have := HW.out; omega)
      obtain ⟨c0, c1, c2, c3⟩ := hX2.cells
      have hsoft := hX2.soft
      have hne : w.heap.size ≠ w1.heap.size := by have := HO1.out.size; simp at this; omega
      have HX3 := Lib.hid (hX2.set2 (v : Int))
      have HA3 := Lib.hid (hA2.other (o := 2) hne (.int .u64 (v : Int)))
      have HR3 := Lib.hid (hr2.other (b := w1.heap.size) (o := 2) (by omega) (.int .u64 (v : Int)))
      have HT3 := Lib.hid (tabs_set (b := w1.heap.size) (o := 2) (only_tabs HT1.out ho2 hB) (by omega) (.int .u64 (v : Int)))
      have HO3 := Lib.hid (World.grownBy.new (b := w1.heap.size) (o := 2) (HO2.out.trans ho2) (by have := HO1.out.size; simp at this; omega) (.int .u64 (v : Int)))
      clear hX2 hA2 hr2 ho2 hne hb1
      go_wp2_with fail
      with_reducible refine (HC.out _ HT3.out).mono ?_
      rintro e w3 ⟨rfl, hb3⟩
      have HB3 := Lib.hid hb3
      clear hb3
      go_wp2_with fail
      with_reducible refine (HG.out _).mono ?_
      rintro e w4 ⟨rfl, rfl⟩
      exact ⟨rfl, rfl, HO3.out.trans (Only.of_below HB3.out)⟩
    · rw [hm] at HC
      clear hm
      rw [if_pos rfl]
      go_enter Tryd.func29, Tryd.ntmps29
      go_wp2_with fail
      with_reducible refine HN.out.mono ?_
      rintro e w1 ⟨rfl, hr1, ho1⟩
      have HO1 := Lib.hid ho1
      have hlt1 := HW.out
      have hs1 := ho1.size
      have HB1 : Hid (B < w1.heap.size) := Lib.hid (by have := HA.out.lt; omega)
      have HA1 := Lib.hid ((HA.out.only ho1 (by omega)).past (.cells #[.int .u8 3, .int .i64 0, .int .u64 0, .string ⟨#[]⟩] 24))
      have HX1 := Lib.hid (Box.new w1 3 0 0 ⟨#[]⟩)
      have HT1 := Lib.hid ((only_tabs HT.out ho1 hB).keep ((Below.refl w1.heap.size w1).alloc (Nat.le_refl _) (.cells #[.int .u8 3, .int .i64 0, .int .u64 0, .string ⟨#[]⟩] 24)))
      have HR1 := Lib.hid (hr1.keep ((Below.refl w1.heap.size w1).alloc (Nat.le_refl _) (.cells #[.int .u8 3, .int .i64 0, .int .u64 0, .string ⟨#[]⟩] 24)))
      have HO2 := Lib.hid (((only_alloc w (.cells #[.int .u8 0, .int .i64 0, .int .u64 0, .string ⟨#[]⟩] 24)).trans ho1).trans (only_alloc w1 (.cells #[.int .u8 3, .int .i64 0, .int .u64 0, .string ⟨#[]⟩] 24)))
      clear ho1 hr1 hlt1 hs1
      go_wp2_with fail
      with_reducible refine (H2.out _ HR1 HT1).mono ?_
      rintro e w2 ⟨rfl, hr2, ho2⟩
      have hb1 := HB1.out
      have hX2 := HX1.out.only ho2 (by omega)
      have hA2 := HA1.out.only ho2 (by have := HW.out; omega)
      obtain ⟨c0, c1, c2, c3⟩ := hX2.cells
      have hsoft := hX2.soft
      have hne : w.heap.size ≠ w1.heap.size := by have := HO1.out.size; simp at this; omega
      have HX3 := Lib.hid (hX2.set2 (v : Int))
      have HA3 := Lib.hid (hA2.other (o := 2) hne (.int .u64 (v : Int)))
      have HR3 := Lib.hid (hr2.other (b := w1.heap.size) (o := 2) (by omega) (.int .u64 (v : Int)))
      have HT3 := Lib.hid (tabs_set (b := w1.heap.size) (o := 2) (only_tabs HT1.out ho2 hB) (by omega) (.int .u64 (v : Int)))
      have HO3 := Lib.hid (World.grownBy.new (b := w1.heap.size) (o := 2) (HO2.out.trans ho2) (by have := HO1.out.size; simp at this; omega) (.int .u64 (v : Int)))
      clear hX2 hA2 hr2 ho2 hne hb1
      go_wp2_with fail
      with_reducible refine (HC.out _ HT3.out).mono ?_
      rintro e w3 ⟨rfl, hb3⟩
      have HB3 := Lib.hid hb3
      obtain ⟨e0, e1, e2, e3⟩ := (HX3.out.below hb3).cells
      obtain ⟨d0, d1, d2, d3⟩ := (HA3.out.below hb3).cells
      have hfz := (HA3.out.below hb3).soft
      obtain ⟨hs0, hs1, hs2, hs3⟩ := reads4 (HA3.out.below hb3).four
      have hO := HO3.out.trans (Only.of_below hb3)
      have HS := Lib.hid (fun x0 x1 x2 x3 => stored (x0 := x0) (x1 := x1) (x2 := x2) (x3 := x3) hO (HR3.out.keep hb3) (Nat.le_refl _) HW.out)
      clear hb3 hO c0 c1 c2 c3
      go_wp2
      refine bodyPost_ret (v := .agg #[.int .u8 3, .int .i64 0, .int .u64 (v : Int), .string ⟨#[]⟩]) (by simp [results, Tryd.results29, go_sem, hs0, hs1, hs2, hs3]) rfl ⟨rfl, HS.out _ _ _ _⟩
end Go.Proofs.YthoiolihkomgmaaDoor.Rv5
