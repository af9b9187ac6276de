/- The reader's value, kind by kind (written by a program). -/
import Derived.Test.YthoiolihkomgmaaDoorRv5
namespace Go.Proofs.YthoiolihkomgmaaDoor.Rv5
open Go Go.RowKit Go.Proofs Go.Proofs.YthoiolihkomgmaaDoor.Wm Go.Proofs.YthoiolihkomgmaaDoor.Vm Go.Proofs.YthoiolihkomgmaaDoor.Vs Go.Proofs.YthoiolihkomgmaaDoor.Vc Go.Proofs.YthoiolihkomgmaaDoor.Vk Go.Proofs.YthoiolihkomgmaaDoor.Cm Go.Proofs.YthoiolihkomgmaaDoor.Sh5 Go.Proofs.YthoiolihkomgmaaDoor.Rd5 Go.Proofs.YthoiolihkomgmaaDoor.Tx5 Go.Proofs.YthoiolihkomgmaaDoor.Pv5
theorem text_len {b : List UInt8 → Nat → Bool} {l t r : List UInt8} (h : text b l = .ok t r) : t.length ≤ 255 ∧ r.length ≤ l.length := by
  cases l with
  | nil => cases h
  | cons c l =>
    have hc := c.toNat_lt
    unfold text at h
    simp only at h
    split at h
    · cases h
    split at h
    · split at h <;> cases h
    · cases h
      rw [List.length_take, List.length_drop, List.length_cons]
      omega
theorem yes_any (l : List UInt8) (n : Nat) (W : World) : Calls Tryd.prog 42 #[.string (bs l), .int .i64 (n : Int)] W fun e w' => e = .returned (.bool true) ∧ Below W.heap.size W w' := by
  go_enter Tryd.func42, Tryd.ntmps42
  go_wp2
  go_ret
  exact ⟨rfl, Below.refl _ _⟩
theorem second_t {w : World} {B : Nat} {l : List UInt8} (h : Rd w B l) (hl : l.length ≤ 100000) (hT : Tabs w) (hB : 1 < B) :
    Calls Tryd.prog 41 #[.pointer (some ⟨B, 0, none⟩), .func (.func 42) #[] #[]] w (Outc B w (text (fun _ _ => true) l) (fun t => .string (bs t))) :=
  text_any _ _ (fun _ _ => by kernel_rfl) (fun r n W _ _ _ => yes_any r n W) h hl hT hB
theorem second_s {w : World} {B : Nat} {l : List UInt8} (h : Rd w B l) (hl : l.length ≤ 100000) (hT : Tabs w) (hB : 1 < B) :
    Calls Tryd.prog 41 #[.pointer (some ⟨B, 0, none⟩), .func (.func 43) #[] #[]] w (Outc B w (text begins l) (fun t => .string (bs t))) :=
  text_any _ _ (fun _ _ => by kernel_rfl) (fun r n W hW hr hn => Lt5.begins_any r n W hW hr hn) h hl hT hB
set_option maxRecDepth 20000 in
theorem v_bytes {w : World} {B : Nat} {c : UInt8} {r : List UInt8} (h : Rd w B (c :: r)) (hl : r.length ≤ 90000) (hT : Tabs w) (hB : 1 < B) (hk : c.toNat = 4) :
    Calls Tryd.prog 29 #[.pointer (some ⟨B, 0, none⟩)] w (Outc B w (match text (fun _ _ => true) r with | .ok t r' => checked ⟨4, 0, 0, bs t⟩ r' | .bad c => .bad c) vv) := by
  have hBw := h.lt
  have HW := Lib.hid hBw
  have h' : Rd (w.alloc (.cells #[.int .u8 0, .int .i64 0, .int .u64 0, .string ⟨#[]⟩] 24)) B (c :: r) := h.keep ((Below.refl _ _).alloc (Nat.le_refl _) _)
  have HN : Hid (Calls Tryd.prog 40 #[.pointer (some ⟨B, 0, none⟩), .int .i64 1] (w.alloc (.cells #[.int .u8 0, .int .i64 0, .int .u64 0, .string ⟨#[]⟩] 24)) fun e w' => e = .returned (.int .u64 4) ∧ Rd w' B r ∧ Only B (w.alloc (.cells #[.int .u8 0, .int .i64 0, .int .u64 0, .string ⟨#[]⟩] 24)) w') :=
    Lib.hid ((number_ok 1 h' (by omega) (by omega) (by simp) (by simp only [List.length_cons]; omega)).mono fun e w' ⟨a, d, o⟩ => ⟨by rw [a, num1, hk]; rfl, d, o⟩)
  have HA := Lib.hid (Box.new w 0 0 0 ⟨#[]⟩)
  have HT := Lib.hid (hT.keep ((Below.refl w.heap.size w).alloc (Nat.le_refl _) (.cells #[.int .u8 0, .int .i64 0, .int .u64 0, .string ⟨#[]⟩] 24)))
  have HG := Lib.hid (fun W => give_up 7 W)
  have H2 : Hid (∀ W, Hid (Rd W B r) → Hid (Tabs W) → Calls Tryd.prog 41 #[.pointer (some ⟨B, 0, none⟩), .func (.func 42) #[] #[]] W (Outc B W (text (fun _ _ => true) r) (fun t => .string (bs t)))) := Lib.hid fun W hW hTW => second_t hW.out (by omega) hTW.out hB
  clear h h' hT hBw
  cases hq : text (fun _ _ => true) r with
  | bad d =>
    rw [hq] at H2
    clear hq
    go_enter Tryd.func29, Tryd.ntmps29
    go_wp2_with fail
    with_reducible refine HN.out.mono ?_
    rintro e w1 ⟨rfl, hr1, ho1⟩
    have HO1 := Lib.hid ho1
    have hlt1 := HW.out
    have hs1 := ho1.size
    have HB1 : Hid (B < w1.heap.size) := Lib.hid (by have := HA.out.lt; omega)
    have HA1 := Lib.hid ((HA.out.only ho1 (by omega)).past (.cells #[.int .u8 4, .int .i64 0, .int .u64 0, .string ⟨#[]⟩] 24))
    have HX1 := Lib.hid (Box.new w1 4 0 0 ⟨#[]⟩)
    have HT1 := Lib.hid ((only_tabs HT.out ho1 hB).keep ((Below.refl w1.heap.size w1).alloc (Nat.le_refl _) (.cells #[.int .u8 4, .int .i64 0, .int .u64 0, .string ⟨#[]⟩] 24)))
    have HR1 := Lib.hid (hr1.keep ((Below.refl w1.heap.size w1).alloc (Nat.le_refl _) (.cells #[.int .u8 4, .int .i64 0, .int .u64 0, .string ⟨#[]⟩] 24)))
    have HO2 := Lib.hid (((only_alloc w (.cells #[.int .u8 0, .int .i64 0, .int .u64 0, .string ⟨#[]⟩] 24)).trans ho1).trans (only_alloc w1 (.cells #[.int .u8 4, .int .i64 0, .int .u64 0, .string ⟨#[]⟩] 24)))
    clear ho1 hr1 hlt1 hs1
    go_wp2_with fail
    with_reducible refine (H2.out _ HR1 HT1).mono ?_
    rintro e w2 ⟨rfl, ho2⟩
    exact ⟨rfl, rfl, HO2.out.trans ho2⟩
  | ok t r' =>
    rw [hq] at H2
    have hlen := text_len hq
    obtain ⟨S, hS⟩ : ∃ S, S = bs t := ⟨_, rfl⟩
    have hsz : S.size ≤ 140737488351232 := by rw [hS, bs_size]; omega
    show Calls _ _ _ _ (Outc B w (checked ⟨4, 0, 0, bs t⟩ r') vv)
    have H2 : Hid (∀ W, Hid (Rd W B r) → Hid (Tabs W) → Calls Tryd.prog 41 #[.pointer (some ⟨B, 0, none⟩), .func (.func 42) #[] #[]] W fun e w' => e = .returned (.string S) ∧ Rd w' B r' ∧ Only B W w') := hS ▸ H2
    rw [← hS]
    clear hS hlen
    clear hq
    have HC : Hid (∀ W, Tabs W → Calls Tryd.prog 21 #[.agg #[.int .u8 4, .int .i64 0, .int .u64 0, .string S]] W fun e w' => e = .returned (.int .i64 (erg (may ⟨4, 0, 0, S⟩))) ∧ Below W.heap.size W w') := Lib.hid fun W hW => check_any ⟨4, 0, 0, S⟩ W hW hsz
    show Calls _ _ _ _ (Outc B w (checked ⟨4, 0, 0, S⟩ r') vv)
    unfold checked
    cases hm : may ⟨4, 0, 0, S⟩
    · rw [hm] at HC
      clear hm
      rw [if_neg (by simp)]
      go_enter Tryd.func29, Tryd.ntmps29
      go_wp2_with fail
      with_reducible refine HN.out.mono ?_
      rintro e w1 ⟨rfl, hr1, ho1⟩
      have HO1 := Lib.hid ho1
      have hlt1 := HW.out
      have hs1 := ho1.size
      have HB1 : Hid (B < w1.heap.size) := Lib.hid (by have := HA.out.lt; omega)
      have HA1 := Lib.hid ((HA.out.only ho1 (by omega)).past (.cells #[.int .u8 4, .int .i64 0, .int .u64 0, .string ⟨#[]⟩] 24))
      have HX1 := Lib.hid (Box.new w1 4 0 0 ⟨#[]⟩)
      have HT1 := Lib.hid ((only_tabs HT.out ho1 hB).keep ((Below.refl w1.heap.size w1).alloc (Nat.le_refl _) (.cells #[.int .u8 4, .int .i64 0, .int .u64 0, .string ⟨#[]⟩] 24)))
      have HR1 := Lib.hid (hr1.keep ((Below.refl w1.heap.size w1).alloc (Nat.le_refl _) (.cells #[.int .u8 4, .int .i64 0, .int .u64 0, .string ⟨#[]⟩] 24)))
      have HO2 := Lib.hid (((only_alloc w (.cells #[.int .u8 0, .int .i64 0, .int .u64 0, .string ⟨#[]⟩] 24)).trans ho1).trans (only_alloc w1 (.cells #[.int .u8 4, .int .i64 0, .int .u64 0, .string ⟨#[]⟩] 24)))
      clear ho1 hr1 hlt1 hs1
      go_wp2_with fail
      with_reducible refine (H2.out _ HR1 HT1).mono ?_
      rintro e w2 ⟨rfl, hr2, ho2⟩
      have hb1 := HB1.out
      have hX2 := HX1.out.only ho2 (by omega)
      have hA2 := HA1.out.only ho2 (by have := HW.out; omega)
      obtain ⟨c0, c1, c2, c3⟩ := hX2.cells
      have hsoft := hX2.soft
      have hne : w.heap.size ≠ w1.heap.size := by have := HO1.out.size; simp at this; omega
      have HX3 := Lib.hid (hX2.set3 S)
      have HA3 := Lib.hid (hA2.other (o := 3) hne (.string S))
      have HR3 := Lib.hid (hr2.other (b := w1.heap.size) (o := 3) (by omega) (.string S))
      have HT3 := Lib.hid (tabs_set (b := w1.heap.size) (o := 3) (only_tabs HT1.out ho2 hB) (by omega) (.string S))
      have HO3 := Lib.hid (World.grownBy.new (b := w1.heap.size) (o := 3) (HO2.out.trans ho2) (by have := HO1.out.size; simp at this; omega) (.string S))
      clear hX2 hA2 hr2 ho2 hne hb1
      go_wp2_with fail
      with_reducible refine (HC.out _ HT3.out).mono ?_
      rintro e w3 ⟨rfl, hb3⟩
      have HB3 := Lib.hid hb3
      clear hb3
      go_wp2_with fail
      with_reducible refine (HG.out _).mono ?_
      rintro e w4 ⟨rfl, rfl⟩
      exact ⟨rfl, rfl, HO3.out.trans (Only.of_below HB3.out)⟩
    · rw [hm] at HC
      clear hm
      rw [if_pos rfl]
      go_enter Tryd.func29, Tryd.ntmps29
      go_wp2_with fail
      with_reducible refine HN.out.mono ?_
      rintro e w1 ⟨rfl, hr1, ho1⟩
      have HO1 := Lib.hid ho1
      have hlt1 := HW.out
      have hs1 := ho1.size
      have HB1 : Hid (B < w1.heap.size) := Lib.hid (by have := HA.out.lt; omega)
      have HA1 := Lib.hid ((HA.out.only ho1 (by omega)).past (.cells #[.int .u8 4, .int .i64 0, .int .u64 0, .string ⟨#[]⟩] 24))
      have HX1 := Lib.hid (Box.new w1 4 0 0 ⟨#[]⟩)
      have HT1 := Lib.hid ((only_tabs HT.out ho1 hB).keep ((Below.refl w1.heap.size w1).alloc (Nat.le_refl _) (.cells #[.int .u8 4, .int .i64 0, .int .u64 0, .string ⟨#[]⟩] 24)))
      have HR1 := Lib.hid (hr1.keep ((Below.refl w1.heap.size w1).alloc (Nat.le_refl _) (.cells #[.int .u8 4, .int .i64 0, .int .u64 0, .string ⟨#[]⟩] 24)))
      have HO2 := Lib.hid (((only_alloc w (.cells #[.int .u8 0, .int .i64 0, .int .u64 0, .string ⟨#[]⟩] 24)).trans ho1).trans (only_alloc w1 (.cells #[.int .u8 4, .int .i64 0, .int .u64 0, .string ⟨#[]⟩] 24)))
      clear ho1 hr1 hlt1 hs1
      go_wp2_with fail
      with_reducible refine (H2.out _ HR1 HT1).mono ?_
      rintro e w2 ⟨rfl, hr2, ho2⟩
      have hb1 := HB1.out
      have hX2 := HX1.out.only ho2 (by omega)
      have hA2 := HA1.out.only ho2 (by have := HW.out; omega)
      obtain ⟨c0, c1, c2, c3⟩ := hX2.cells
      have hsoft := hX2.soft
      have hne : w.heap.size ≠ w1.heap.size := by have := HO1.out.size; simp at this; omega
      have HX3 := Lib.hid (hX2.set3 S)
      have HA3 := Lib.hid (hA2.other (o := 3) hne (.string S))
      have HR3 := Lib.hid (hr2.other (b := w1.heap.size) (o := 3) (by omega) (.string S))
      have HT3 := Lib.hid (tabs_set (b := w1.heap.size) (o := 3) (only_tabs HT1.out ho2 hB) (by omega) (.string S))
      have HO3 := Lib.hid (World.grownBy.new (b := w1.heap.size) (o := 3) (HO2.out.trans ho2) (by have := HO1.out.size; simp at this; omega) (.string S))
      clear hX2 hA2 hr2 ho2 hne hb1
      go_wp2_with fail
      with_reducible refine (HC.out _ HT3.out).mono ?_
      rintro e w3 ⟨rfl, hb3⟩
      have HB3 := Lib.hid hb3
      obtain ⟨e0, e1, e2, e3⟩ := (HX3.out.below hb3).cells
      obtain ⟨d0, d1, d2, d3⟩ := (HA3.out.below hb3).cells
      have hfz := (HA3.out.below hb3).soft
      obtain ⟨hs0, hs1, hs2, hs3⟩ := reads4 (HA3.out.below hb3).four
      have hO := HO3.out.trans (Only.of_below hb3)
      have HS := Lib.hid (fun x0 x1 x2 x3 => stored (x0 := x0) (x1 := x1) (x2 := x2) (x3 := x3) hO (HR3.out.keep hb3) (Nat.le_refl _) HW.out)
      clear hb3 hO c0 c1 c2 c3
      go_wp2
      refine bodyPost_ret (v := .agg #[.int .u8 4, .int .i64 0, .int .u64 0, .string S]) (by simp [results, Tryd.results29, go_sem, hs0, hs1, hs2, hs3]) rfl ⟨rfl, HS.out _ _ _ _⟩
set_option maxRecDepth 20000 in
theorem v_string {w : World} {B : Nat} {c : UInt8} {r : List UInt8} (h : Rd w B (c :: r)) (hl : r.length ≤ 90000) (hT : Tabs w) (hB : 1 < B) (hk : c.toNat = 5) :
    Calls Tryd.prog 29 #[.pointer (some ⟨B, 0, none⟩)] w (Outc B w (match text begins r with | .ok t r' => checked ⟨5, 0, 0, bs t⟩ r' | .bad c => .bad c) vv) := by
  have hBw := h.lt
  have HW := Lib.hid hBw
  have h' : Rd (w.alloc (.cells #[.int .u8 0, .int .i64 0, .int .u64 0, .string ⟨#[]⟩] 24)) B (c :: r) := h.keep ((Below.refl _ _).alloc (Nat.le_refl _) _)
  have HN : Hid (Calls Tryd.prog 40 #[.pointer (some ⟨B, 0, none⟩), .int .i64 1] (w.alloc (.cells #[.int .u8 0, .int .i64 0, .int .u64 0, .string ⟨#[]⟩] 24)) fun e w' => e = .returned (.int .u64 5) ∧ Rd w' B r ∧ Only B (w.alloc (.cells #[.int .u8 0, .int .i64 0, .int .u64 0, .string ⟨#[]⟩] 24)) w') :=
    Lib.hid ((number_ok 1 h' (by omega) (by omega) (by simp) (by simp only [List.length_cons]; omega)).mono fun e w' ⟨a, d, o⟩ => ⟨by rw [a, num1, hk]; rfl, d, o⟩)
  have HA := Lib.hid (Box.new w 0 0 0 ⟨#[]⟩)
  have HT := Lib.hid (hT.keep ((Below.refl w.heap.size w).alloc (Nat.le_refl _) (.cells #[.int .u8 0, .int .i64 0, .int .u64 0, .string ⟨#[]⟩] 24)))
  have HG := Lib.hid (fun W => give_up 7 W)
  have H2 : Hid (∀ W, Hid (Rd W B r) → Hid (Tabs W) → Calls Tryd.prog 41 #[.pointer (some ⟨B, 0, none⟩), .func (.func 43) #[] #[]] W (Outc B W (text begins r) (fun t => .string (bs t)))) := Lib.hid fun W hW hTW => second_s hW.out (by omega) hTW.out hB
  clear h h' hT hBw
  cases hq : text begins r with
  | bad d =>
    rw [hq] at H2
    clear hq
    go_enter Tryd.func29, Tryd.ntmps29
    go_wp2_with fail
    with_reducible refine HN.out.mono ?_
    rintro e w1 ⟨rfl, hr1, ho1⟩
    have HO1 := Lib.hid ho1
    have hlt1 := HW.out
    have hs1 := ho1.size
    have HB1 : Hid (B < w1.heap.size) := Lib.hid (by have := HA.out.lt; omega)
    have HA1 := Lib.hid ((HA.out.only ho1 (by omega)).past (.cells #[.int .u8 5, .int .i64 0, .int .u64 0, .string ⟨#[]⟩] 24))
    have HX1 := Lib.hid (Box.new w1 5 0 0 ⟨#[]⟩)
    have HT1 := Lib.hid ((only_tabs HT.out ho1 hB).keep ((Below.refl w1.heap.size w1).alloc (Nat.le_refl _) (.cells #[.int .u8 5, .int .i64 0, .int .u64 0, .string ⟨#[]⟩] 24)))
    have HR1 := Lib.hid (hr1.keep ((Below.refl w1.heap.size w1).alloc (Nat.le_refl _) (.cells #[.int .u8 5, .int .i64 0, .int .u64 0, .string ⟨#[]⟩] 24)))
    have HO2 := Lib.hid (((only_alloc w (.cells #[.int .u8 0, .int .i64 0, .int .u64 0, .string ⟨#[]⟩] 24)).trans ho1).trans (only_alloc w1 (.cells #[.int .u8 5, .int .i64 0, .int .u64 0, .string ⟨#[]⟩] 24)))
    clear ho1 hr1 hlt1 hs1
    go_wp2_with fail
    with_reducible refine (H2.out _ HR1 HT1).mono ?_
    rintro e w2 ⟨rfl, ho2⟩
    exact ⟨rfl, rfl, HO2.out.trans ho2⟩
  | ok t r' =>
    rw [hq] at H2
    have hlen := text_len hq
    obtain ⟨S, hS⟩ : ∃ S, S = bs t := ⟨_, rfl⟩
    have hsz : S.size ≤ 140737488351232 := by rw [hS, bs_size]; omega
    show Calls _ _ _ _ (Outc B w (checked ⟨5, 0, 0, bs t⟩ r') vv)
    have H2 : Hid (∀ W, Hid (Rd W B r) → Hid (Tabs W) → Calls Tryd.prog 41 #[.pointer (some ⟨B, 0, none⟩), .func (.func 43) #[] #[]] W fun e w' => e = .returned (.string S) ∧ Rd w' B r' ∧ Only B W w') := hS ▸ H2
    rw [← hS]
    clear hS hlen
    clear hq
    have HC : Hid (∀ W, Tabs W → Calls Tryd.prog 21 #[.agg #[.int .u8 5, .int .i64 0, .int .u64 0, .string S]] W fun e w' => e = .returned (.int .i64 (erg (may ⟨5, 0, 0, S⟩))) ∧ Below W.heap.size W w') := Lib.hid fun W hW => check_any ⟨5, 0, 0, S⟩ W hW hsz
    show Calls _ _ _ _ (Outc B w (checked ⟨5, 0, 0, S⟩ r') vv)
    unfold checked
    cases hm : may ⟨5, 0, 0, S⟩
    · rw [hm] at HC
      clear hm
      rw [if_neg (by simp)]
      go_enter Tryd.func29, Tryd.ntmps29
      go_wp2_with fail
      with_reducible refine HN.out.mono ?_
      rintro e w1 ⟨rfl, hr1, ho1⟩
      have HO1 := Lib.hid ho1
      have hlt1 := HW.out
      have hs1 := ho1.size
      have HB1 : Hid (B < w1.heap.size) := Lib.hid (by have := HA.out.lt; omega)
      have HA1 := Lib.hid ((HA.out.only ho1 (by omega)).past (.cells #[.int .u8 5, .int .i64 0, .int .u64 0, .string ⟨#[]⟩] 24))
      have HX1 := Lib.hid (Box.new w1 5 0 0 ⟨#[]⟩)
      have HT1 := Lib.hid ((only_tabs HT.out ho1 hB).keep ((Below.refl w1.heap.size w1).alloc (Nat.le_refl _) (.cells #[.int .u8 5, .int .i64 0, .int .u64 0, .string ⟨#[]⟩] 24)))
      have HR1 := Lib.hid (hr1.keep ((Below.refl w1.heap.size w1).alloc (Nat.le_refl _) (.cells #[.int .u8 5, .int .i64 0, .int .u64 0, .string ⟨#[]⟩] 24)))
      have HO2 := Lib.hid (((only_alloc w (.cells #[.int .u8 0, .int .i64 0, .int .u64 0, .string ⟨#[]⟩] 24)).trans ho1).trans (only_alloc w1 (.cells #[.int .u8 5, .int .i64 0, .int .u64 0, .string ⟨#[]⟩] 24)))
      clear ho1 hr1 hlt1 hs1
      go_wp2_with fail
      with_reducible refine (H2.out _ HR1 HT1).mono ?_
      rintro e w2 ⟨rfl, hr2, ho2⟩
      have hb1 := HB1.out
      have hX2 := HX1.out.only ho2 (by omega)
      have hA2 := HA1.out.only ho2 (by have := HW.out; omega)
      obtain ⟨c0, c1, c2, c3⟩ := hX2.cells
      have hsoft := hX2.soft
      have hne : w.heap.size ≠ w1.heap.size := by have := HO1.out.size; simp at this; omega
      have HX3 := Lib.hid (hX2.set3 S)
      have HA3 := Lib.hid (hA2.other (o := 3) hne (.string S))
      have HR3 := Lib.hid (hr2.other (b := w1.heap.size) (o := 3) (by omega) (.string S))
      have HT3 := Lib.hid (tabs_set (b := w1.heap.size) (o := 3) (only_tabs HT1.out ho2 hB) (by omega) (.string S))
      have HO3 := Lib.hid (World.grownBy.new (b := w1.heap.size) (o := 3) (HO2.out.trans ho2) (by have := HO1.out.size; simp at this; omega) (.string S))
      clear hX2 hA2 hr2 ho2 hne hb1
      go_wp2_with fail
      with_reducible refine (HC.out _ HT3.out).mono ?_
      rintro e w3 ⟨rfl, hb3⟩
      have HB3 := Lib.hid hb3
      clear hb3
      go_wp2_with fail
      with_reducible refine (HG.out _).mono ?_
      rintro e w4 ⟨rfl, rfl⟩
      exact ⟨rfl, rfl, HO3.out.trans (Only.of_below HB3.out)⟩
    · rw [hm] at HC
      clear hm
      rw [if_pos rfl]
      go_enter Tryd.func29, Tryd.ntmps29
      go_wp2_with fail
      with_reducible refine HN.out.mono ?_
      rintro e w1 ⟨rfl, hr1, ho1⟩
      have HO1 := Lib.hid ho1
      have hlt1 := HW.out
      have hs1 := ho1.size
      have HB1 : Hid (B < w1.heap.size) := Lib.hid (by have := HA.out.lt; omega)
      have HA1 := Lib.hid ((HA.out.only ho1 (by omega)).past (.cells #[.int .u8 5, .int .i64 0, .int .u64 0, .string ⟨#[]⟩] 24))
      have HX1 := Lib.hid (Box.new w1 5 0 0 ⟨#[]⟩)
      have HT1 := Lib.hid ((only_tabs HT.out ho1 hB).keep ((Below.refl w1.heap.size w1).alloc (Nat.le_refl _) (.cells #[.int .u8 5, .int .i64 0, .int .u64 0, .string ⟨#[]⟩] 24)))
      have HR1 := Lib.hid (hr1.keep ((Below.refl w1.heap.size w1).alloc (Nat.le_refl _) (.cells #[.int .u8 5, .int .i64 0, .int .u64 0, .string ⟨#[]⟩] 24)))
      have HO2 := Lib.hid (((only_alloc w (.cells #[.int .u8 0, .int .i64 0, .int .u64 0, .string ⟨#[]⟩] 24)).trans ho1).trans (only_alloc w1 (.cells #[.int .u8 5, .int .i64 0, .int .u64 0, .string ⟨#[]⟩] 24)))
      clear ho1 hr1 hlt1 hs1
      go_wp2_with fail
      with_reducible refine (H2.out _ HR1 HT1).mono ?_
      rintro e w2 ⟨rfl, hr2, ho2⟩
      have hb1 := HB1.out
      have hX2 := HX1.out.only ho2 (by omega)
      have hA2 := HA1.out.only ho2 (by have := HW.out; omega)
      obtain ⟨c0, c1, c2, c3⟩ := hX2.cells
      have hsoft := hX2.soft
      have hne : w.heap.size ≠ w1.heap.size := by have := HO1.out.size; simp at this; omega
      have HX3 := Lib.hid (hX2.set3 S)
      have HA3 := Lib.hid (hA2.other (o := 3) hne (.string S))
      have HR3 := Lib.hid (hr2.other (b := w1.heap.size) (o := 3) (by omega) (.string S))
      have HT3 := Lib.hid (tabs_set (b := w1.heap.size) (o := 3) (only_tabs HT1.out ho2 hB) (by omega) (.string S))
      have HO3 := Lib.hid (World.grownBy.new (b := w1.heap.size) (o := 3) (HO2.out.trans ho2) (by have := HO1.out.size; simp at this; omega) (.string S))
      clear hX2 hA2 hr2 ho2 hne hb1
      go_wp2_with fail
      with_reducible refine (HC.out _ HT3.out).mono ?_
      rintro e w3 ⟨rfl, hb3⟩
      have HB3 := Lib.hid hb3
      obtain ⟨e0, e1, e2, e3⟩ := (HX3.out.below hb3).cells
      obtain ⟨d0, d1, d2, d3⟩ := (HA3.out.below hb3).cells
      have hfz := (HA3.out.below hb3).soft
      obtain ⟨hs0, hs1, hs2, hs3⟩ := reads4 (HA3.out.below hb3).four
      have hO := HO3.out.trans (Only.of_below hb3)
      have HS := Lib.hid (fun x0 x1 x2 x3 => stored (x0 := x0) (x1 := x1) (x2 := x2) (x3 := x3) hO (HR3.out.keep hb3) (Nat.le_refl _) HW.out)
      clear hb3 hO c0 c1 c2 c3
      go_wp2
      refine bodyPost_ret (v := .agg #[.int .u8 5, .int .i64 0, .int .u64 0, .string S]) (by simp [results, Tryd.results29, go_sem, hs0, hs1, hs2, hs3]) rfl ⟨rfl, HS.out _ _ _ _⟩
end Go.Proofs.YthoiolihkomgmaaDoor.Rv5
