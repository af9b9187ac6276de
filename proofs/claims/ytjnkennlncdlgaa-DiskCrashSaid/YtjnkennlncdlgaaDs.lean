/- The walk of DiskStill. -/
import Derived.Test.YtjnkennlncdlgaaHs
namespace Go.Proofs.Ytjnkennlncdlgaa.Ds
open Go Go.RowKit Go.Lib Go.Proofs.Ytjnkennlncdlgaa.Dh Go.Proofs.Ytjnkennlncdlgaa.Fm Go.Proofs.Ytjnkennlncdlgaa.Dk Go.Proofs.Ytjnkennlncdlgaa.St Go.Proofs.Ytjnkennlncdlgaa.Ap Go.Proofs.Ytjnkennlncdlgaa.Sy Go.Proofs.Ytjnkennlncdlgaa.Rd Go.Proofs.Ytjnkennlncdlgaa.Dn Go.Proofs.Ytjnkennlncdlgaa.Hs
theorem cells_keep {w v : World} {b o : Nat} {l : List Sx} (hc : Cells w b o l) (h : Below w.heap.size w v) : Cells v b o l := by
  intro k hk
  obtain ⟨c0, c1, c2, c3, c4⟩ := hc k hk
  have hb : b < w.heap.size := by
    rcases Nat.lt_or_ge b w.heap.size with h' | h'
    · exact h'
    · have e : w.heap[b]? = none := by simp; omega
      simp [World.cell?, e] at c0
  have e : ∀ a : Addr, a.block = b → v.cell? a = w.cell? a := fun a ha => h.cell (p := a) (by rw [ha]; exact hb)
  exact ⟨(e _ rfl).trans c0, (e _ rfl).trans c1, (e _ rfl).trans c2, (e _ rfl).trans c3, (e _ rfl).trans c4⟩
/-- The state in the midst of the script: F is the fuse, c calls were done. -/
structure Inv (D : St) (F c k : Nat) : Prop where
  fuse : D.fuse = (F : Int) - c
  pos : 0 ≤ D.fuse
  still : D.still = true → D.fuse = 0
  loose : D.loose.length ≤ k
theorem Inv.le {D : St} {F c k : Nat} (h : Inv D F c k) : c ≤ F := by have := h.fuse; have := h.pos; omega
theorem Inv.skip {D : St} {F c k : Nat} (h : Inv D F c k) : Inv D F c (k + 1) := ⟨h.fuse, h.pos, h.still, by have := h.loose; omega⟩
theorem Inv.done {D D' : St} {F c k : Nat} (h : Inv D F c k) (r : Res D 0 D') : Inv D' F (c + 1) (k + 1) := by
  rcases r with ⟨_, h1, h2, h3, h4⟩ | ⟨h0, _⟩
  · have hf := h.fuse
    have hp := h.pos
    rw [if_neg (by omega)] at h2
    exact ⟨by omega, by omega, fun x => (by rw [h3] at x; cases x), by have := h.loose; omega⟩
  · exact absurd rfl h0
theorem Inv.fail {D D' : St} {F c k : Nat} {e : Int} (h : Inv D F c k) (r : Res D e D') (he : e ≠ 0) : Inv D' F c (k + 1) ∧ D'.now = D.now ∧ D'.loose = D.loose ∧ (e = 20 → c = F) := by
  rcases r with ⟨h0, _⟩ | ⟨_, _, _, h1, h2, h3, h4, h5⟩
  · exact absurd h0 he
  · refine ⟨⟨by rw [h3]; exact h.fuse, by rw [h3]; exact h.pos, fun x => ?_, by rw [h2]; have := h.loose; omega⟩, h1, h2, fun x => ?_⟩
    · rw [h3]
      rcases h5 x with y | y
      · exact y
      · exact h.still y
    · have hf := h.fuse
      rcases h4 x with y | y
      · omega
      · have := h.still y; omega
theorem res_bound {D D' : St} {e : Int} (r : Res D e D') : 0 ≤ e ∧ e ≤ 20 := by
  rcases r with ⟨h, _⟩ | ⟨_, h1, h2, _⟩
  · omega
  · omega
theorem read_still (D : St) (k : ByteArray) (h : (stRead D k 0 0).2 = 20) : D.still = true := by
  by_cases hs : D.still = true
  · exact hs
  · exfalso
    unfold stRead at h
    rw [if_neg hs] at h
    split at h
    · cases h
    · split at h
      · cases h
      · split at h <;> cases h
theorem read_bound (D : St) (k : ByteArray) : 0 ≤ (stRead D k 0 0).2 ∧ (stRead D k 0 0).2 ≤ 20 := by
  unfold stRead
  split
  · exact ⟨by decide, by decide⟩
  · split
    · exact ⟨by decide, by decide⟩
    · split
      · exact ⟨by decide, by decide⟩
      · split
        · exact ⟨by decide, by decide⟩
        · exact ⟨Int.le_refl _, (by decide : (0 : Int) ≤ 20)⟩
/-- Behind the script: a Read, another fuse, a Read. -/
theorem tail_of {S : Nat → Prop} {w1 wr : World} {p : Nat} {D : St} (h : To S w1 wr p D) :
    ∃ (rs : List UInt8) (re : Int) (rs2 : List UInt8) (re2 : Int) (D2 : St), (re = 20 → D.still = true) ∧ (0 ≤ re ∧ re ≤ 20) ∧ (re2 ≠ 20 ∧ 0 ≤ re2 ∧ re2 ≤ 20) ∧
      (Calls Try.prog 18 #[.pointer (some ⟨p, 0, none⟩), .string Av.sa, .int .i64 0, .int .i64 0] wr fun e w' => e = .returned (.tuple #[.string ⟨rs.toArray⟩, .int .i64 re]) ∧ To S w1 w' p D) ∧
      (∀ w', To S w1 w' p D → Calls Try.prog 16 #[.pointer (some ⟨p, 0, none⟩), .int .i64 (-1)] w' fun e w'' => e = .returned (.int .i64 0) ∧ To S w1 w'' p D2) ∧
      (∀ w', To S w1 w' p D2 → Calls Try.prog 18 #[.pointer (some ⟨p, 0, none⟩), .string Av.sa, .int .i64 0, .int .i64 0] w' fun e w'' => e = .returned (.tuple #[.string ⟨rs2.toArray⟩, .int .i64 re2]) ∧ To S w1 w'' p D2) := by
  refine ⟨(stRead D Av.sa 0 0).1, (stRead D Av.sa 0 0).2, (stRead (stFuse D (-1)) Av.sa 0 0).1, (stRead (stFuse D (-1)) Av.sa 0 0).2, stFuse D (-1), read_still D _, read_bound D _, ⟨fun h => ?_, read_bound _ _⟩, ?_, ?_, ?_⟩
  · have := read_still _ _ h
    unfold stFuse at this
    rw [if_pos (by decide)] at this
    cases this
  · refine (read_any h.2 Av.sa 0 0 (by decide) (by decide) (by decide)).mono ?_
    rintro e w' ⟨rfl, k⟩
    exact ⟨rfl, h.trans k⟩
  · intro w' h'
    refine (fuse_any h'.2 (-1) (by decide)).mono ?_
    rintro e w'' ⟨rfl, k⟩
    exact ⟨rfl, h'.trans k⟩
  · intro w' h'
    refine (read_any h'.2 Av.sa 0 0 (by decide) (by decide) (by decide)).mono ?_
    rintro e w'' ⟨rfl, k⟩
    exact ⟨rfl, h'.trans k⟩
theorem alloc_to {S : Nat → Prop} {a w : World} {p : Nat} {D : St} (h : To S a w p D) (o : Obj) : To S a (w.alloc o) p D := h.trans (To.alloc h.2 o)
set_option maxRecDepth 40000 in
set_option maxHeartbeats 16000000 in
theorem walk_some (w : World) (b o cap F : Nat) (l : List Sx) (hc : Cells w b o l) (hok : ∀ s ∈ l, s.ok) (hlen : l.length ≤ 140737488351232) (hF : F ≤ 255) :
    Calls Try.prog 4 #[.slice (some ⟨b, o, none⟩) l.length cap, .int .u8 F] w fun e w' => e = .returned (.bool true) ∧ Below w.heap.size w w' := by
  have HHv := Lib.hid (heavy_some w b o cap l hc hok hlen)
  have HCe := Lib.hid hc
  have HOk := Lib.hid hok
  clear hc hok
  go_enter Try.func4, Try.ntmps4
  go_wp2_with fail
  refine HHv.out.mono ?_
  rintro e w0 ⟨⟨r, rfl, hr⟩, n0, rfl⟩
  have HHr := Lib.hid hr
  clear hr
  cases r with
  | true =>
    go_wp2_with fail
    refine (Av.alive_any _).mono ?_
    rintro e w2 ⟨rfl, h2⟩
    have H2 := Lib.hid h2
    clear h2
    go_wp2
    go_ret
    exact ⟨rfl, ⟨H2.out.os, H2.out.tape, H2.out.output, H2.out.size, H2.out.block⟩⟩
  | false =>
    obtain ⟨hl, ht⟩ := HHr.out rfl
    go_wp2_with fail
    refine (Nw.new_any _ 131072 (by decide) (by decide)).mono ?_
    rintro e w1 ⟨p, rfl, hb1, hf1⟩
    obtain ⟨S, hS⟩ : ∃ S : Nat → Prop, S = fun x => (w.drewN n0).heap.size ≤ x ∧ x < w1.heap.size := ⟨_, rfl⟩
    rw [← hS] at hf1
    have HB : Hid (Below w.heap.size w w1) := Lib.hid ⟨hb1.os, hb1.tape, hb1.output, hb1.size, hb1.block⟩
    have HS : Hid (∀ x, S x → w.heap.size ≤ x) := Lib.hid fun x hx => by rw [hS] at hx; exact hx.1
    have hfu := fuse_any hf1 F (by omega)
    have hst : stFuse ⟨131072, [], [], [], -1, false⟩ (F : Int) = ⟨131072, [], [], [], F, false⟩ := by unfold stFuse; rw [if_neg (by omega)]
    rw [hst] at hfu
    have HFu := Lib.hid hfu
    have HSz := Lib.hid hb1.size
    clear hb1 hf1 hfu hst hS
    go_wp2_with fail
    refine HFu.out.mono ?_
    rintro e w2 ⟨rfl, h2⟩
    have HT2 := Lib.hid h2
    clear h2
    go_wp2
    go_loopw [7, 8, 9, 10, 11, 36, 37, 38, 39, 40, 41, 42, 43, 44, 45, 46, 47, 48, 49, 50, 51, 52, 53, 54, 55, 56, 57, 58, 59, 60, 61, 62, 63, 64, 65, 66, 67, 68, 69, 70, 71, 72, 73, 74, 75, 76, 77, 78, 79, 80, 81, 82, 83, 84, 85, 86, 87, 88, 89, 90, 91, 92, 93, 94, 95, 96, 97, 98, 99, 100, 101, 102, 103, 104, 105, 106, 107] (fun s i _ _ _ _ _ _ _ _ _ _ _ _ _ _ _ _ _ _ _ _ _ _ _ _ _ _ _ _ _ _ _ _ _ _ _ _ _ _ _ _ _ _ _ _ _ _ _ _ _ _ _ _ _ _ _ _ _ _ _ _ _ _ _ _ _ _ _ _ _ _ _ _ _ _ _ wr => ∃ (k c : Nat) (D : St), k ≤ l.length ∧ i = .int .i64 k ∧ s = .int .i64 c ∧ Hid (To S w1 wr p D) ∧ Hid (Inv D F c k)) (fun _ i _ _ _ _ _ _ _ _ _ _ _ _ _ _ _ _ _ _ _ _ _ _ _ _ _ _ _ _ _ _ _ _ _ _ _ _ _ _ _ _ _ _ _ _ _ _ _ _ _ _ _ _ _ _ _ _ _ _ _ _ _ _ _ _ _ _ _ _ _ _ _ _ _ _ _ _ => l.length - (intOf i).toNat)
    case atStart => exact ⟨0, 0, _, by omega, rfl, rfl, HT2, Lib.hid ⟨by show (F : Int) = F - ((0 : Nat) : Int); omega, by show (0 : Int) ≤ F; omega, fun h => (by cases h), (by simp)⟩⟩
    case round =>
      obtain ⟨k, c, D, hk, rfl, rfl, HTo, HInv⟩ := hrel
      have hcF := Inv.le HInv.out
      by_cases hlt : k < l.length
      · obtain ⟨s, hs⟩ : ∃ s, s = l[k] := ⟨_, rfl⟩
        have hmem : s ∈ l := by rw [hs]; exact List.getElem_mem hlt
        have hso := HOk.out s hmem
        have hbw : Below w.heap.size w wr := Av.below_of HB.out HS.out HTo.out
        have hba : Below w.heap.size w (wr.alloc (stepO s.o s.x s.y s.n s.m)) := hbw.alloc (by have := hbw.size; omega) _
        obtain ⟨c0, c1, c2, c3, c4⟩ := cells_keep HCe.out hbw k hlt
        obtain ⟨d0, d1, d2, d3, d4⟩ := cells_keep HCe.out hba k hlt
        rw [← hs] at c0 c1 c2 c3 c4 d0 d1 d2 d3 d4
        have hta := alloc_to HTo.out (stepO s.o s.x s.y s.n s.m)
        have hfa := hta.2
        have HU1 := Lib.hid (used_any hfa)
        have HL1 := Lib.hid (loose_any hfa (by have := HInv.out.loose; omega))
        have HCh0 := changes_any wr s
        clear hbw hba hs
        by_cases hch : 1 ≤ s.o ∧ s.o ≤ 4
        · have o5 : (s.o == 5) = false := by simp; omega
          rw [decide_eq_true hch.1, decide_eq_true hch.2] at HCh0
          have HCh := Lib.hid HCh0
          clear HCh0 hch
          have hres := res_call D s
          obtain ⟨ee, hee⟩ : ∃ ee, ee = (stCall D s).1 := ⟨_, rfl⟩
          obtain ⟨D', hD'⟩ : ∃ D', D' = (stCall D s).2 := ⟨_, rfl⟩
          have hcon := call_any hfa s hso (by have := tot_mem s l hmem; omega) (by have := HInv.out.loose; omega)
          rw [← hee, ← hD'] at hcon hres
          have hbd := res_bound hres
          have hb1 := hbd.1
          have hb2 := hbd.2
          have HOp0 : Calls Try.prog 10 #[.pointer (some ⟨p, 0, none⟩), stepV s.o s.x s.y s.n s.m] (wr.alloc (stepO s.o s.x s.y s.n s.m)) fun e w3 => e = .returned (.int .i64 ee) ∧ To S w1 w3 p D' ∧
              (Calls Try.prog 17 #[.pointer (some ⟨p, 0, none⟩)] w3 fun e w' => e = .returned (.int .i64 (used D'.now)) ∧ w' = w3) ∧
              (Calls Try.prog 12 #[.pointer (some ⟨p, 0, none⟩)] w3 fun e w' => e = .returned (.int .i64 D'.loose.length) ∧ w' = w3) := by
            refine hcon.mono ?_
            rintro e w3 ⟨rfl, h3⟩
            refine ⟨rfl, hta.trans h3, used_any h3.2, loose_any h3.2 ?_⟩
            rcases hres with ⟨_, _, _, _, hx⟩ | ⟨_, _, _, _, hx, _⟩
            · have := HInv.out.loose; omega
            · rw [hx]; have := HInv.out.loose; omega
          clear hcon hee hD' hbd
          by_cases h0 : ee = 0
          · subst h0
            have HOp := Lib.hid HOp0
            have HI2 := Lib.hid (Inv.done HInv.out hres)
            have hle := Inv.le HI2.out
            clear HOp0 hres hb1 hb2 hfa hta
            go_wp2_with (first
              | (go_at_call 9; refine HCh.out.mono ?_; rintro e wx ⟨rfl, rfl⟩)
              | (go_at_call 17; refine HU1.out.mono ?_; rintro e wx ⟨rfl, rfl⟩)
              | (go_at_call 12; refine HL1.out.mono ?_; rintro e wx ⟨rfl, rfl⟩)
              | (go_at_call 10; refine HOp.out.mono ?_; rintro e w3 ⟨rfl, ht3, hu3, hl3⟩; have HT3 := Lib.hid ht3; have HU3 := Lib.hid hu3; have HL3 := Lib.hid hl3; clear ht3 hu3 hl3)
              | (go_at_call 17; refine HU3.out.mono ?_; rintro e wx ⟨rfl, rfl⟩)
              | (go_at_call 12; refine HL3.out.mono ?_; rintro e wx ⟨rfl, rfl⟩))
            all_goals
              go_roundw
              case rel => exact ⟨k + 1, c + 1, D', by omega, by go_num, by first | rfl | go_num, HT3, Lib.hid HI2.out⟩
              case measure => simp [intOf]; omega
          · obtain ⟨hI, hnow, hloose, h20⟩ := Inv.fail HInv.out hres h0
            have HI2 := Lib.hid hI
            rw [hnow, hloose] at HOp0
            have HOp := Lib.hid HOp0
            have hle := Inv.le hI
            have e0 : (ee == 0) = false := by simpa using h0
            clear HOp0 hres hI hnow hloose hfa hta h0
            by_cases h2 : ee = 20
            · obtain rfl := h20 h2
              subst h2
              clear h20 hb1 hb2
              go_wp2_with (first
              | (go_at_call 9; refine HCh.out.mono ?_; rintro e wx ⟨rfl, rfl⟩)
              | (go_at_call 17; refine HU1.out.mono ?_; rintro e wx ⟨rfl, rfl⟩)
              | (go_at_call 12; refine HL1.out.mono ?_; rintro e wx ⟨rfl, rfl⟩)
              | (go_at_call 10; refine HOp.out.mono ?_; rintro e w3 ⟨rfl, ht3, hu3, hl3⟩; have HT3 := Lib.hid ht3; have HU3 := Lib.hid hu3; have HL3 := Lib.hid hl3; clear ht3 hu3 hl3)
              | (go_at_call 17; refine HU3.out.mono ?_; rintro e wx ⟨rfl, rfl⟩)
              | (go_at_call 12; refine HL3.out.mono ?_; rintro e wx ⟨rfl, rfl⟩))
              all_goals
                go_roundw
                case rel => exact ⟨k + 1, c, D', by omega, by go_num, by first | rfl | go_num, HT3, Lib.hid HI2.out⟩
                case measure => simp [intOf]; omega
            · have e20 : (ee == 20) = false := by simpa using h2
              clear h20
              go_wp2_with (first
              | (go_at_call 9; refine HCh.out.mono ?_; rintro e wx ⟨rfl, rfl⟩)
              | (go_at_call 17; refine HU1.out.mono ?_; rintro e wx ⟨rfl, rfl⟩)
              | (go_at_call 12; refine HL1.out.mono ?_; rintro e wx ⟨rfl, rfl⟩)
              | (go_at_call 10; refine HOp.out.mono ?_; rintro e w3 ⟨rfl, ht3, hu3, hl3⟩; have HT3 := Lib.hid ht3; have HU3 := Lib.hid hu3; have HL3 := Lib.hid hl3; clear ht3 hu3 hl3)
              | (go_at_call 17; refine HU3.out.mono ?_; rintro e wx ⟨rfl, rfl⟩)
              | (go_at_call 12; refine HL3.out.mono ?_; rintro e wx ⟨rfl, rfl⟩))
              all_goals
                go_roundw
                case rel => exact ⟨k + 1, c, D', by omega, by go_num, by first | rfl | go_num, HT3, Lib.hid HI2.out⟩
                case measure => simp [intOf]; omega
        · have hcd : (decide (1 ≤ s.o) && decide (s.o ≤ 4)) = false := by
            rw [Bool.and_eq_false_iff, decide_eq_false_iff_not, decide_eq_false_iff_not]; omega
          rw [hcd] at HCh0
          have HCh := Lib.hid HCh0
          clear HCh0 hcd hch
          by_cases h5 : s.o = 5
          · have o5 : (s.o == 5) = true := by simp [h5]
            clear h5
            have hres := res_sync D
            obtain ⟨ee, hee⟩ : ∃ ee, ee = (stSync D).1 := ⟨_, rfl⟩
            obtain ⟨D', hD'⟩ : ∃ D', D' = (stSync D).2 := ⟨_, rfl⟩
            have hcon := sync_any hfa (by have := HInv.out.loose; omega)
            rw [← hee, ← hD'] at hcon hres
            have hbd := res_bound hres
            have hb1 := hbd.1
            have hb2 := hbd.2
            have HOp0 : Calls Try.prog 11 #[.pointer (some ⟨p, 0, none⟩)] (wr.alloc (stepO s.o s.x s.y s.n s.m)) fun e w3 => e = .returned (.int .i64 ee) ∧ To S w1 w3 p D' ∧
                (Calls Try.prog 17 #[.pointer (some ⟨p, 0, none⟩)] w3 fun e w' => e = .returned (.int .i64 (used D'.now)) ∧ w' = w3) ∧
                (Calls Try.prog 12 #[.pointer (some ⟨p, 0, none⟩)] w3 fun e w' => e = .returned (.int .i64 D'.loose.length) ∧ w' = w3) := by
              refine hcon.mono ?_
              rintro e w3 ⟨rfl, h3⟩
              refine ⟨rfl, hta.trans h3, used_any h3.2, loose_any h3.2 ?_⟩
              rcases hres with ⟨_, _, _, _, hx⟩ | ⟨_, _, _, _, hx, _⟩
              · have := HInv.out.loose; omega
              · rw [hx]; have := HInv.out.loose; omega
            clear hcon hee hD' hbd
            by_cases h0 : ee = 0
            · subst h0
              have HOp := Lib.hid HOp0
              have HI2 := Lib.hid (Inv.done HInv.out hres)
              have hle := Inv.le HI2.out
              clear HOp0 hres hb1 hb2 hfa hta
              go_wp2_with (first
                | (go_at_call 9; refine HCh.out.mono ?_; rintro e wx ⟨rfl, rfl⟩)
                | (go_at_call 17; refine HU1.out.mono ?_; rintro e wx ⟨rfl, rfl⟩)
                | (go_at_call 12; refine HL1.out.mono ?_; rintro e wx ⟨rfl, rfl⟩)
                | (go_at_call 11; refine HOp.out.mono ?_; rintro e w3 ⟨rfl, ht3, hu3, hl3⟩; have HT3 := Lib.hid ht3; have HU3 := Lib.hid hu3; have HL3 := Lib.hid hl3; clear ht3 hu3 hl3)
                | (go_at_call 17; refine HU3.out.mono ?_; rintro e wx ⟨rfl, rfl⟩)
                | (go_at_call 12; refine HL3.out.mono ?_; rintro e wx ⟨rfl, rfl⟩))
              all_goals
                go_roundw
                case rel => exact ⟨k + 1, c + 1, D', by omega, by go_num, by first | rfl | go_num, HT3, Lib.hid HI2.out⟩
                case measure => simp [intOf]; omega
            · obtain ⟨hI, hnow, hloose, h20⟩ := Inv.fail HInv.out hres h0
              have HI2 := Lib.hid hI
              rw [hnow, hloose] at HOp0
              have HOp := Lib.hid HOp0
              have hle := Inv.le hI
              have e0 : (ee == 0) = false := by simpa using h0
              clear HOp0 hres hI hnow hloose hfa hta h0
              by_cases h2 : ee = 20
              · obtain rfl := h20 h2
                subst h2
                clear h20 hb1 hb2
                go_wp2_with (first
                | (go_at_call 9; refine HCh.out.mono ?_; rintro e wx ⟨rfl, rfl⟩)
                | (go_at_call 17; refine HU1.out.mono ?_; rintro e wx ⟨rfl, rfl⟩)
                | (go_at_call 12; refine HL1.out.mono ?_; rintro e wx ⟨rfl, rfl⟩)
                | (go_at_call 11; refine HOp.out.mono ?_; rintro e w3 ⟨rfl, ht3, hu3, hl3⟩; have HT3 := Lib.hid ht3; have HU3 := Lib.hid hu3; have HL3 := Lib.hid hl3; clear ht3 hu3 hl3)
                | (go_at_call 17; refine HU3.out.mono ?_; rintro e wx ⟨rfl, rfl⟩)
                | (go_at_call 12; refine HL3.out.mono ?_; rintro e wx ⟨rfl, rfl⟩))
                all_goals
                  go_roundw
                  case rel => exact ⟨k + 1, c, D', by omega, by go_num, by first | rfl | go_num, HT3, Lib.hid HI2.out⟩
                  case measure => simp [intOf]; omega
              · have e20 : (ee == 20) = false := by simpa using h2
                clear h20
                go_wp2_with (first
                | (go_at_call 9; refine HCh.out.mono ?_; rintro e wx ⟨rfl, rfl⟩)
                | (go_at_call 17; refine HU1.out.mono ?_; rintro e wx ⟨rfl, rfl⟩)
                | (go_at_call 12; refine HL1.out.mono ?_; rintro e wx ⟨rfl, rfl⟩)
                | (go_at_call 11; refine HOp.out.mono ?_; rintro e w3 ⟨rfl, ht3, hu3, hl3⟩; have HT3 := Lib.hid ht3; have HU3 := Lib.hid hu3; have HL3 := Lib.hid hl3; clear ht3 hu3 hl3)
                | (go_at_call 17; refine HU3.out.mono ?_; rintro e wx ⟨rfl, rfl⟩)
                | (go_at_call 12; refine HL3.out.mono ?_; rintro e wx ⟨rfl, rfl⟩))
                all_goals
                  go_roundw
                  case rel => exact ⟨k + 1, c, D', by omega, by go_num, by first | rfl | go_num, HT3, Lib.hid HI2.out⟩
                  case measure => simp [intOf]; omega
          · have o5 : (s.o == 5) = false := by simpa using h5
            clear h5 hfa
            have HTa := Lib.hid hta
            have HI2 := Lib.hid (Inv.skip HInv.out)
            clear hta
            go_wp2_with (go_at_call 9; refine HCh.out.mono ?_; rintro e wx ⟨rfl, rfl⟩)
            go_roundw
            case rel => exact ⟨k + 1, c, D, by omega, by go_num, rfl, HTa, HI2⟩
            case measure => simp [intOf]; omega
      · have : k = l.length := by omega
        subst this
        obtain ⟨rs, re, rs2, re2, D2, q1, q2, q3, r1, r2, r3⟩ := tail_of HTo.out
        have HR1 := Lib.hid r1
        have HF1 := Lib.hid r2
        have HR2 := Lib.hid r3
        have e2 : (re2 == 20) = false := by simpa using q3.1
        have n2 : ¬ re2 = 20 := q3.1
        have q21 := q2.1
        have q22 := q2.2
        have q31 := q3.2.1
        have q32 := q3.2.2
        clear r1 r2 r3 q2 q3
        by_cases h20 : re = 20
        · obtain rfl : c = F := by
            have h1 := HInv.out.still (q1 h20)
            have h2 := HInv.out.fuse
            omega
          subst h20
          clear q1 q21 q22
          go_wp2_with fail
          refine HR1.out.mono ?_
          rintro e w3 ⟨rfl, h3⟩
          have H3 := Lib.hid h3
          clear h3
          go_wp2_with fail
          refine (HF1.out _ H3.out).mono ?_
          rintro e w4 ⟨rfl, h4⟩
          have H4 := Lib.hid h4
          clear h4
          go_wp2_with fail
          refine (HR2.out _ H4.out).mono ?_
          rintro e w5 ⟨rfl, h5⟩
          have H5 := Lib.hid h5
          clear h5
          go_wp2_with fail
          refine (Av.alive_any _).mono ?_
          rintro e w6 ⟨rfl, h6⟩
          have H6 := Lib.hid h6
          clear h6
          go_wp2
          go_ret
          exact ⟨congrArg (fun b => Ending.returned (Value.bool b)) (by simpa using n2 : (re2 != 20) = true), (Av.below_of HB.out HS.out H5.out).trans (H6.out.mono (by have := HB.out.size; have := H5.out.1.size; omega))⟩
        · have e1 : (re == 20) = false := by simpa using h20
          clear q1
          go_wp2_with fail
          refine HR1.out.mono ?_
          rintro e w3 ⟨rfl, h3⟩
          have H3 := Lib.hid h3
          clear h3
          go_wp2_with fail
          refine (HF1.out _ H3.out).mono ?_
          rintro e w4 ⟨rfl, h4⟩
          have H4 := Lib.hid h4
          clear h4
          go_wp2_with fail
          refine (HR2.out _ H4.out).mono ?_
          rintro e w5 ⟨rfl, h5⟩
          have H5 := Lib.hid h5
          clear h5
          go_wp2_with fail
          refine (Av.alive_any _).mono ?_
          rintro e w6 ⟨rfl, h6⟩
          have H6 := Lib.hid h6
          clear h6
          go_wp2
          go_ret
          exact ⟨congrArg (fun b => Ending.returned (Value.bool b)) (by simpa using n2 : (re2 != 20) = true), (Av.below_of HB.out HS.out H5.out).trans (H6.out.mono (by have := HB.out.size; have := H5.out.1.size; omega))⟩

set_option maxRecDepth 40000 in
set_option maxHeartbeats 16000000 in
theorem walk_nil (w : World) (ao : Option Addr) (cap F : Nat) (hF : F ≤ 255) :
    Calls Try.prog 4 #[.slice ao 0 cap, .int .u8 F] w fun e w' => e = .returned (.bool true) ∧ Below w.heap.size w w' := by
  go_enter Try.func4, Try.ntmps4
  go_wp2_with fail
  refine (heavy_nil w ao cap).mono ?_
  rintro e w0 ⟨rfl, rfl⟩
  go_wp2_with fail
  refine (Nw.new_any _ 131072 (by decide) (by decide)).mono ?_
  rintro e w1 ⟨p, rfl, hb1, hf1⟩
  obtain ⟨S, hS⟩ : ∃ S : Nat → Prop, S = fun x => w0.heap.size ≤ x ∧ x < w1.heap.size := ⟨_, rfl⟩
  rw [← hS] at hf1
  have HB := Lib.hid hb1
  have HS : Hid (∀ x, S x → w0.heap.size ≤ x) := Lib.hid fun x hx => by rw [hS] at hx; exact hx.1
  have hfu := fuse_any hf1 F (by omega)
  have hst : stFuse ⟨131072, [], [], [], -1, false⟩ (F : Int) = ⟨131072, [], [], [], F, false⟩ := by unfold stFuse; rw [if_neg (by omega)]
  rw [hst] at hfu
  have HFu := Lib.hid hfu
  clear hb1 hf1 hfu hst hS
  go_wp2_with fail
  refine HFu.out.mono ?_
  rintro e w2 ⟨rfl, h2⟩
  have HT2 := Lib.hid h2
  clear h2
  go_wp2
  go_loopw [7, 8, 9, 10, 11, 36, 37, 38, 39, 40, 41, 42, 43, 44, 45, 46, 47, 48, 49, 50, 51, 52, 53, 54, 55, 56, 57, 58, 59, 60, 61, 62, 63, 64, 65, 66, 67, 68, 69, 70, 71, 72, 73, 74, 75, 76, 77, 78, 79, 80, 81, 82, 83, 84, 85, 86, 87, 88, 89, 90, 91, 92, 93, 94, 95, 96, 97, 98, 99, 100, 101, 102, 103, 104, 105, 106, 107] (fun s i _ _ _ _ _ _ _ _ _ _ _ _ _ _ _ _ _ _ _ _ _ _ _ _ _ _ _ _ _ _ _ _ _ _ _ _ _ _ _ _ _ _ _ _ _ _ _ _ _ _ _ _ _ _ _ _ _ _ _ _ _ _ _ _ _ _ _ _ _ _ _ _ _ _ _ wr => ∃ (c : Nat) (D : St), i = .int .i64 0 ∧ s = .int .i64 c ∧ Hid (To S w1 wr p D) ∧ Hid (Inv D F c 0)) (fun _ _ _ _ _ _ _ _ _ _ _ _ _ _ _ _ _ _ _ _ _ _ _ _ _ _ _ _ _ _ _ _ _ _ _ _ _ _ _ _ _ _ _ _ _ _ _ _ _ _ _ _ _ _ _ _ _ _ _ _ _ _ _ _ _ _ _ _ _ _ _ _ _ _ _ _ _ _ => 0)
  case atStart => exact ⟨0, _, rfl, rfl, HT2, Lib.hid ⟨by show (F : Int) = F - ((0 : Nat) : Int); omega, by show (0 : Int) ≤ F; omega, fun h => (by cases h), (by simp)⟩⟩
  case round =>
    obtain ⟨c, D, rfl, rfl, HTo, HInv⟩ := hrel
    have hcF := Inv.le HInv.out
    obtain ⟨rs, re, rs2, re2, D2, q1, q2, q3, r1, r2, r3⟩ := tail_of HTo.out
    have HR1 := Lib.hid r1
    have HF1 := Lib.hid r2
    have HR2 := Lib.hid r3
    have e2 : (re2 == 20) = false := by simpa using q3.1
    have n2 : ¬ re2 = 20 := q3.1
    have q21 := q2.1
    have q22 := q2.2
    have q31 := q3.2.1
    have q32 := q3.2.2
    clear r1 r2 r3 q2 q3
    by_cases h20 : re = 20
    · obtain rfl : c = F := by
        have h1 := HInv.out.still (q1 h20)
        have h2 := HInv.out.fuse
        omega
      subst h20
      clear q1 q21 q22
      go_wp2_with fail
      refine HR1.out.mono ?_
      rintro e w3 ⟨rfl, h3⟩
      have H3 := Lib.hid h3
      clear h3
      go_wp2_with fail
      refine (HF1.out _ H3.out).mono ?_
      rintro e w4 ⟨rfl, h4⟩
      have H4 := Lib.hid h4
      clear h4
      go_wp2_with fail
      refine (HR2.out _ H4.out).mono ?_
      rintro e w5 ⟨rfl, h5⟩
      have H5 := Lib.hid h5
      clear h5
      go_wp2_with fail
      refine (Av.alive_any _).mono ?_
      rintro e w6 ⟨rfl, h6⟩
      have H6 := Lib.hid h6
      clear h6
      go_wp2
      go_ret
      exact ⟨congrArg (fun b => Ending.returned (Value.bool b)) (by simpa using n2 : (re2 != 20) = true), (Av.below_of HB.out HS.out H5.out).trans (H6.out.mono (by have := HB.out.size; have := H5.out.1.size; omega))⟩
    · have e1 : (re == 20) = false := by simpa using h20
      clear q1
      go_wp2_with fail
      refine HR1.out.mono ?_
      rintro e w3 ⟨rfl, h3⟩
      have H3 := Lib.hid h3
      clear h3
      go_wp2_with fail
      refine (HF1.out _ H3.out).mono ?_
      rintro e w4 ⟨rfl, h4⟩
      have H4 := Lib.hid h4
      clear h4
      go_wp2_with fail
      refine (HR2.out _ H4.out).mono ?_
      rintro e w5 ⟨rfl, h5⟩
      have H5 := Lib.hid h5
      clear h5
      go_wp2_with fail
      refine (Av.alive_any _).mono ?_
      rintro e w6 ⟨rfl, h6⟩
      have H6 := Lib.hid h6
      clear h6
      go_wp2
      go_ret
      exact ⟨congrArg (fun b => Ending.returned (Value.bool b)) (by simpa using n2 : (re2 != 20) = true), (Av.below_of HB.out HS.out H5.out).trans (H6.out.mono (by have := HB.out.size; have := H5.out.1.size; omega))⟩
end Go.Proofs.Ytjnkennlncdlgaa.Ds
