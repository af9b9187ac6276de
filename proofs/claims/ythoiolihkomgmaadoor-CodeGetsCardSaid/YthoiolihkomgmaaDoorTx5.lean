/- The reader's text: a text of the length that stands ahead of it. -/
import Derived.Test.YthoiolihkomgmaaDoorLt5
import Derived.Test.YthoiolihkomgmaaDoorRd5
namespace Go.Proofs.YthoiolihkomgmaaDoor.Tx5
open Go Go.RowKit Go.Proofs Go.Proofs.YthoiolihkomgmaaDoor.Wm Go.Proofs.YthoiolihkomgmaaDoor.Vs Go.Proofs.YthoiolihkomgmaaDoor.Cm Go.Proofs.YthoiolihkomgmaaDoor.Sh5 Go.Proofs.YthoiolihkomgmaaDoor.Rd5
/-- The tables stand in blocks 0 and 1, which no reader is. -/
theorem only_tabs {B : Nat} {w w' : World} (h : Tabs w) (ho : Only B w w') (hB : 1 < B) : Tabs w' := by
  have lt : ∀ (g o : Nat) v, w.cell? ⟨g, o, none⟩ = some v → g < w.heap.size := fun g o v hc => by
    rcases Nat.lt_or_ge g w.heap.size with h' | h'
    · exact h'
    · simp [World.cell?, Array.getElem?_eq_none h'] at hc
  have l3 : valid_ren.g 3 < w.heap.size := lt _ _ _ (h.1 0 (by omega))
  have l4 : valid_ren.g 4 < w.heap.size := lt _ _ _ (h.2 0 (by omega)).1
  have e3 : valid_ren.g 3 < B := Nat.lt_of_le_of_lt (by decide) hB
  have e4 : valid_ren.g 4 < B := Nat.lt_of_le_of_lt (by decide) hB
  refine ⟨fun c hc => ?_, fun i hi => ⟨?_, ?_⟩⟩
  · rw [World.cell?_of_block (w := w) (a := ⟨valid_ren.g 3, c, none⟩) (ho.block _ l3 (fun e => by simp only [Option.some.injEq] at e; omega))]; exact h.1 c hc
  · rw [World.cell?_of_block (w := w) (a := ⟨valid_ren.g 4, 2 * i, none⟩) (ho.block _ l4 (fun e => by simp only [Option.some.injEq] at e; omega))]; exact (h.2 i hi).1
  · rw [World.cell?_of_block (w := w) (a := ⟨valid_ren.g 4, 2 * i + 1, none⟩) (ho.block _ l4 (fun e => by simp only [Option.some.injEq] at e; omega))]; exact (h.2 i hi).2
theorem num1 (c : UInt8) (r : List UInt8) : getL ((c :: r).take 1) = c.toNat := by simp [getL]
/-- The length's byte is there. -/
theorem text_any (K : Nat) (b : List UInt8 → Nat → Bool) (hent : ∀ (args : Array Value) (W : World), (callFunc K args).run Tryd.prog W = .ok (.enter K args) W)
    (hb : ∀ (r : List UInt8) (n : Nat) (W : World), Tabs W → r.length ≤ n → n ≤ 1000 → Calls Tryd.prog K #[.string (bs r), .int .i64 (n : Int)] W fun e w' => e = .returned (.bool (b r n)) ∧ Below W.heap.size W w')
    {w : World} {B : Nat} {l : List UInt8} (h : Rd w B l) (hl : l.length ≤ 100000) (hT : Tabs w) (hB : 1 < B) :
    Calls Tryd.prog 41 #[.pointer (some ⟨B, 0, none⟩), .func (.func K) #[] #[]] w (Outc B w (text b l) (fun t => .string (bs t))) := by
  cases l with
  | nil =>
    have H := Lib.hid h
    have HN : Hid (Calls Tryd.prog 40 #[.pointer (some ⟨B, 0, none⟩), .int .i64 1] w fun e w' => e = .panicked (gave 6) ∧ Only B w w') := number_bad 1 h (by simp)
    clear h hent hb
    go_enter Tryd.func41, Tryd.ntmps41
    go_wp2_with fail
    with_reducible refine HN.out.mono ?_
    rintro e w1 ⟨rfl, ho⟩
    exact ⟨rfl, rfl, ho⟩
  | cons c r =>
    have HN : Hid (Calls Tryd.prog 40 #[.pointer (some ⟨B, 0, none⟩), .int .i64 1] w fun e w' => e = .returned (.int .u64 (c.toNat : Int)) ∧ Rd w' B r ∧ Only B w w') :=
      Lib.hid ((number_ok 1 h (by omega) (by omega) (by simp) (by omega)).mono fun e w' ⟨a, d, o⟩ => ⟨by rw [a, num1], d, o⟩)
    have hc := c.toNat_lt
    have hw : IntKind.i64.wrap (c.toNat : Int) = (c.toNat : Int) := by rw [wrap_i64 (by omega)]; unfold toI; rw [if_pos (by omega)]
    have HT := Lib.hid hT
    have HG := Lib.hid (fun W => give_up 7 W)
    simp only [List.length_cons] at hl
    obtain ⟨n, hn⟩ : ∃ n, n = c.toNat := ⟨_, rfl⟩
    show Calls _ _ _ _ (Outc B w (if 100 < c.toNat then .bad 7 else if r.length < c.toNat then (if b r c.toNat = true then .bad 6 else .bad 7) else .ok (r.take c.toNat) (r.drop c.toNat)) _)
    rw [← hn] at hc hw HN ⊢
    clear hn h hT
    by_cases h100 : 100 < n
    · rw [if_pos h100]
      clear hb hent
      go_enter Tryd.func41, Tryd.ntmps41
      go_wp2_with fail
      with_reducible refine HN.out.mono ?_
      rintro e w1 ⟨rfl, hr, ho⟩
      have HR := Lib.hid hr; have HO := Lib.hid ho
      clear hr ho
      go_wp2_with fail
      with_reducible refine (HG.out _).mono ?_
      rintro e w2 ⟨rfl, rfl⟩
      exact ⟨rfl, rfl, HO.out⟩
    · rw [if_neg h100]
      have hsz : (bs r).size = r.length := bs_size r
      have hz100 : ¬ (100 : Int) < (n : Int) := by omega
      by_cases hlt : r.length < n
      · rw [if_pos hlt]
        have hz : decide ((r.length : Int) < (n : Int)) = true := decide_eq_true (by omega)
        have HB : Hid (∀ W, Tabs W → Calls Tryd.prog K #[.string (bs r), .int .i64 (n : Int)] W fun e w' => e = .returned (.bool (b r n)) ∧ Below W.heap.size W w') := Lib.hid fun W hW => hb r n W hW (by omega) (by omega)
        have HL := Lib.hid hlt
        clear hb hlt
        cases hbr : b r n
        · rw [hbr] at HB
          rw [if_neg (by simp)]
          clear hbr
          go_enter Tryd.func41, Tryd.ntmps41
          go_wp2_with fail
          with_reducible refine HN.out.mono ?_
          rintro e w1 ⟨rfl, hr, ho⟩
          have hcell := hr.cell
          have HR := Lib.hid hr; have HO := Lib.hid ho
          clear hr ho
          go_wp2_with fail
          with_reducible refine (HB.out _ (only_tabs HT.out HO.out hB)).mono ?_
          rintro e w2 ⟨rfl, hb2⟩
          have HB2 := Lib.hid hb2
          clear hb2
          go_wp2_with fail
          with_reducible refine (HG.out _).mono ?_
          rintro e w3 ⟨rfl, rfl⟩
          exact ⟨rfl, rfl, HO.out.trans (Only.of_below HB2.out)⟩
        · rw [hbr] at HB
          rw [if_pos rfl]
          clear hbr
          go_enter Tryd.func41, Tryd.ntmps41
          go_wp2_with fail
          with_reducible refine HN.out.mono ?_
          rintro e w1 ⟨rfl, hr, ho⟩
          have hcell := hr.cell
          have HR := Lib.hid hr; have HO := Lib.hid ho
          clear hr ho
          go_wp2_with fail
          with_reducible refine (HB.out _ (only_tabs HT.out HO.out hB)).mono ?_
          rintro e w2 ⟨rfl, hb2⟩
          have HB2 := Lib.hid hb2
          have HK : Hid (Calls Tryd.prog 51 #[.pointer (some ⟨B, 0, none⟩), .int .i64 (n : Int)] w2 fun e w' => e = .panicked (gave 6) ∧ Only B w2 w') := Lib.hid (take_bad n (HR.out.keep hb2) HL.out)
          clear hb2
          go_wp2_with fail
          with_reducible refine HK.out.mono ?_
          rintro e w3 ⟨rfl, ho3⟩
          exact ⟨rfl, rfl, (HO.out.trans (Only.of_below HB2.out)).trans ho3⟩
      · rw [if_neg hlt]
        have hz : decide ((r.length : Int) < (n : Int)) = false := decide_eq_false (by omega)
        have hz' : ¬ (r.length < n) := hlt
        have HK : Hid (∀ W, Hid (Rd W B r) → Calls Tryd.prog 51 #[.pointer (some ⟨B, 0, none⟩), .int .i64 (n : Int)] W fun e w' => e = .returned (.string (bs (r.take n))) ∧ Rd w' B (r.drop n) ∧ Only B W w') := Lib.hid fun W hW => take_ok n hW.out (by omega) (by omega)
        have HC : Hid (∀ W, Calls Tryd.prog 52 #[.string (bs (r.take n))] W fun e w' => e = .returned (.string (bs (r.take n))) ∧ Below W.heap.size W w') := Lib.hid fun W => clone_any _ W (by rw [bs_size, List.length_take]; omega)
        clear hb hent
        go_enter Tryd.func41, Tryd.ntmps41
        go_wp2_with fail
        with_reducible refine HN.out.mono ?_
        rintro e w1 ⟨rfl, hr, ho⟩
        have hcell := hr.cell
        have HR := Lib.hid hr; have HO := Lib.hid ho
        clear hr ho
        go_wp2_with fail
        with_reducible refine (HK.out _ HR).mono ?_
        rintro e w2 ⟨rfl, hr2, ho2⟩
        have HR2 := Lib.hid hr2; have HO2 := Lib.hid ho2
        clear hr2 ho2
        go_wp2_with fail
        with_reducible refine (HC.out _).mono ?_
        rintro e w3 ⟨rfl, hb3⟩
        have HB3 := Lib.hid hb3
        clear hb3
        go_wp2
        go_ret
        exact ⟨rfl, HR2.out.keep HB3.out, (HO.out.trans HO2.out).trans (Only.of_below HB3.out)⟩
end Go.Proofs.YthoiolihkomgmaaDoor.Tx5
