/- The chapter's examples: the contract of the statements' own 'alive'. -/
import Derived.Test.YtbkaphcipbhmhaaDoorKh6
import Derived.Test.YtbkaphcipbhmhaaDoorKp6
import Derived.Test.YtbkaphcipbhmhaaDoorKa6
import Derived.Laws.IdiomStrings
namespace Go.Proofs.YtbkaphcipbhmhaaDoor.Al6
open Go Go.RowKit Go.Proofs Go.Proofs.YtbkaphcipbhmhaaDoor.Wm Go.Proofs.YtbkaphcipbhmhaaDoor.Vm Go.Proofs.YtbkaphcipbhmhaaDoor.Vr Go.Proofs.YtbkaphcipbhmhaaDoor.Vs Go.Proofs.YtbkaphcipbhmhaaDoor.Vc Go.Proofs.YtbkaphcipbhmhaaDoor.Cm Go.Proofs.YtbkaphcipbhmhaaDoor.Kl6 Go.Proofs.YtbkaphcipbhmhaaDoor.Km6 Go.Proofs.YtbkaphcipbhmhaaDoor.Kp6 Go.Proofs.YtbkaphcipbhmhaaDoor.Kh6
theorem one_reads {w : World} (v : V) : Reads (w.alloc (.cells #[.int .u8 v.k, .int .i64 v.n, .int .u64 (v.r : Int), .string v.s] 38)) (some ⟨w.heap.size, 0, none⟩) [v] := fun _ => by
  refine ⟨w.heap.size, 0, rfl, by simp, fun k hk => ?_⟩
  have : k = 0 := by simp at hk; exact hk
  subst this
  have e := heap_alloc_new w (.cells #[.int .u8 v.k, .int .i64 v.n, .int .u64 (v.r : Int), .string v.s] 38)
  refine ⟨?_, ?_, ?_, ?_⟩ <;> (unfold World.cell?; simp only [Nat.zero_mul, Nat.add_zero, Nat.zero_add]; rw [e]; rfl)
def e1 : V := ⟨2, -1, 0, ⟨#[]⟩⟩
def e2 : V := ⟨4, 0, 0, ⟨#[97, 0]⟩⟩
theorem m1 : mayK [e1] = true := is_mayK (by decide) (fun v hv => by rw [List.mem_singleton.1 hv]; exact .int (-1))
theorem m2 : mayK [e2] = true := is_mayK (by decide) (fun v hv => by rw [List.mem_singleton.1 hv]; exact .bytes _ (by decide))
theorem p1 : kputS [e1] = [3, 127, 255, 255, 255, 255, 255, 255, 255] := by unfold kputS; rw [m1, if_pos rfl]; decide
theorem p2 : kputS [e2] = [5, 97, 0, 255, 0, 1] := by unfold kputS; rw [m2, if_pos rfl]; decide
theorem a1 : Ka6.after [97, 255] = ([98], true) := by decide
theorem a2 : Ka6.after [255] = ([], false) := by decide
theorem g1 : kget [7] = none := by decide
theorem ok1 : AllOk [e1] := fun v hv => by rw [List.mem_singleton.1 hv]; exact ok_of (by decide) (by decide) (by decide) (by decide) (by decide) (by decide)
theorem ok2 : AllOk [e2] := fun v hv => by rw [List.mem_singleton.1 hv]; exact ok_of (by decide) (by decide) (by decide) (by decide) (by decide) (by decide)
set_option maxRecDepth 20000 in
theorem alive_any (w : World) (hT : Tabs w) : Calls Tryd.prog 8 #[] w fun e w' => e = .returned (.bool true) ∧ Below w.heap.size w w' := by
  have HT := Lib.hid hT
  have P1 : Hid (∀ W, Hid (Tabs W) → Calls Tryd.prog 10 #[.slice (some ⟨W.heap.size, 0, none⟩) 1 1] (W.alloc (.cells #[.int .u8 2, .int .i64 (-1), .int .u64 0, .string ⟨#[]⟩] 38)) fun e w' => e = .returned (.tuple #[.string ⟨#[3, 127, 255, 255, 255, 255, 255, 255, 255]⟩, .int .i64 0]) ∧ Below W.heap.size W w') := Lib.hid fun W h => by
    have hb : Below W.heap.size W (W.alloc (.cells #[.int .u8 2, .int .i64 (-1), .int .u64 0, .string ⟨#[]⟩] 38)) := (Below.refl _ _).alloc (Nat.le_refl _) _
    have := put_any _ _ 1 [e1] (one_reads (w := W) e1) (by decide) ok1 (h.out.keep hb)
    rw [p1, m1] at this
    exact this.mono fun e w' hh => ⟨hh.1, hb.trans (hh.2.mono hb.size)⟩
  have P2 : Hid (∀ W, Hid (Tabs W) → Calls Tryd.prog 10 #[.slice (some ⟨W.heap.size, 0, none⟩) 1 1] (W.alloc (.cells #[.int .u8 4, .int .i64 0, .int .u64 0, .string ⟨#[97, 0]⟩] 38)) fun e w' => e = .returned (.tuple #[.string ⟨#[5, 97, 0, 255, 0, 1]⟩, .int .i64 0]) ∧ Below W.heap.size W w') := Lib.hid fun W h => by
    have hb : Below W.heap.size W (W.alloc (.cells #[.int .u8 4, .int .i64 0, .int .u64 0, .string ⟨#[97, 0]⟩] 38)) := (Below.refl _ _).alloc (Nat.le_refl _) _
    have := put_any _ _ 1 [e2] (one_reads (w := W) e2) (by decide) ok2 (h.out.keep hb)
    rw [p2, m2] at this
    exact this.mono fun e w' hh => ⟨hh.1, hb.trans (hh.2.mono hb.size)⟩
  have F1 : Hid (∀ W, Calls Tryd.prog 16 #[.string ⟨#[97, 255]⟩] W fun e w' => e = .returned (.tuple #[.string ⟨#[98]⟩, .bool true]) ∧ Below W.heap.size W w') := Lib.hid fun W => by
    have := Ka6.after_any W ⟨#[97, 255]⟩ (by decide)
    rw [show (⟨#[97, 255]⟩ : ByteArray).data.toList = [97, 255] from rfl, a1] at this
    exact this
  have F2 : Hid (∀ W, Calls Tryd.prog 16 #[.string ⟨#[255]⟩] W fun e w' => e = .returned (.tuple #[.string ⟨#[]⟩, .bool false]) ∧ Below W.heap.size W w') := Lib.hid fun W => by
    have := Ka6.after_any W ⟨#[255]⟩ (by decide)
    rw [show (⟨#[255]⟩ : ByteArray).data.toList = [255] from rfl, a2] at this
    exact this
  have G1 : Hid (∀ W, Hid (Tabs W) → Calls Tryd.prog 14 #[.string ⟨#[7]⟩] W fun e w' => e = .returned (.tuple #[.slice none 0 0, .int .i64 7]) ∧ Below W.heap.size W w') := Lib.hid fun W h => by
    have := get_any [7] W (by decide) h.out
    rw [g1] at this
    exact this
  clear hT
  go_enter Tryd.func8, Tryd.ntmps8
  go_wp2_with fail
  with_reducible refine (P1.out _ HT).mono ?_
  rintro e w1 ⟨rfl, hb1⟩
  have HB1 := Lib.hid hb1
  have T1 := Lib.hid (HT.out.keep HB1.out)
  clear hb1 P1
  go_wp2_with fail
  with_reducible refine (P2.out _ T1).mono ?_
  rintro e w2 ⟨rfl, hb2⟩
  have HB2 := Lib.hid (HB1.out.trans (hb2.mono HB1.out.size))
  have T2 := Lib.hid (HT.out.keep HB2.out)
  clear hb2 HB1 P2
  go_wp2_with fail
  with_reducible refine (F1.out _).mono ?_
  rintro e w3 ⟨rfl, hb3⟩
  have HB3 := Lib.hid (HB2.out.trans (hb3.mono HB2.out.size))
  clear hb3 HB2 F1
  go_wp2_with fail
  with_reducible refine (F2.out _).mono ?_
  rintro e w4 ⟨rfl, hb4⟩
  have HB4 := Lib.hid (HB3.out.trans (hb4.mono HB3.out.size))
  have T4 := Lib.hid (HT.out.keep HB4.out)
  clear hb4 HB3 F2
  go_wp2_with fail
  with_reducible refine (G1.out _ T4).mono ?_
  rintro e w5 ⟨rfl, hb5⟩
  have HB5 := Lib.hid (HB4.out.trans (hb5.mono HB4.out.size))
  clear hb5 HB4 G1
  go_wp2
  go_ret
  exact ⟨rfl, HB5.out⟩
end Go.Proofs.YtbkaphcipbhmhaaDoor.Al6
