/- The contract of the law's own 'alive': the chapter's examples. -/
import Derived.Test.YtjnkennlncdlgaaRd
import Derived.Test.YtjnkennlncdlgaaNw
namespace Go.Proofs.Ytjnkennlncdlgaa.Av
open Go Go.RowKit Go.Lib Go.Proofs.Ytjnkennlncdlgaa.Mp Go.Proofs.Ytjnkennlncdlgaa.Dh Go.Proofs.Ytjnkennlncdlgaa.Fm Go.Proofs.Ytjnkennlncdlgaa.Dk Go.Proofs.Ytjnkennlncdlgaa.St Go.Proofs.Ytjnkennlncdlgaa.Ap Go.Proofs.Ytjnkennlncdlgaa.Tr Go.Proofs.Ytjnkennlncdlgaa.Rn Go.Proofs.Ytjnkennlncdlgaa.Sy Go.Proofs.Ytjnkennlncdlgaa.Ca Go.Proofs.Ytjnkennlncdlgaa.Rd Go.Proofs.Ytjnkennlncdlgaa.Nw
theorem below_of {S : Nat → Prop} {w w0 w1 : World} {p : Nat} {D : St} (h : Below w.heap.size w w0) (hs : ∀ b, S b → w.heap.size ≤ b) (k : To S w0 w1 p D) : Below w.heap.size w w1 :=
  h.trans ⟨k.1.os, k.1.tape, k.1.output, k.1.size, fun b hb => k.1.block b (by have := h.size; omega) (fun hS => by have := hs b hS; omega)⟩
abbrev sa : ByteArray := ⟨#[97]⟩
abbrev sb : ByteArray := ⟨#[98]⟩
def D0 : St := ⟨100, [], [], [], -1, false⟩
def D1 : St := (stAppend D0 sa ⟨#[120, 121]⟩).2
def D2 : St := (stSync D1).2
def D3 : St := (stAppend D2 sa ⟨#[122, 119]⟩).2
def D4 : St := (stRename D3 sa sb).2
def D5 : St := stCrash D4 0 1
def D6 : St := stFuse D5 1
def D7 : St := (stAppend D6 sa ⟨#[120]⟩).2
def D8 : St := (stSync D7).2
theorem x1 : (stAppend D0 sa ⟨#[120, 121]⟩).1 = 0 := by decide +kernel
theorem x2 : (stSync D1).1 = 0 := by decide +kernel
theorem x3 : (stAppend D2 sa ⟨#[122, 119]⟩).1 = 0 := by decide +kernel
theorem x4 : (stRename D3 sa sb).1 = 0 := by decide +kernel
theorem y4 : D4.loose.length = 2 := by decide +kernel
theorem x5 : (stRead D5 sa 0 9).1 = [120, 121, 122] ∧ (stRead D5 sa 0 9).2 = 0 := by decide +kernel
theorem x7 : (stAppend D6 sa ⟨#[120]⟩).1 = 0 := by decide +kernel
theorem x8 : (stSync D7).1 = 20 := by decide +kernel
theorem x9 : (stRead D8 sa 0 1).1 = [] ∧ (stRead D8 sa 0 1).2 = 20 := by decide +kernel
theorem y8 : used D8.now = 4 := by decide +kernel
theorem z0 : D0.loose.length ≤ 1099511627776 := by decide +kernel
theorem z1 : D1.loose.length ≤ 1099511627776 := by decide +kernel
theorem z2 : D2.loose.length ≤ 1099511627776 := by decide +kernel
theorem z3 : D3.loose.length ≤ 1099511627776 := by decide +kernel
theorem z4 : D4.loose.length ≤ 1099511627776 := by decide +kernel
theorem z6 : D6.loose.length ≤ 1099511627776 := by decide +kernel
theorem z7 : D7.loose.length ≤ 1099511627776 := by decide +kernel
theorem k1 {w : World} {S : Nat → Prop} {p : Nat} (h : Full w S p D0) : Calls Try.prog 23 #[.pointer (some ⟨p, 0, none⟩), .string sa, .string ⟨#[120, 121]⟩] w fun e w' => e = .returned (.int .i64 0) ∧ To S w w' p D1 := by
  have := append_any h sa ⟨#[120, 121]⟩ (by decide) (by decide) z0
  rw [x1] at this; exact this
theorem k2 {w : World} {S : Nat → Prop} {p : Nat} (h : Full w S p D1) : Calls Try.prog 11 #[.pointer (some ⟨p, 0, none⟩)] w fun e w' => e = .returned (.int .i64 0) ∧ To S w w' p D2 := by
  have := sync_any h z1
  rw [x2] at this; exact this
theorem k3 {w : World} {S : Nat → Prop} {p : Nat} (h : Full w S p D2) : Calls Try.prog 23 #[.pointer (some ⟨p, 0, none⟩), .string sa, .string ⟨#[122, 119]⟩] w fun e w' => e = .returned (.int .i64 0) ∧ To S w w' p D3 := by
  have := append_any h sa ⟨#[122, 119]⟩ (by decide) (by decide) z2
  rw [x3] at this; exact this
theorem k4 {w : World} {S : Nat → Prop} {p : Nat} (h : Full w S p D3) : Calls Try.prog 24 #[.pointer (some ⟨p, 0, none⟩), .string sa, .string sb] w fun e w' => e = .returned (.int .i64 0) ∧ To S w w' p D4 := by
  have := rename_any h sa sb (by decide) (by decide) z3
  rw [x4] at this; exact this
theorem k5 {w : World} {S : Nat → Prop} {p : Nat} (h : Full w S p D4) : Calls Try.prog 12 #[.pointer (some ⟨p, 0, none⟩)] w fun e w' => e = .returned (.int .i64 2) ∧ w' = w := by
  have := loose_any h z4
  rw [y4] at this; exact this
theorem k6 {w : World} {S : Nat → Prop} {p : Nat} (h : Full w S p D4) : Calls Try.prog 13 #[.pointer (some ⟨p, 0, none⟩), .int .i64 0, .int .i64 1] w fun e w' => e = .returned (.int .i64 0) ∧ To S w w' p D5 :=
  crash_any h 0 1 (by decide) (by decide) z4
theorem k7 {w : World} {S : Nat → Prop} {p : Nat} (h : Full w S p D5) : Calls Try.prog 18 #[.pointer (some ⟨p, 0, none⟩), .string sa, .int .i64 0, .int .i64 9] w fun e w' => e = .returned (.tuple #[.string ⟨#[120, 121, 122]⟩, .int .i64 0]) ∧ To S w w' p D5 := by
  have := read_any h sa 0 9 (by decide) (by decide) (by decide)
  rw [x5.1, x5.2] at this; exact this
theorem k8 {w : World} {S : Nat → Prop} {p : Nat} (h : Full w S p D5) : Calls Try.prog 16 #[.pointer (some ⟨p, 0, none⟩), .int .i64 1] w fun e w' => e = .returned (.int .i64 0) ∧ To S w w' p D6 :=
  fuse_any h 1 (by decide)
theorem k9 {w : World} {S : Nat → Prop} {p : Nat} (h : Full w S p D6) : Calls Try.prog 23 #[.pointer (some ⟨p, 0, none⟩), .string sa, .string ⟨#[120]⟩] w fun e w' => e = .returned (.int .i64 0) ∧ To S w w' p D7 := by
  have := append_any h sa ⟨#[120]⟩ (by decide) (by decide) z6
  rw [x7] at this; exact this
theorem k10 {w : World} {S : Nat → Prop} {p : Nat} (h : Full w S p D7) : Calls Try.prog 11 #[.pointer (some ⟨p, 0, none⟩)] w fun e w' => e = .returned (.int .i64 20) ∧ To S w w' p D8 := by
  have := sync_any h z7
  rw [x8] at this; exact this
theorem k11 {w : World} {S : Nat → Prop} {p : Nat} (h : Full w S p D8) : Calls Try.prog 18 #[.pointer (some ⟨p, 0, none⟩), .string sa, .int .i64 0, .int .i64 1] w fun e w' => e = .returned (.tuple #[.string ⟨#[]⟩, .int .i64 20]) ∧ To S w w' p D8 := by
  have := read_any h sa 0 1 (by decide) (by decide) (by decide)
  rw [x9.1, x9.2] at this; exact this
theorem k12 {w : World} {S : Nat → Prop} {p : Nat} (h : Full w S p D8) : Calls Try.prog 17 #[.pointer (some ⟨p, 0, none⟩)] w fun e w' => e = .returned (.int .i64 4) ∧ w' = w := by
  have := used_any h
  rw [y8] at this; exact this
set_option maxRecDepth 20000 in
set_option maxHeartbeats 2000000 in
theorem alive_any (w : World) : Calls Try.prog 7 #[] w fun e w' => e = .returned (.bool true) ∧ Below w.heap.size w w' := by
  go_enter Try.func7, Try.ntmps7
  go_wp2_with fail
  refine (new_any _ 100 (by decide) (by decide)).mono ?_
  rintro e w0 ⟨p, rfl, hb, hf⟩
  have HB := Lib.hid hb
  have F0 := Lib.hid hf
  clear hb hf
  go_wp2_with fail
  refine (k1 F0.out).mono ?_
  rintro e w1 ⟨rfl, h1⟩
  have F1 := Lib.hid h1
  clear h1
  go_wp2_with fail
  refine (k2 F1.out.2).mono ?_
  rintro e w2 ⟨rfl, h2⟩
  have F2 := Lib.hid (To.trans F1.out h2)
  clear h2
  go_wp2_with fail
  refine (k3 F2.out.2).mono ?_
  rintro e w3 ⟨rfl, h3⟩
  have F3 := Lib.hid (To.trans F2.out h3)
  clear h3
  go_wp2_with fail
  refine (k4 F3.out.2).mono ?_
  rintro e w4 ⟨rfl, h4⟩
  have F4 := Lib.hid (To.trans F3.out h4)
  clear h4
  go_wp2_with fail
  refine (k5 F4.out.2).mono ?_
  rintro e w4' ⟨rfl, rfl⟩
  go_wp2_with fail
  refine (k6 F4.out.2).mono ?_
  rintro e w5 ⟨rfl, h5⟩
  have F5 := Lib.hid (To.trans F4.out h5)
  clear h5
  go_wp2_with fail
  refine (k7 F5.out.2).mono ?_
  rintro e w6 ⟨rfl, h6⟩
  have F6 := Lib.hid (To.trans F5.out h6)
  clear h6
  go_wp2_with fail
  refine (k8 F6.out.2).mono ?_
  rintro e w7 ⟨rfl, h7⟩
  have F7 := Lib.hid (To.trans F6.out h7)
  clear h7
  go_wp2_with fail
  refine (k9 F7.out.2).mono ?_
  rintro e w8 ⟨rfl, h8⟩
  have F8 := Lib.hid (To.trans F7.out h8)
  clear h8
  go_wp2_with fail
  refine (k10 F8.out.2).mono ?_
  rintro e w9 ⟨rfl, h9⟩
  have F9 := Lib.hid (To.trans F8.out h9)
  clear h9
  go_wp2_with fail
  refine (k11 F9.out.2).mono ?_
  rintro e w10 ⟨rfl, h10⟩
  have F10 := Lib.hid (To.trans F9.out h10)
  clear h10
  go_wp2_with fail
  refine (k12 F10.out.2).mono ?_
  rintro e w11 ⟨rfl, rfl⟩
  go_wp2
  go_ret
  exact ⟨rfl, below_of HB.out (fun b hb => hb.1) F10.out⟩
end Go.Proofs.Ytjnkennlncdlgaa.Av
