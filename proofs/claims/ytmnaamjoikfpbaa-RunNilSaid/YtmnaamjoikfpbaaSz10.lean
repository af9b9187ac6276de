/- The contracts of disk.Size, and of Read, with the world that they leave; of no disk; a disk behind calls that touch nothing that was there. -/
import Derived.Test.YtmnaamjoikfpbaaDb2
namespace Go.Proofs.Ytmnaamjoikfpbaa.Sz10
open Go Go.RowKit Go.Lib Go.Proofs.Ytmnaamjoikfpbaa.Mp Go.Proofs.Ytmnaamjoikfpbaa.Dh Go.Proofs.Ytmnaamjoikfpbaa.Ext Go.Proofs.Ytmnaamjoikfpbaa.Fm Go.Proofs.Ytmnaamjoikfpbaa.Dk Go.Proofs.Ytmnaamjoikfpbaa.Cl Go.Proofs.Ytmnaamjoikfpbaa.Bu Go.Proofs.Ytmnaamjoikfpbaa.Ch Go.Proofs.Ytmnaamjoikfpbaa.Nm Go.Proofs.Ytmnaamjoikfpbaa.St Go.Proofs.Ytmnaamjoikfpbaa.Ap Go.Proofs.Ytmnaamjoikfpbaa.Tr Go.Proofs.Ytmnaamjoikfpbaa.Rd
theorem full_below {w w' : World} {S : Nat → Prop} {p : Nat} {D : St} (h : Full w S p D) (hb : Below w.heap.size w w') : Full w' S p D := Full.frame h fun b _ hl => hb.block b hl
theorem tread_below {w w' : World} (S : Nat → Prop) (hb : Below w.heap.size w w') : Tread S w w' := ⟨hb.os, hb.tape, hb.output, hb.size, fun b hl _ => hb.block b hl⟩
theorem to_below {w w' : World} {S : Nat → Prop} {p : Nat} {D : St} (h : Full w S p D) (hb : Below w.heap.size w w') : To S w w' p D := ⟨tread_below S hb, (full_below h hb).up grow_up⟩
/-- A step that touches nothing that was there, and a call of the disk. -/
theorem to_pre {w W w' : World} {S : Nat → Prop} {p : Nat} {D : St} (hb : Below w.heap.size w W) (ht : To S W w' p D) : To S w w' p D := by
  have hs := hb.size
  have hs2 := ht.1.size
  refine ⟨⟨ht.1.os.trans hb.os, ht.1.tape.trans hb.tape, ht.1.output.trans hb.output, by omega, fun b hl hn => (ht.1.block b (by omega) hn).trans (hb.block b hl)⟩, ht.2.up ?_⟩
  rintro b (hb | hb)
  · exact .inl hb
  · exact .inr ⟨by omega, hb.2⟩
/-- What Size answers. -/
def stSize (D : St) (k : ByteArray) : Int × Int :=
  if D.still then (0, 20) else if nameOk k = false then (0, 2) else
    match get D.now k with
    | none => (0, 3)
    | some t => (t.length, 0)
set_option maxRecDepth 20000 in
set_option maxHeartbeats 2000000 in
theorem size_at {S : Nat → Prop} {w : World} {p : Nat} {D : St} (h : Full w S p D) (k : ByteArray) (hk : k.size ≤ maxLen) :
    Calls Try.prog 27 #[.pointer (some ⟨p, 0, none⟩), .string k] w fun e w' => e = .returned (.tuple #[.int .i64 (stSize D k).1, .int .i64 (stSize D k).2]) ∧ w' = w.alloc (cap1 (.string k)) := by
  have ht := To.alloc h (cap1 (.string k))
  have hnew := heap_new w (cap1 (.string k))
  obtain ⟨W, hW⟩ : ∃ W, W = w.alloc (cap1 (.string k)) := ⟨_, rfl⟩
  rw [← hW] at ht hnew
  obtain ⟨d, g1, g2, g3, g4, g5, g6, g7, g8⟩ := ht.2
  unfold stSize
  by_cases hst : D.still = true
  · rw [if_pos hst]
    have HR := Lib.hid (ready_still g1 (g7.trans hst) (.slice (some ⟨w.heap.size, 0, none⟩) 1 1))
    rw [hW] at HR
    clear hst g1 g2 g3 g4 g5 g6 g7 g8 ht hW h hnew
    go_enter Try.func27, Try.ntmps27
    go_wp2_with (go_at_call 40; refine HR.out.mono ?_; rintro e w1 ⟨rfl, rfl⟩)
    go_ret2
    exact ⟨rfl, rfl⟩
  have hst' : d.still = false := by rw [g7]; simpa using hst
  rw [if_neg hst]
  have HR0 := ready_names g1 hst' [k] w.heap.size 1 (fun i hi => by
    have : i = 0 := by simpa using hi
    subst this; rw [cell_of hnew]; rfl) (by simpa using hk) (by simp)
  rw [single] at HR0
  by_cases hnm : nameOk k = false
  · rw [if_pos hnm]
    rw [hnm] at HR0
    have HR := Lib.hid HR0
    rw [hW] at HR
    clear hst hst' HR0 g1 g2 g3 g4 g5 g6 g7 g8 ht hW h hnew hnm
    go_enter Try.func27, Try.ntmps27
    go_wp2_with (go_at_call 40; refine HR.out.mono ?_; rintro e w1 ⟨rfl, rfl⟩)
    go_ret2
    exact ⟨rfl, rfl⟩
  rw [if_neg hnm]
  have hn' : nameOk k = true := by simpa using hnm
  rw [hn'] at HR0
  have HR := Lib.hid HR0
  have c1 : W.cell? ⟨p, 1, none⟩ = some (.map (some d.m1)) := DskAt.c g1 1
  have HDk := Lib.hid g1
  have HNow := Lib.hid g4
  have HW := Lib.hid hW
  rw [hW] at HR c1
  clear hst hst' HR0 g1 g2 g3 g4 g5 g6 g7 g8 ht hW h hnew hnm hn'
  rcases hg : get D.now k with _ | t
  · have hlook := look_none HDk.out k (by rw [HNow.out]; exact hg) 0
    change (Instr.lookup _ _ _ _).run _ W = .ok _ W at hlook
    rw [HW.out] at hlook
    clear hg
    have HLk := Lib.hid hlook
    clear hlook
    dsimp only
    go_enter Try.func27, Try.ntmps27
    go_wp2_with (first | (go_at_call 40; refine HR.out.mono ?_; rintro e w1 ⟨rfl, rfl⟩) | (at_lookup; refine wpList_look _ rfl _ _ rfl d.m1 k _ _ rfl rfl HLk.out ?_))
    go_ret2
    exact ⟨rfl, rfl⟩
  · obtain ⟨v, htx, hlook⟩ := look_some HDk.out k t (by rw [HNow.out]; exact hg)
    have hlook := hlook 0
    change (Instr.lookup _ _ _ _).run _ W = .ok _ W at hlook
    clear hg
    dsimp only
    obtain ⟨a, cp, rfl, hcp, hcm⟩ := TextAt.len htx
    unfold maxLen at hcm
    rw [HW.out] at hlook
    have HLk := Lib.hid hlook
    clear hlook htx
    go_enter Try.func27, Try.ntmps27
    go_wp2_with (first | (go_at_call 40; refine HR.out.mono ?_; rintro e w1 ⟨rfl, rfl⟩) | (at_lookup; refine wpList_look _ rfl _ _ rfl d.m1 k _ _ rfl rfl HLk.out ?_))
    go_ret2
    exact ⟨rfl, rfl⟩
theorem read_nil (w : World) (k : ByteArray) (o n : Int) :
    Calls Try.prog 31 #[.pointer none, .string k, .int .i64 o, .int .i64 n] w fun e w' => e = .returned (.tuple #[.string ⟨#[]⟩, .int .i64 1]) ∧ Below w.heap.size w w' := by
  have HR := Lib.hid (ready_nil (w.alloc (cap1 (.string k))) (.slice (some ⟨w.heap.size, 0, none⟩) 1 1))
  have HB : Hid (Below w.heap.size w (w.alloc (cap1 (.string k)))) := Lib.hid ((Below.refl _ w).alloc (Nat.le_refl _) _)
  go_enter Try.func31, Try.ntmps31
  go_wp2_with (go_at_call 40; refine HR.out.mono ?_; rintro e w1 ⟨rfl, rfl⟩)
  go_ret2
  exact ⟨rfl, HB.out⟩
end Go.Proofs.Ytmnaamjoikfpbaa.Sz10
