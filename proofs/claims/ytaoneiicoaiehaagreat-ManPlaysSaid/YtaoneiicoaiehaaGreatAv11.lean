/- The chapter's examples hold. -/
import Derived.Test.YtaoneiicoaiehaaGreatAp11
import Derived.Test.YtaoneiicoaiehaaGreatSa11
namespace Go.Proofs.YtaoneiicoaiehaaGreat.Av11
open Go Go.RowKit Go.Lib Go.Proofs.YtaoneiicoaiehaaGreat Go.Proofs.YtaoneiicoaiehaaGreat.Wm Go.Proofs.YtaoneiicoaiehaaGreat.Fl7 Go.Proofs.YtaoneiicoaiehaaGreat.Dh Go.Proofs.YtaoneiicoaiehaaGreat.Dk Go.Proofs.YtaoneiicoaiehaaGreat.Fm Go.Proofs.YtaoneiicoaiehaaGreat.Cl Go.Proofs.YtaoneiicoaiehaaGreat.Ch Go.Proofs.YtaoneiicoaiehaaGreat.Nm Go.Proofs.YtaoneiicoaiehaaGreat.St Go.Proofs.YtaoneiicoaiehaaGreat.Sy Go.Proofs.YtaoneiicoaiehaaGreat.Nu11 Go.Proofs.YtaoneiicoaiehaaGreat.Ma11 Go.Proofs.YtaoneiicoaiehaaGreat.Ck11 Go.Proofs.YtaoneiicoaiehaaGreat.Tx11 Go.Proofs.YtaoneiicoaiehaaGreat.Mn11 Go.Proofs.YtaoneiicoaiehaaGreat.Pg11 Go.Proofs.YtaoneiicoaiehaaGreat.Gb11 Go.Proofs.YtaoneiicoaiehaaGreat.Sv11 Go.Proofs.YtaoneiicoaiehaaGreat.Ld11 Go.Proofs.YtaoneiicoaiehaaGreat.Ap11 Go.Proofs.YtaoneiicoaiehaaGreat.Sa11
/-- A call of the disk leaves alone what was there ahead of the disk. -/
theorem below_to {w a b : World} {S : Nat → Prop} {p n : Nat} {D : St} (hb : Below n w a) (hn : n ≤ a.heap.size) (hS : ∀ x, S x → n ≤ x) (ht : To S a b p D) : Below n w b :=
  hb.trans ⟨ht.1.os, ht.1.tape, ht.1.output, ht.1.size, fun x hx => ht.1.block x (by omega) fun hs => by have := hS x hs; omega⟩
theorem grow_ge {a b : World} {S : Nat → Prop} {n : Nat} (hS : ∀ x, S x → n ≤ x) (hn : n ≤ a.heap.size) : ∀ x, grow S a b x → n ≤ x := by
  rintro x (h | h)
  · exact hS x h
  · omega
theorem grow_lt {a b : World} {S : Nat → Prop} (hS : ∀ x, S x → x < a.heap.size) (hs : a.heap.size ≤ b.heap.size) : ∀ x, grow S a b x → x < b.heap.size := by
  rintro x (h | h)
  · have := hS x h; omega
  · exact h.2
theorem nil_man (w : World) (x y : Nat) (hx : x < 1000) (hy : y < 1000) : ManAt w ⟨x, [], y⟩ none 0 := ⟨Nums.nil _ _, fun _ => .inl ⟨rfl, rfl⟩, by show x < _; omega, by show y < _; omega, fun n h => by cases h⟩
set_option maxHeartbeats 16000000 in
set_option maxRecDepth 100000 in
theorem alive_any (hsort : Sorts) (w : World) :
    Calls Tryz.prog 5 #[] w fun e w' => e = .returned (.bool true) ∧ Below w.heap.size w w' := by
  have HN := Lib.hid (Nw.new_any w 1000 (by omega) (by omega))
  go_enter Tryz.func5, Tryz.ntmps5
  go_wp2_with fail
  refine HN.out.mono ?_
  rintro e w1 ⟨p, rfl, hb1, hF⟩
  obtain ⟨S1, hS1⟩ : ∃ S1 : Nat → Prop, S1 = fun b => w.heap.size ≤ b ∧ b < w1.heap.size := ⟨_, rfl⟩
  rw [← hS1] at hF
  have g1 : ∀ x, S1 x → w.heap.size ≤ x := fun x h => by rw [hS1] at h; exact h.1
  have l1 : ∀ x, S1 x → x < w1.heap.size := fun x h => by rw [hS1] at h; exact h.2
  have hsv := save_any hsort hF l1 kM (by decide) (by decide) (nil_man w1 1 2 (by omega) (by omega)) (by decide)
  rw [show saveS ⟨1000, [], [], [], -1, false⟩ kM ⟨1, [], 2⟩ = (0, D1) from save1] at hsv
  have HSV := Lib.hid hsv
  have HB1 := Lib.hid hb1
  have HG1 := Lib.hid g1
  have HL1 := Lib.hid l1
  clear hsv hb1 hF g1 l1 hS1 HN
  unfold manV at HSV
  go_wp2_with fail
  refine HSV.out.mono ?_
  rintro e w2 ⟨rfl, ht⟩
  have HB2 := Lib.hid (below_to HB1.out HB1.out.size HG1.out ht)
  have HG2 := Lib.hid (grow_ge (b := w2) HG1.out HB1.out.size)
  have HL2 := Lib.hid (grow_lt HL1.out ht.1.size)
  have HFU := Lib.hid (Sy.fuse_any ht.2 2 (by omega))
  clear ht HSV HB1 HG1 HL1
  go_wp2_with fail
  refine HFU.out.mono ?_
  rintro e w3 ⟨rfl, ht⟩
  have HB3 := Lib.hid (below_to HB2.out HB2.out.size HG2.out ht)
  have g3 := grow_ge (b := w3) HG2.out HB2.out.size
  have l3 := grow_lt HL2.out ht.1.size
  have hsv := save_any hsort ht.2 l3 kM (by decide) (by decide) (nil_man w3 2 3 (by omega) (by omega)) (by decide)
  rw [show saveS (stFuse D1 2) kM ⟨2, [], 3⟩ = (20, D2) from save2] at hsv
  have HSV := Lib.hid hsv
  have HG3 := Lib.hid g3
  have HL3 := Lib.hid l3
  clear hsv ht g3 l3 HFU HB2 HG2 HL2
  unfold manV at HSV
  go_wp2_with fail
  refine HSV.out.mono ?_
  rintro e w4 ⟨rfl, ht⟩
  have HB4 := Lib.hid (below_to HB3.out HB3.out.size HG3.out ht)
  have HG4 := Lib.hid (grow_ge (b := w4) HG3.out HB3.out.size)
  have HCR := Lib.hid (Ca.crash_any ht.2 0 0 (by omega) (by omega) (by decide))
  clear ht HSV HB3 HG3 HL3
  go_wp2_with fail
  refine HCR.out.mono ?_
  rintro e w5 ⟨rfl, ht⟩
  have HB5 := Lib.hid (below_to HB4.out HB4.out.size HG4.out ht)
  have hld := load_any hsort ht.2 kM (by decide)
  rw [crash3, load1] at hld
  have HLD := Lib.hid hld
  have hF5 := ht.2
  rw [crash3] at hF5
  have HF5 := Lib.hid hF5
  clear ht hld hF5 HCR HB4 HG4
  go_wp2_with fail
  refine HLD.out.mono ?_
  rintro e w6 ⟨hb6, hc⟩
  rcases hc with ⟨m, hm, A, c, rfl, hown⟩ | ⟨k, hk, _⟩
  · obtain rfl : m = m1 := by injection hm with h _; injection h with h; exact h.symm
    have HB6 := Lib.hid (HB5.out.trans (hb6.mono HB5.out.size))
    have HOW := Lib.hid hown
    have hF6 := full_below HF5.out hb6
    have HF6 := Lib.hid hF6
    clear hb6 hown hF6 hm HLD HF5 HB5
    unfold manV
    go_wp2_with fail
    obtain ⟨o1, ho1⟩ : ∃ o1 : Obj, o1 = .cells #[.int .u64 (m1.wal : Int), .slice A m1.runs.length c, .int .u64 (m1.next : Int)] 36 := ⟨_, rfl⟩
    have ha1 : Below w6.heap.size w6 (w6.alloc o1) := (Below.refl _ _).alloc (Nat.le_refl _) _
    have hld := load_any hsort (full_below HF6.out ha1) kX (by decide)
    rw [load2] at hld
    have HLD := Lib.hid hld
    have HNEW := Lib.hid (heap_new w6 o1)
    have HA1 := Lib.hid ha1
    clear hld ha1
    rw [← ho1]
    refine HLD.out.mono ?_
    rintro e w7 ⟨hb7, hc⟩
    rcases hc with ⟨m, hm, _⟩ | ⟨k, hk, _, rfl⟩
    · cases hm
    obtain rfl : k = 3 := by injection hk with _ h; exact h.symm
    have hb7' : Below w6.heap.size w6 w7 := HA1.out.trans (hb7.mono HA1.out.size)
    have hbx : w7.heap[w6.heap.size]? = some o1 := (hb7.block _ (by rw [size_alloc]; exact Nat.lt_succ_self _)).trans HNEW.out
    rw [ho1] at hbx
    have HBX := Lib.hid hbx
    have HO7 := Lib.hid (HOW.out.keep hb7')
    have HB7 := Lib.hid (HB6.out.trans (hb7'.mono HB6.out.size))
    have HS7 := Lib.hid (show w6.heap.size < w7.heap.size from lt_of_at hbx)
    clear hb7 hb7' hbx HLD HNEW HA1 HOW HB6 HF6 ho1 hk
    unfold zeroV
    obtain ⟨o2, ho2⟩ : ∃ o2 : Obj, o2 = .cells #[.int .u64 0, .slice none 0 0, .int .u64 0] 36 := ⟨_, rfl⟩
    have hbx2 := (heap_alloc w7 o2 _ HS7.out).trans HBX.out
    have n0 : (w7.alloc o2).cell? ⟨w6.heap.size, 0, none⟩ = some (.int .u64 (m1.wal : Int)) := by rw [cell_of hbx2]; rfl
    have n1 : (w7.alloc o2).cell? ⟨w6.heap.size, 1, none⟩ = some (.slice A m1.runs.length c) := by rw [cell_of hbx2]; rfl
    have n2 : (w7.alloc o2).cell? ⟨w6.heap.size, 2, none⟩ = some (.int .u64 (m1.next : Int)) := by rw [cell_of hbx2]; rfl
    have ha2 : Below w7.heap.size w7 (w7.alloc o2) := (Below.refl _ _).alloc (Nat.le_refl _) _
    have hsm := same_any (w := w7.alloc o2) (a := m1) (b := ⟨1, [], 2⟩) (A := A) (A' := none) (c := c) (c' := 0) ((HO7.out.keep ha2).nums) (Nums.nil _ _) (by decide) (by decide)
    rw [show same m1 ⟨1, [], 2⟩ = true from same_self m1] at hsm
    unfold manV at hsm
    have HSM := Lib.hid hsm
    have HB8 := Lib.hid (HB7.out.trans (ha2.mono HB7.out.size))
    clear hsm hbx2 ha2
    rw [ho2] at n0 n1 n2 HSM HB8
    clear ho2
    go_wp2_with fail
    refine HSM.out.mono ?_
    rintro e w8 ⟨rfl, hb8⟩
    have hck := check_any hsort (nil_man w8 0 0 (by omega) (by omega)) (by decide)
    rw [show erg ⟨0, [], 0⟩ = 2 from erg_bad bad0] at hck
    unfold manV at hck
    have HCK := Lib.hid hck
    have HB9 := Lib.hid (HB8.out.trans (hb8.mono HB8.out.size))
    clear hck hb8 HSM n0 n1 n2
    go_wp2_with fail
    refine HCK.out.mono ?_
    rintro e w9 ⟨rfl, hb9⟩
    have HB10 := Lib.hid (HB9.out.trans (hb9.mono HB9.out.size))
    clear hb9 HCK
    go_wp2
    go_ret
    exact ⟨rfl, HB10.out⟩
  · injection hk with h _; cases h
end Go.Proofs.YtaoneiicoaiehaaGreat.Av11
