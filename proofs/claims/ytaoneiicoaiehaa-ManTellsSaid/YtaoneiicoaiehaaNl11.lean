/- ManNil's walk. -/
import Derived.Test.YtaoneiicoaiehaaAv11
namespace Go.Proofs.Ytaoneiicoaiehaa.Nl11
open Go Go.RowKit Go.Lib Go.Proofs.Ytaoneiicoaiehaa Go.Proofs.Ytaoneiicoaiehaa.Wm Go.Proofs.Ytaoneiicoaiehaa.Fl7 Go.Proofs.Ytaoneiicoaiehaa.Dh Go.Proofs.Ytaoneiicoaiehaa.Dk Go.Proofs.Ytaoneiicoaiehaa.Fm Go.Proofs.Ytaoneiicoaiehaa.Cl Go.Proofs.Ytaoneiicoaiehaa.Bu Go.Proofs.Ytaoneiicoaiehaa.Ch Go.Proofs.Ytaoneiicoaiehaa.Nm Go.Proofs.Ytaoneiicoaiehaa.St Go.Proofs.Ytaoneiicoaiehaa.Sy Go.Proofs.Ytaoneiicoaiehaa.Nu11 Go.Proofs.Ytaoneiicoaiehaa.Ma11 Go.Proofs.Ytaoneiicoaiehaa.Ck11 Go.Proofs.Ytaoneiicoaiehaa.Tx11 Go.Proofs.Ytaoneiicoaiehaa.Mn11 Go.Proofs.Ytaoneiicoaiehaa.Pg11 Go.Proofs.Ytaoneiicoaiehaa.Gb11 Go.Proofs.Ytaoneiicoaiehaa.Sv11 Go.Proofs.Ytaoneiicoaiehaa.Ld11 Go.Proofs.Ytaoneiicoaiehaa.Ap11 Go.Proofs.Ytaoneiicoaiehaa.Sa11 Go.Proofs.Ytaoneiicoaiehaa.Av11
set_option maxRecDepth 100000 in
/-- Read of no disk. -/
theorem read_nil (w : World) (k : ByteArray) (o n : Int) :
    Calls Try.prog 43 #[.pointer none, .string k, .int .i64 o, .int .i64 n] w fun e w' => e = .returned (.tuple #[.string ⟨#[]⟩, .int .i64 1]) ∧ Below w.heap.size w w' := by
  have HR := Lib.hid (ready_nil (w.alloc (cap1 (.string k))) (.slice (some ⟨w.heap.size, 0, none⟩) 1 1))
  have HB : Hid (Below w.heap.size w (w.alloc (cap1 (.string k)))) := Lib.hid ((Below.refl _ w).alloc (Nat.le_refl _) _)
  go_enter Try.func43, Try.ntmps43
  go_wp2_with (go_at_call 57; refine HR.out.mono ?_; rintro e w1 ⟨rfl, rfl⟩)
  go_ret2
  exact ⟨rfl, HB.out⟩
set_option maxRecDepth 100000 in
/-- Load of no disk. -/
theorem load_nil (w : World) (k : ByteArray) :
    Calls Try.prog 20 #[.pointer none, .string k] w fun e w' => e = .returned (.tuple #[zeroV, .int .i64 1]) ∧ Below w.heap.size w w' := by
  have hb0 : Below w.heap.size w (w.alloc (.cells #[.int .u64 0, .slice none 0 0, .int .u64 0] 25)) := (Below.refl _ _).alloc (Nat.le_refl _) _
  have HR := Lib.hid (read_nil (w.alloc (.cells #[.int .u64 0, .slice none 0 0, .int .u64 0] 25)) k 0 16777216)
  have HB0 := Lib.hid hb0
  clear hb0
  go_enter Try.func20, Try.ntmps20
  go_wp2_with fail
  refine HR.out.mono ?_
  rintro e w1 ⟨rfl, hb1⟩
  have hbx : w1.heap[w.heap.size]? = some (.cells #[.int .u64 0, .slice none 0 0, .int .u64 0] 25) := (hb1.block _ (by rw [size_alloc]; exact Nat.lt_succ_self _)).trans (heap_new _ _)
  have HBX := Lib.hid hbx
  have HB1 := Lib.hid (HB0.out.trans (hb1.mono (by rw [size_alloc]; omega)))
  clear hb1 hbx HR HB0
  obtain ⟨⟨r0, r1, r2⟩, rf⟩ := zeros HBX.out
  have rf0 := rf 0
  have rf1 := rf 1
  have rf2 := rf 2
  clear rf
  go_wp2
  obtain ⟨⟨z0, z1, z2⟩, zb, _⟩ := ans HB1.out HBX.out rfl (.int .u64 0) (.slice none 0 0) (.int .u64 0)
  generalize ((w1.setCell ⟨w.heap.size, 0, none⟩ (.int .u64 0)).setCell ⟨w.heap.size, 1, none⟩ (.slice none 0 0)).setCell ⟨w.heap.size, 2, none⟩ (.int .u64 0) = wz at z0 z1 z2 zb ⊢
  refine bodyPost_ret (v := .tuple #[zeroV, .int .i64 1]) (by simp [results, Try.results20, go_sem, z0, z1, z2, zeroV]) rfl ?_
  exact ⟨rfl, zb⟩
set_option maxRecDepth 100000 in
/-- Save to no disk. -/
theorem save_nil (w : World) (k : ByteArray) (m : Man) (A : Option Addr) (c : Nat) :
    Calls Try.prog 16 #[.pointer none, .string k, manV m A c] w fun e w' => e = .returned (.int .i64 1) ∧ Below w.heap.size w w' := by
  unfold manV
  have HB : Hid (Below w.heap.size w (((w.alloc (.cells #[.pointer none] 38)).alloc (.cells #[.string k] 9)).alloc (.cells #[.int .u64 (m.wal : Int), .slice A m.runs.length c, .int .u64 (m.next : Int)] 25))) :=
    Lib.hid ((((Below.refl _ _).alloc (Nat.le_refl _) _).alloc (by rw [size_alloc]; omega) _).alloc (by simp only [size_alloc]; omega) _)
  go_enter Try.func16, Try.ntmps16
  go_wp2
  go_ret
  exact ⟨rfl, HB.out⟩
set_option maxRecDepth 100000 in
theorem large_any (w : World) (m : Man) (A : Option Addr) (c : Nat) :
    Calls Try.prog 6 #[manV m A c] w fun e w' => e = .returned (.bool (decide (300 < m.runs.length))) ∧ Below w.heap.size w w' := by
  unfold manV
  obtain ⟨n, hn⟩ : ∃ n, n = m.runs.length := ⟨_, rfl⟩
  rw [← hn]
  clear hn
  have HB : Hid (Below w.heap.size w (w.alloc (.cells #[.int .u64 (m.wal : Int), .slice A n c, .int .u64 (m.next : Int)] 25))) := Lib.hid ((Below.refl _ _).alloc (Nat.le_refl _) _)
  go_enter Try.func6, Try.ntmps6
  go_wp2
  go_ret
  exact ⟨by simp; omega, HB.out⟩
set_option maxHeartbeats 8000000 in
set_option maxRecDepth 100000 in
theorem walk (hsort : Sorts) (w : World) (m : Man) (A : Option Addr) (c : Nat) (name : ByteArray) (_hm : ManAt w m A c ∧ m.runs.length ≤ 9223372036854775807) (_hn : name.size ≤ 140737488351232) :
    Calls Try.prog 5 #[manV m A c, .string name] w fun e w' => e = .returned (.bool true) ∧ Below w.heap.size w w' := by
  obtain ⟨o, ho⟩ : ∃ o : Obj, o = .cells #[.int .u64 (m.wal : Int), .slice A m.runs.length c, .int .u64 (m.next : Int)] 25 := ⟨_, rfl⟩
  have hb0 : Below w.heap.size w (w.alloc o) := (Below.refl _ _).alloc (Nat.le_refl _) _
  have hlg := large_any (w.alloc o) m A c
  have HB0 := Lib.hid hb0
  have HNEW := Lib.hid (heap_new w o)
  unfold manV at hlg ⊢
  rw [ho] at hlg HB0 HNEW
  have HLG := Lib.hid hlg
  clear hb0 hlg ho
  go_enter Try.func5, Try.ntmps5
  go_wp2_with fail
  refine HLG.out.mono ?_
  rintro e w1 ⟨rfl, hb1⟩
  have hbx : w1.heap[w.heap.size]? = some (.cells #[.int .u64 (m.wal : Int), .slice A m.runs.length c, .int .u64 (m.next : Int)] 25) := (hb1.block _ (by rw [size_alloc]; exact Nat.lt_succ_self _)).trans HNEW.out
  have HBX := Lib.hid hbx
  have HB1 := Lib.hid (HB0.out.trans (hb1.mono (by rw [size_alloc]; omega)))
  clear hb1 hbx HLG HB0 HNEW
  -- too much: the examples alone
  by_cases hbig : 300 < m.runs.length
  · have hd : decide (300 < m.runs.length) = true := decide_eq_true hbig
    rw [hd]
    clear hd hbig
    have HA := Lib.hid (alive_any hsort w1)
    go_wp2_with fail
    refine HA.out.mono ?_
    rintro e w2 ⟨rfl, hb2⟩
    have HB2 := Lib.hid (HB1.out.trans (hb2.mono HB1.out.size))
    clear hb2
    go_wp2
    go_ret
    exact ⟨rfl, HB2.out⟩
  · have hd : decide (300 < m.runs.length) = false := decide_eq_false hbig
    rw [hd]
    clear hd
    by_cases hnm : 100 < name.size
    · have hz : (name.size : Int) > 100 := by omega
      have HA := Lib.hid (alive_any hsort w1)
      go_wp2_with fail
      refine HA.out.mono ?_
      rintro e w2 ⟨rfl, hb2⟩
      have HB2 := Lib.hid (HB1.out.trans (hb2.mono HB1.out.size))
      clear hb2
      go_wp2
      go_ret
      exact ⟨rfl, HB2.out⟩
    · have hz : ¬ (name.size : Int) > 100 := by omega
      have HL := Lib.hid (load_nil w1 name)
      go_wp2_with fail
      refine HL.out.mono ?_
      rintro e w2 ⟨rfl, hb2⟩
      have HB2 := Lib.hid (HB1.out.trans (hb2.mono HB1.out.size))
      have HBX2 := Lib.hid ((hb2.block _ (lt_of_at HBX.out)).trans HBX.out)
      have HS2 := Lib.hid (show w.heap.size < w2.heap.size from lt_of_at HBX2.out)
      clear hb2 HL
      unfold zeroV
      obtain ⟨o2, ho2⟩ : ∃ o2 : Obj, o2 = .cells #[.int .u64 0, .slice none 0 0, .int .u64 0] 25 := ⟨_, rfl⟩
      have hbx2 := (heap_alloc w2 o2 _ HS2.out).trans HBX2.out
      have n0 : (w2.alloc o2).cell? ⟨w.heap.size, 0, none⟩ = some (.int .u64 (m.wal : Int)) := by rw [cell_of hbx2]; rfl
      have n1 : (w2.alloc o2).cell? ⟨w.heap.size, 1, none⟩ = some (.slice A m.runs.length c) := by rw [cell_of hbx2]; rfl
      have n2 : (w2.alloc o2).cell? ⟨w.heap.size, 2, none⟩ = some (.int .u64 (m.next : Int)) := by rw [cell_of hbx2]; rfl
      have hsv := save_nil (w2.alloc o2) name m A c
      unfold manV at hsv
      have HSV := Lib.hid hsv
      have HB3 := Lib.hid (HB2.out.alloc HB2.out.size o2)
      have HN2 := Lib.hid (heap_new w2 o2)
      clear hsv hbx2
      rw [ho2] at n0 n1 n2 HSV HB3 HN2
      clear ho2
      go_wp2_with fail
      refine HSV.out.mono ?_
      rintro e w3 ⟨rfl, hb3⟩
      have hz3 : w3.heap[w2.heap.size]? = some (.cells #[.int .u64 0, .slice none 0 0, .int .u64 0] 25) := (hb3.block _ (by rw [size_alloc]; exact Nat.lt_succ_self _)).trans HN2.out
      obtain ⟨⟨r0, r1, r2⟩, _⟩ := zeros hz3
      have hsm := same_any (w := w3) (a := ⟨0, [], 0⟩) (b := ⟨0, [], 0⟩) (A := none) (A' := none) (c := 0) (c' := 0) (Nums.nil _ _) (Nums.nil _ _) (by decide) (by decide)
      rw [same_self] at hsm
      unfold manV at hsm
      have HSM := Lib.hid hsm
      have HB4 := Lib.hid (HB3.out.trans (hb3.mono HB3.out.size))
      clear hsm hb3 hz3 n0 n1 n2 HSV
      go_wp2_with fail
      refine HSM.out.mono ?_
      rintro e w4 ⟨rfl, hb4⟩
      have HB5 := Lib.hid (HB4.out.trans (hb4.mono HB4.out.size))
      have HA := Lib.hid (alive_any hsort w4)
      clear hb4 HSM r0 r1 r2
      go_wp2_with fail
      refine HA.out.mono ?_
      rintro e w5 ⟨rfl, hb5⟩
      have HB6 := Lib.hid (HB5.out.trans (hb5.mono HB5.out.size))
      clear hb5 HA
      go_wp2
      go_ret
      exact ⟨rfl, HB6.out⟩
end Go.Proofs.Ytaoneiicoaiehaa.Nl11
