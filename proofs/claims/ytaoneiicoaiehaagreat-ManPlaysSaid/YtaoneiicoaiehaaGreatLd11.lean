/- The contract of man.Load. -/
import Derived.Test.YtaoneiicoaiehaaGreatPg11
import Derived.Test.YtaoneiicoaiehaaGreatDb2
namespace Go.Proofs.YtaoneiicoaiehaaGreat.Ld11
open Go Go.RowKit Go.Lib Go.Proofs.YtaoneiicoaiehaaGreat Go.Proofs.YtaoneiicoaiehaaGreat.Wm Go.Proofs.YtaoneiicoaiehaaGreat.Fl7 Go.Proofs.YtaoneiicoaiehaaGreat.Dh Go.Proofs.YtaoneiicoaiehaaGreat.Dk Go.Proofs.YtaoneiicoaiehaaGreat.Fm Go.Proofs.YtaoneiicoaiehaaGreat.Cl Go.Proofs.YtaoneiicoaiehaaGreat.Ch Go.Proofs.YtaoneiicoaiehaaGreat.St Go.Proofs.YtaoneiicoaiehaaGreat.Rd Go.Proofs.YtaoneiicoaiehaaGreat.Nu11 Go.Proofs.YtaoneiicoaiehaaGreat.Ma11 Go.Proofs.YtaoneiicoaiehaaGreat.Ck11 Go.Proofs.YtaoneiicoaiehaaGreat.Tx11 Go.Proofs.YtaoneiicoaiehaaGreat.Mn11 Go.Proofs.YtaoneiicoaiehaaGreat.Pg11
/-- What Load answers. -/
def loadS (D : St) (k : ByteArray) : Option Man × Int := if (stRead D k 0 16777216).2 = 0 then ((got (stRead D k 0 16777216).1).1, ((got (stRead D k 0 16777216).1).2 : Int)) else (none, (stRead D k 0 16777216).2)
/-- What Load leaves. -/
def Loads (w : World) (r : Option Man × Int) (e : Ending) (w' : World) : Prop :=
  Below w.heap.size w w' ∧
  ((∃ m, r = (some m, 0) ∧ ∃ A c, e = .returned (.tuple #[manV m A c, .int .i64 0]) ∧ Nu11.Own w.heap.size m.runs (.slice A m.runs.length c) w') ∨
   (∃ k : Int, r = (none, k) ∧ k ≠ 0 ∧ e = .returned (.tuple #[zeroV, .int .i64 k])))
theorem read_len (D : St) (k : ByteArray) : (stRead D k 0 16777216).1.length ≤ 16777216 := by
  unfold stRead
  split
  · exact Nat.zero_le _
  · split
    · exact Nat.zero_le _
    · split
      · exact Nat.zero_le _
      · split
        · exact Nat.zero_le _
        · rw [List.length_take]
          exact Nat.le_trans (Nat.min_le_left _ _) (Nat.le_refl _)
theorem full_below' {w w' : World} {S : Nat → Prop} {p : Nat} {D : St} (h : Full w S p D) (hb : Below w.heap.size w w') : Full w' S p D := Full.frame h fun _ _ hl => hb.block _ hl
set_option maxHeartbeats 8000000 in
set_option maxRecDepth 100000 in
theorem load_any (hsort : Sorts) {S : Nat → Prop} {w : World} {p : Nat} {D : St} (h : Full w S p D) (k : ByteArray) (hk : k.size ≤ 1000000) :
    Calls Tryz.prog 17 #[.pointer (some ⟨p, 0, none⟩), .string k] w (Loads w (loadS D k)) := by
  have hb0 : Below w.heap.size w (w.alloc (.cells #[.int .u64 0, .slice none 0 0, .int .u64 0] 36)) := (Below.refl _ _).alloc (Nat.le_refl _) _
  have hrd := Rp.read_at (full_below' h hb0) k 0 16777216 (by unfold maxLen; omega) (by omega) (by omega)
  have hln := read_len D k
  obtain ⟨r, hr⟩ : ∃ r, r = stRead D k 0 16777216 := ⟨_, rfl⟩
  unfold loadS
  rw [← hr] at hrd hln ⊢
  obtain ⟨t, q⟩ := r
  have HB0 := Lib.hid hb0
  have HRD := Lib.hid hrd
  dsimp only at hln ⊢
  obtain ⟨res, hres⟩ : ∃ res, res = (if q = 0 then ((got t).1, ((got t).2 : Int)) else ((none : Option Man), q)) := ⟨_, rfl⟩
  rw [← hres]
  have HRES := Lib.hid hres
  have hbx : ((w.alloc (.cells #[.int .u64 0, .slice none 0 0, .int .u64 0] 36)).alloc (cap1 (.string k))).heap[w.heap.size]? = some (.cells #[.int .u64 0, .slice none 0 0, .int .u64 0] 36) := (heap_alloc _ _ _ (by rw [size_alloc]; exact Nat.lt_succ_self _)).trans (heap_new _ _)
  have hb1 : Below w.heap.size w ((w.alloc (.cells #[.int .u64 0, .slice none 0 0, .int .u64 0] 36)).alloc (cap1 (.string k))) := hb0.alloc (by rw [size_alloc]; omega) _
  have HBX := Lib.hid hbx
  have HB1 := Lib.hid hb1
  clear hb0 hrd hr h hres hbx hb1
  go_enter Tryz.func17, Tryz.ntmps17
  go_wp2_with fail
  refine HRD.out.mono ?_
  rintro e w1 ⟨rfl, rfl⟩
  unfold ret
  generalize (w.alloc (.cells #[.int .u64 0, .slice none 0 0, .int .u64 0] 36)).alloc (cap1 (.string k)) = w1 at HBX HB1 ⊢
  clear HRD HB0
  by_cases hq : q = 0
  · have HG := Lib.hid (get_any hsort (bs t) w1 (by rw [bs_size]; omega))
    have HR := Lib.hid (show res = ((got t).1, ((got t).2 : Int)) from by rw [HRES.out, if_pos hq])
    subst hq
    go_wp2_with fail
    refine HG.out.mono ?_
    rw [bs_list]
    rintro e w2 ⟨hb2, hc⟩
    have HB2 := Lib.hid (HB1.out.trans (hb2.mono HB1.out.size))
    have HBX2 := Lib.hid ((hb2.block _ (lt_of_at HBX.out)).trans HBX.out)
    have HS1 := Lib.hid (show w.heap.size < w1.heap.size from lt_of_at HBX.out)
    clear hb2 HG
    obtain ⟨⟨r0, r1, r2⟩, rf⟩ := zeros HBX2.out
    have rf0 := rf 0
    have rf1 := rf 1
    have rf2 := rf 2
    clear rf
    rcases hc with ⟨m, hg, A, c, rfl, hown⟩ | ⟨kk, hg, hk0, rfl⟩
    · have HO := Lib.hid hown
      have HG := Lib.hid hg
      clear hown hg
      unfold manV
      go_wp2
      obtain ⟨⟨z0, z1, z2⟩, zb, zo⟩ := ans HB2.out HBX2.out rfl (.int .u64 (m.wal : Int)) (.slice A m.runs.length c) (.int .u64 (m.next : Int))
      have ho := own_mono (zo _ _ _ HS1.out HO.out) (Nat.le_of_lt HS1.out)
      have HO2 := Lib.hid ho
      clear ho zo
      generalize ((w2.setCell ⟨w.heap.size, 0, none⟩ (.int .u64 (m.wal : Int))).setCell ⟨w.heap.size, 1, none⟩ (.slice A m.runs.length c)).setCell ⟨w.heap.size, 2, none⟩ (.int .u64 (m.next : Int)) = wz at z0 z1 z2 zb HO2 ⊢
      refine bodyPost_ret (v := .tuple #[manV m A c, .int .i64 0]) (by simp [results, Tryz.results17, go_sem, z0, z1, z2, manV]) rfl ?_
      exact ⟨zb, .inl ⟨m, by rw [HR.out, HG.out]; rfl, A, c, rfl, HO2.out⟩⟩
    · have HG := Lib.hid hg
      have HK0 := Lib.hid hk0
      clear hg hk0
      unfold zeroV
      go_wp2
      obtain ⟨⟨z0, z1, z2⟩, zb, _⟩ := ans HB2.out HBX2.out rfl (.int .u64 0) (.slice none 0 0) (.int .u64 0)
      generalize ((w2.setCell ⟨w.heap.size, 0, none⟩ (.int .u64 0)).setCell ⟨w.heap.size, 1, none⟩ (.slice none 0 0)).setCell ⟨w.heap.size, 2, none⟩ (.int .u64 0) = wz at z0 z1 z2 zb ⊢
      refine bodyPost_ret (v := .tuple #[zeroV, .int .i64 (kk : Int)]) (by simp [results, Tryz.results17, go_sem, z0, z1, z2, zeroV]) rfl ?_
      exact ⟨zb, .inr ⟨kk, by rw [HR.out, HG.out], by have := HK0.out; omega, rfl⟩⟩
  · have HR := Lib.hid (show res = ((none : Option Man), q) from by rw [HRES.out, if_neg hq])
    have HQ := Lib.hid hq
    have hqb : (q == 0) = false := by simpa using hq
    obtain ⟨⟨r0, r1, r2⟩, rf⟩ := zeros HBX.out
    have rf0 := rf 0
    have rf1 := rf 1
    have rf2 := rf 2
    clear rf
    go_wp2
    obtain ⟨⟨z0, z1, z2⟩, zb, _⟩ := ans HB1.out HBX.out rfl (.int .u64 0) (.slice none 0 0) (.int .u64 0)
    generalize ((w1.setCell ⟨w.heap.size, 0, none⟩ (.int .u64 0)).setCell ⟨w.heap.size, 1, none⟩ (.slice none 0 0)).setCell ⟨w.heap.size, 2, none⟩ (.int .u64 0) = wz at z0 z1 z2 zb ⊢
    refine bodyPost_ret (v := .tuple #[zeroV, .int .i64 q]) (by simp [results, Tryz.results17, go_sem, z0, z1, z2, zeroV]) rfl ?_
    exact ⟨zb, .inr ⟨q, HR.out, HQ.out, rfl⟩⟩
end Go.Proofs.YtaoneiicoaiehaaGreat.Ld11
