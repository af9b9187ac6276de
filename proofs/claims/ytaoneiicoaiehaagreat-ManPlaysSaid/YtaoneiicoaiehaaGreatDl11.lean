/- The contract of the document's own Load (package fascicleref11). -/
import Derived.Test.YtaoneiicoaiehaaGreatDk11
import Derived.Test.YtaoneiicoaiehaaGreatRh11
import Derived.Test.YtaoneiicoaiehaaGreatLd11
namespace Go.Proofs.YtaoneiicoaiehaaGreat.Dl11
open Go Go.RowKit Go.Lib Go.Proofs.YtaoneiicoaiehaaGreat Go.Proofs.YtaoneiicoaiehaaGreat.Dh Go.Proofs.YtaoneiicoaiehaaGreat.Dk Go.Proofs.YtaoneiicoaiehaaGreat.Fm Go.Proofs.YtaoneiicoaiehaaGreat.Cl Go.Proofs.YtaoneiicoaiehaaGreat.Nm Go.Proofs.YtaoneiicoaiehaaGreat.St Go.Proofs.YtaoneiicoaiehaaGreat.Sy Go.Proofs.YtaoneiicoaiehaaGreat.Ol11 Go.Proofs.YtaoneiicoaiehaaGreat.Fr11 Go.Proofs.YtaoneiicoaiehaaGreat.Fq11 Go.Proofs.YtaoneiicoaiehaaGreat.Ck11 Go.Proofs.YtaoneiicoaiehaaGreat.Fz11 Go.Proofs.YtaoneiicoaiehaaGreat.Fw11 Go.Proofs.YtaoneiicoaiehaaGreat.Fx11 Go.Proofs.YtaoneiicoaiehaaGreat.Fy11 Go.Proofs.YtaoneiicoaiehaaGreat.Ap11 Go.Proofs.YtaoneiicoaiehaaGreat.Kp11 Go.Proofs.YtaoneiicoaiehaaGreat.Sv11 Go.Proofs.YtaoneiicoaiehaaGreat.Da11 Go.Proofs.YtaoneiicoaiehaaGreat.Db11 Go.Proofs.YtaoneiicoaiehaaGreat.Dc11 Go.Proofs.YtaoneiicoaiehaaGreat.Dd11 Go.Proofs.YtaoneiicoaiehaaGreat.De11 Go.Proofs.YtaoneiicoaiehaaGreat.Df11 Go.Proofs.YtaoneiicoaiehaaGreat.Dg11 Go.Proofs.YtaoneiicoaiehaaGreat.Di11 Go.Proofs.YtaoneiicoaiehaaGreat.Dj11 Go.Proofs.YtaoneiicoaiehaaGreat.Nu11 Go.Proofs.YtaoneiicoaiehaaGreat.Ma11 Go.Proofs.YtaoneiicoaiehaaGreat.Pg11 Go.Proofs.YtaoneiicoaiehaaGreat.Gb11 Go.Proofs.YtaoneiicoaiehaaGreat.Mn11 Go.Proofs.YtaoneiicoaiehaaGreat.Ld11
/-- What the document's Load leaves. -/
def RLoads (w : World) (r : Option Man × Int) (e : Ending) (w' : World) : Prop :=
  Below w.heap.size w w' ∧
  ((∃ m, r = (some m, 0) ∧ ∃ A c, e = .returned (.tuple #[manV m A c, .int .i64 0]) ∧ Nums w' A m.runs) ∨
   (∃ k : Int, r = (none, k) ∧ k ≠ 0 ∧ e = .returned (.tuple #[zeroV, .int .i64 k])))
theorem nums_ans {W : World} {A : Option Addr} {l : List Nat} {r : Nat} (h : Nums W A l) (hne : ∀ b o, A = some ⟨b, o, none⟩ → r < b) (u0 u1 u2 : Value) : Nums (((W.setCell ⟨r, 0, none⟩ u0).setCell ⟨r, 1, none⟩ u1).setCell ⟨r, 2, none⟩ u2) A l :=
  Rh11.nums_set (Rh11.nums_set (Rh11.nums_set h (fun b o e => Nat.ne_of_gt (hne b o e)) 0 _) (fun b o e => Nat.ne_of_gt (hne b o e)) 1 _) (fun b o e => Nat.ne_of_gt (hne b o e)) 2 _
set_option maxHeartbeats 8000000 in
set_option maxRecDepth 100000 in
theorem rload_any {w : World} {Q : Nat → Prop} {q0 : Nat} {D : St} (h : RefAt w Q q0 D) {k : ByteArray} (hk : Nm2 k) :
    Calls Tryz.prog 23 #[.pointer (some ⟨q0, 0, none⟩), .string k] w (RLoads w (loadS D k)) := by
  have hb0 : Below w.heap.size w (w.alloc (.cells #[.int .u64 0, .slice none 0 0, .int .u64 0] 36)) := (Below.refl _ _).alloc (Nat.le_refl _) _
  have hrd := Di11.read_any (h.below hb0) hk
  have hln := read_len D k
  obtain ⟨r, hr⟩ : ∃ r, r = stRead D k 0 16777216 := ⟨_, rfl⟩
  unfold loadS
  rw [← hr] at hrd hln ⊢
  obtain ⟨t, q⟩ := r
  have HRD := Lib.hid hrd
  dsimp only at hln ⊢
  obtain ⟨res, hres⟩ : ∃ res, res = (if q = 0 then ((got t).1, ((got t).2 : Int)) else ((none : Option Man), q)) := ⟨_, rfl⟩
  rw [← hres]
  have HRES := Lib.hid hres
  have hbx := heap_new w (.cells #[.int .u64 0, .slice none 0 0, .int .u64 0] 36)
  have HBX := Lib.hid hbx
  have HB1 := Lib.hid hb0
  clear hb0 hrd hr h hres hbx
  go_enter Tryz.func23, Tryz.ntmps23
  go_wp2_with fail
  refine HRD.out.mono ?_
  rintro e w1 ⟨rfl, rfl⟩
  generalize w.alloc (.cells #[.int .u64 0, .slice none 0 0, .int .u64 0] 36) = w1 at HBX HB1 ⊢
  clear HRD
  by_cases hq : q = 0
  · have HG := Lib.hid (Rh11.rget_any (Fl7.bs t) w1 (by rw [Fl7.bs_size]; omega))
    have HR := Lib.hid (show res = ((got t).1, ((got t).2 : Int)) from by rw [HRES.out, if_pos hq])
    subst hq
    go_wp2_with fail
    refine HG.out.mono ?_
    rw [Fl7.bs_list]
    rintro e w2 ⟨hb2, hc⟩
    have HB2 := Lib.hid (HB1.out.trans (hb2.mono HB1.out.size))
    have HBX2 := Lib.hid ((hb2.block _ (lt_of_at HBX.out)).trans HBX.out)
    have HS1 := Lib.hid (show w.heap.size < w1.heap.size from lt_of_at HBX.out)
    clear hb2 HG
    obtain ⟨⟨r0, r1, r2⟩, rf⟩ := zeros HBX2.out
    have rf0 := rf 0
    have rf1 := rf 1
    have rf2 := rf 2
    clear rf
    rcases hc with ⟨m, hg, A, c, rfl, hman, hlo⟩ | ⟨kk, hg, hk0, rfl⟩
    · have HO := Lib.hid hman.nums
      have HLO := Lib.hid hlo
      have HG := Lib.hid hg
      clear hman hg hlo
      unfold manV
      go_wp2
      obtain ⟨⟨z0, z1, z2⟩, zb, _⟩ := ans HB2.out HBX2.out rfl (.int .u64 (m.wal : Int)) (.slice A m.runs.length c) (.int .u64 (m.next : Int))
      have ho := nums_ans (r := w.heap.size) HO.out (fun b o e => by have := HLO.out b o e; have := HS1.out; omega) (.int .u64 (m.wal : Int)) (.slice A m.runs.length c) (.int .u64 (m.next : Int))
      have HO2 := Lib.hid ho
      clear ho
      generalize ((w2.setCell ⟨w.heap.size, 0, none⟩ (.int .u64 (m.wal : Int))).setCell ⟨w.heap.size, 1, none⟩ (.slice A m.runs.length c)).setCell ⟨w.heap.size, 2, none⟩ (.int .u64 (m.next : Int)) = wz at z0 z1 z2 zb HO2 ⊢
      refine bodyPost_ret (v := .tuple #[manV m A c, .int .i64 0]) (by simp [results, Tryz.results23, go_sem, z0, z1, z2, manV]) rfl ?_
      exact ⟨zb, .inl ⟨m, by rw [HR.out, HG.out]; rfl, A, c, rfl, HO2.out⟩⟩
    · have HG := Lib.hid hg
      have HK0 := Lib.hid hk0
      clear hg hk0
      unfold zeroV
      go_wp2
      obtain ⟨⟨z0, z1, z2⟩, zb, _⟩ := ans HB2.out HBX2.out rfl (.int .u64 0) (.slice none 0 0) (.int .u64 0)
      generalize ((w2.setCell ⟨w.heap.size, 0, none⟩ (.int .u64 0)).setCell ⟨w.heap.size, 1, none⟩ (.slice none 0 0)).setCell ⟨w.heap.size, 2, none⟩ (.int .u64 0) = wz at z0 z1 z2 zb ⊢
      refine bodyPost_ret (v := .tuple #[zeroV, .int .i64 (kk : Int)]) (by simp [results, Tryz.results23, go_sem, z0, z1, z2, zeroV]) rfl ?_
      exact ⟨zb, .inr ⟨kk, by rw [HR.out, HG.out], by have := HK0.out; omega, rfl⟩⟩
  · have HR := Lib.hid (show res = ((none : Option Man), q) from by rw [HRES.out, if_neg hq])
    have HQ := Lib.hid hq
    have hqb : (q == 0) = false := by simpa using hq
    obtain ⟨⟨r0, r1, r2⟩, rf⟩ := zeros HBX.out
    have rf0 := rf 0
    have rf1 := rf 1
    have rf2 := rf 2
    clear rf
    go_wp2
    obtain ⟨⟨z0, z1, z2⟩, zb, _⟩ := ans HB1.out HBX.out rfl (.int .u64 0) (.slice none 0 0) (.int .u64 0)
    generalize ((w1.setCell ⟨w.heap.size, 0, none⟩ (.int .u64 0)).setCell ⟨w.heap.size, 1, none⟩ (.slice none 0 0)).setCell ⟨w.heap.size, 2, none⟩ (.int .u64 0) = wz at z0 z1 z2 zb ⊢
    refine bodyPost_ret (v := .tuple #[zeroV, .int .i64 q]) (by simp [results, Tryz.results23, go_sem, z0, z1, z2, zeroV]) rfl ?_
    exact ⟨zb, .inr ⟨q, HR.out, HQ.out, rfl⟩⟩
end Go.Proofs.YtaoneiicoaiehaaGreat.Dl11
