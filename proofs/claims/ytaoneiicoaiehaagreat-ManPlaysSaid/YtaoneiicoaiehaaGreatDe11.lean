/- The contract of the document's burn. -/
import Derived.Test.YtaoneiicoaiehaaGreatDd11
namespace Go.Proofs.YtaoneiicoaiehaaGreat.De11
open Go Go.RowKit Go.Lib Go.Proofs.YtaoneiicoaiehaaGreat Go.Proofs.YtaoneiicoaiehaaGreat.Dh Go.Proofs.YtaoneiicoaiehaaGreat.Dk Go.Proofs.YtaoneiicoaiehaaGreat.Fm Go.Proofs.YtaoneiicoaiehaaGreat.Nm Go.Proofs.YtaoneiicoaiehaaGreat.St Go.Proofs.YtaoneiicoaiehaaGreat.Sy Go.Proofs.YtaoneiicoaiehaaGreat.Ol11 Go.Proofs.YtaoneiicoaiehaaGreat.Fr11 Go.Proofs.YtaoneiicoaiehaaGreat.Fq11 Go.Proofs.YtaoneiicoaiehaaGreat.Ck11 Go.Proofs.YtaoneiicoaiehaaGreat.Fz11 Go.Proofs.YtaoneiicoaiehaaGreat.Fw11 Go.Proofs.YtaoneiicoaiehaaGreat.Fx11 Go.Proofs.YtaoneiicoaiehaaGreat.Fy11 Go.Proofs.YtaoneiicoaiehaaGreat.Ap11 Go.Proofs.YtaoneiicoaiehaaGreat.Kp11 Go.Proofs.YtaoneiicoaiehaaGreat.Sv11 Go.Proofs.YtaoneiicoaiehaaGreat.Da11 Go.Proofs.YtaoneiicoaiehaaGreat.Db11 Go.Proofs.YtaoneiicoaiehaaGreat.Dc11 Go.Proofs.YtaoneiicoaiehaaGreat.Dd11
/-- Nothing but one block is touched. -/
structure Only (q : Nat) (w w' : World) : Prop where
  os : w'.os = w.os
  tape : w'.tape = w.tape
  output : w'.output = w.output
  size : w'.heap.size = w.heap.size
  block : ∀ b, b ≠ q → w'.heap[b]? = w.heap[b]?
theorem Only.refl (q : Nat) (w : World) : Only q w w := ⟨rfl, rfl, rfl, rfl, fun _ _ => rfl⟩
theorem Only.set {q : Nat} {w w' : World} (h : Only q w w') (i : Nat) (v : Value) : Only q w (w'.setCell ⟨q, i, none⟩ v) :=
  ⟨h.os, h.tape, h.output, (World.size_setCell ..).trans h.size, fun b hb => (heap_setCell_other _ _ _ _ hb).trans (h.block b hb)⟩
theorem Only.tread {q : Nat} {w w' : World} (h : Only q w w') {Q : Nat → Prop} (hq : Q q) : Tread Q w w' := ⟨h.os, h.tape, h.output, by rw [h.size]; exact Nat.le_refl _, fun b _ hn => h.block b fun e => hn (e ▸ hq)⟩
section
variable {w w' : World} {Q : Nat → Prop} {q : Nat} {D : St} {R R' : List Fl} {A A' : Option Addr} {c c' : Nat} {v : Value}
theorem neA (h : RefIs w Q q D R R' A A' c c' v) {b : Nat} (hb : (Value.slice A R.length c).ownBlock = some b) : b ≠ q := by
  rintro rfl
  obtain ⟨cs, hc⟩ := h.now.blk hb
  rw [h.blk.2] at hc
  injection hc with hc
  injection hc with _ e _
  exact absurd e (by decide)
theorem neB (h : RefIs w Q q D R R' A A' c c' v) {b : Nat} (hb : (Value.slice A' R'.length c').ownBlock = some b) : b ≠ q := by
  rintro rfl
  obtain ⟨cs, hc⟩ := h.sure.blk hb
  rw [h.blk.2] at hc
  injection hc with hc
  injection hc with _ e _
  exact absurd e (by decide)
theorem neC (h : RefIs w Q q D R R' A A' c c' v) {b : Nat} (hb : v.ownBlock = some b) : b ≠ q := by
  rintro rfl
  obtain ⟨cs, hc⟩ := h.row.blk hb
  rw [h.blk.2] at hc
  injection hc with hc
  injection hc with _ e _
  exact absurd e (by decide)
theorem is_only (h : RefIs w Q q D R R' A A' c c' v) (ho : Only q w w') (D2 : St) (hb : w'.heap[q]? = some (.cells #[.slice A R.length c, .slice A' R'.length c', v, .int .i64 D2.room, .int .i64 D2.fuse, .bool D2.still] 43 (0, 0)))
    (e1 : D2.now = D.now) (e2 : D2.sure = D.sure) (e3 : D2.loose = D.loose) (hg : St.Good D2) : RefIs w' Q q D2 R R' A A' c c' v :=
  ⟨⟨h.blk.1, hb⟩, h.now.keep1 (fun b hb => ho.block b (neA h hb)) (fun _ x => x), h.sure.keep1 (fun b hb => ho.block b (neB h hb)) (fun _ x => x), by rw [e1]; exact h.rnow, by rw [e2]; exact h.rsure,
    by rw [e3]; exact h.row.keep1 (fun b hb => ho.block b (neC h hb)) (fun _ x => x), ⟨by rw [e1]; exact h.fit.now, by rw [e2]; exact h.fit.sure, by rw [e3]; exact h.fit.loose⟩, hg⟩
end
/-- What burn answers and leaves. -/
def Burns (w : World) (Q : Nat → Prop) (q : Nat) (D : St) (R R' : List Fl) (A A' : Option Addr) (c c' : Nat) (v : Value) (e : Ending) (w' : World) : Prop :=
  e = .returned (.bool (decide ((burnt D).1 = 0))) ∧ Only q w w' ∧ RefIs w' Q q (burnt D).2 R R' A A' c c' v
set_option maxRecDepth 100000 in
set_option maxHeartbeats 4000000 in
theorem burn_any {w : World} {Q : Nat → Prop} {q : Nat} {D : St} {R R' : List Fl} {A A' : Option Addr} {c c' : Nat} {v : Value} (h : RefIs w Q q D R R' A A' c c' v) :
    Calls Tryz.prog 54 #[.pointer (some ⟨q, 0, none⟩)] w (Burns w Q q D R R' A A' c c' v) := by
  have hfu := h.good.fuse
  have c4 : w.cell? ⟨q, 4, none⟩ = some (.int .i64 D.fuse) := by rw [cell_of h.blk.2]; rfl
  have c5 : w.cell? ⟨q, 5, none⟩ = some (.bool D.still) := by rw [cell_of h.blk.2]; rfl
  have f4 := free_of h.blk.2 4
  have f5 := free_of h.blk.2 5
  have hgb := St.Good.burnt h.good
  have hset := fun (i : Nat) (x : Value) => setCell_heap h.blk.2 i x
  by_cases h0 : D.fuse = 0
  · have hb : burnt D = (20, { D with still := true }) := by unfold burnt; rw [if_neg (by omega), if_pos h0]
    have HR : Hid (RefIs (w.setCell ⟨q, 5, none⟩ (.bool true)) Q q (burnt D).2 R R' A A' c c' v) := Lib.hid (by
      rw [hb]
      exact is_only h ((Only.refl q w).set 5 _) _ ((hset 5 _).trans rfl) rfl rfl rfl (by rw [hb] at hgb; exact hgb))
    have HB : Hid ((burnt D).1 = 20) := Lib.hid (by rw [hb])
    rw [h0] at c4
    clear h hset hgb hb h0 hfu
    go_enter Tryz.func54, Tryz.ntmps54
    go_wp2
    go_ret
    exact ⟨by rw [HB.out]; rfl, (Only.refl q w).set 5 _, HR.out⟩
  · obtain ⟨F, hF⟩ : ∃ F : Int, max (D.fuse - 1) (-1) = F := ⟨_, rfl⟩
    have hb : burnt D = (0, { D with fuse := F }) := by
      unfold burnt
      by_cases h1 : D.fuse = -1
      · rw [if_pos h1]
        have : F = D.fuse := by omega
        rw [this]
      · rw [if_neg h1, if_neg h0]
        have : F = D.fuse - 1 := by omega
        rw [this]
    have HR : Hid (RefIs (w.setCell ⟨q, 4, none⟩ (.int .i64 F)) Q q (burnt D).2 R R' A A' c c' v) := Lib.hid (by
      rw [hb]
      exact is_only h ((Only.refl q w).set 4 _) _ ((hset 4 _).trans rfl) rfl rfl rfl (by rw [hb] at hgb; exact hgb))
    have HB : Hid ((burnt D).1 = 0) := Lib.hid (by rw [hb])
    have hz : (D.fuse == 0) = false := by simpa using h0
    generalize D.fuse = f at c4 hF hz hfu
    clear h hset hgb hb h0
    go_enter Tryz.func54, Tryz.ntmps54
    go_wp2
    go_ret
    exact ⟨by rw [HB.out]; rfl, (Only.refl q w).set 4 _, HR.out⟩
end Go.Proofs.YtaoneiicoaiehaaGreat.De11
