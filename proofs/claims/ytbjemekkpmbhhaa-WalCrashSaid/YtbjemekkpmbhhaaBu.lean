/- The contracts of disk's ready, burn and mend. -/
import Derived.Test.YtbjemekkpmbhhaaCl
import Derived.Test.YtbjemekkpmbhhaaNm
namespace Go.Proofs.Ytbjemekkpmbhhaa.Bu
open Go Go.RowKit Go.Lib Go.Proofs.Ytbjemekkpmbhhaa.Mp Go.Proofs.Ytbjemekkpmbhhaa.Dh Go.Proofs.Ytbjemekkpmbhhaa.Fm Go.Proofs.Ytbjemekkpmbhhaa.Dk Go.Proofs.Ytbjemekkpmbhhaa.Nm
theorem mkSet {S : Nat → Prop} {w : World} {p : Nat} {d : Dsk} (h : DskAt w S p d) (i : Nat) (v : Value) (d' : Dsk) (hc : d.cells.setIfInBounds i v = d'.cells)
    (hs : d'.m1 = d.m1 ∧ d'.es1 = d.es1 ∧ d'.c1 = d.c1 ∧ d'.m2 = d.m2 ∧ d'.es2 = d.es2 ∧ d'.c2 = d.c2) : Ran S w (w.setCell ⟨p, i, none⟩ v) p d' := by
  obtain ⟨e1, e2, e3, e4, e5, e6⟩ := hs
  have hne : ∀ x o, At w S x o → x ≠ p → At (w.setCell ⟨p, i, none⟩ v) (grow S w (w.setCell ⟨p, i, none⟩ v)) x o := fun x o ha hx => ⟨.inl ha.1, by rw [Below.heap_setCell _ _ _ _ hx]; exact ha.2⟩
  have hm1 : d.m1 ≠ p := fun e => by have := h.now.2; rw [e, h.blk.2] at this; cases this
  have hm2 : d.m2 ≠ p := fun e => by have := h.sure.2; rw [e, h.blk.2] at this; cases this
  refine ⟨Tread.setCell _ _ _ h.blk.1, ⟨⟨.inl h.blk.1, ?_⟩, ?_, ?_, ?_, ?_, ?_, ?_⟩, ?_⟩
  · rw [setCell_heap h.blk.2, hc]
  · rw [e1, e2, e3]; exact hne _ _ h.now hm1
  · rw [e4, e5, e6]; exact hne _ _ h.sure hm2
  · rw [e1, e4]; exact h.ne
  · rw [e2, e3]; exact h.wf1
  · rw [e5, e6]; exact h.wf2
  · rw [e2, e5]
    refine h.texts.keep fun x o hxt ha => hne x o ha ?_
    rintro rfl
    obtain ⟨cs, fr, rfl⟩ := hxt
    have := ha.2
    rw [h.blk.2] at this; cases this
  · rintro x o ⟨cs, T, fr, rfl, hT1, hT2⟩ hx
    rw [Below.heap_setCell _ _ _ _ ?_]
    · exact hx
    · rintro rfl
      rw [h.blk.2] at hx; cases hx; exact hT2 rfl
theorem Ran.refl {S : Nat → Prop} {w : World} {p : Nat} {d : Dsk} (h : DskAt w S p d) : Ran S w w p d :=
  ⟨Tread.refl S w, ⟨h.blk.up grow_up, h.now.up grow_up, h.sure.up grow_up, h.ne, h.wf1, h.wf2, h.texts.keep fun _ _ _ ha => ha.up grow_up⟩, fun _ _ _ h => h⟩
theorem DskAt.up {S S' : Nat → Prop} {w : World} {p : Nat} {d : Dsk} (h : DskAt w S p d) (hs : ∀ b, S b → S' b) : DskAt w S' p d :=
  ⟨h.blk.up hs, h.now.up hs, h.sure.up hs, h.ne, h.wf1, h.wf2, h.texts.keep fun _ _ _ ha => ha.up hs⟩
theorem Ran.trans {S : Nat → Prop} {w w1 w2 : World} {p : Nat} {d1 d2 : Dsk} (h : Ran S w w1 p d1) (k : Ran (grow S w w1) w1 w2 p d2) : Ran S w w2 p d2 :=
  ⟨h.tread.trans k.tread, DskAt.up k.at_ (grow_grow h.tread.size k.tread.size), fun b o ho hb => k.plain b o ho (h.plain b o ho hb)⟩
theorem Ran.drew {S : Nat → Prop} {w w1 : World} {p : Nat} {d1 : Dsk} (h : Ran S w w1 p d1) : Ran S w w1.drew p d1 :=
  ⟨h.tread.drew, ⟨h.at_.blk, h.at_.now, h.at_.sure, h.at_.ne, h.at_.wf1, h.at_.wf2, h.at_.texts⟩, h.plain⟩
theorem Ran.of_drew {S : Nat → Prop} {w w1 : World} {p : Nat} {d1 : Dsk} (h : Ran S w.drew w1 p d1) : Ran S w w1 p d1 :=
  ⟨h.tread.of_drew, h.at_, h.plain⟩
theorem DskAt.drew {S : Nat → Prop} {w : World} {p : Nat} {d : Dsk} (h : DskAt w S p d) : DskAt w.drew S p d := ⟨h.blk, h.now, h.sure, h.ne, h.wf1, h.wf2, h.texts⟩
theorem DskAt.alloc {S : Nat → Prop} {w : World} {p : Nat} {d : Dsk} (h : DskAt w S p d) (o : Obj) : Ran S w (w.alloc o) p d :=
  ⟨Tread.alloc S w o, ⟨h.blk.alloc o, h.now.alloc o, h.sure.alloc o, h.ne, h.wf1, h.wf2, h.texts.keep fun _ _ _ ha => ha.alloc o⟩, fun b _ _ hb => (heap_alloc w o b (lt_of_at hb)).trans hb⟩
theorem DskAt.c {S : Nat → Prop} {w : World} {p : Nat} {d : Dsk} (h : DskAt w S p d) (i : Nat) : w.cell? ⟨p, i, none⟩ = d.cells[i]? := cell_of h.blk.2 i
theorem DskAt.f {S : Nat → Prop} {w : World} {p : Nat} {d : Dsk} (h : DskAt w S p d) (i : Nat) : w.frozen? ⟨p, i, none⟩ = false := free_of h.blk.2 i
def burn (d : Dsk) : Int × Dsk := if d.fuse = -1 then (0, d) else if d.fuse = 0 then (20, { d with still := true }) else (0, { d with fuse := d.fuse - 1 })
theorem burn_any {S : Nat → Prop} {w : World} {p : Nat} {d : Dsk} (h : DskAt w S p d) (hf : -1 ≤ d.fuse ∧ d.fuse ≤ 9223372036854775807) :
    Calls Try.prog 44 #[.pointer (some ⟨p, 0, none⟩)] w fun e w' => e = .returned (.int .i64 (burn d).1) ∧ Ran S w w' p (burn d).2 := by
  have c6 : w.cell? ⟨p, 6, none⟩ = some (.int .i64 d.fuse) := DskAt.c h 6
  have c7 : w.cell? ⟨p, 7, none⟩ = some (.bool d.still) := DskAt.c h 7
  have f6 := DskAt.f h 6
  have f7 := DskAt.f h 7
  have hf1 := hf.1
  have hf2 := hf.2
  have HR := Lib.hid (Ran.refl h)
  have HS6 := Lib.hid (mkSet h 6 (.int .i64 (d.fuse - 1)) { d with fuse := d.fuse - 1 } rfl ⟨rfl, rfl, rfl, rfl, rfl, rfl⟩)
  have HS7 := Lib.hid (mkSet h 7 (.bool true) { d with still := true } rfl ⟨rfl, rfl, rfl, rfl, rfl, rfl⟩)
  clear h hf
  unfold burn
  by_cases h1 : d.fuse = -1
  · rw [if_pos h1]
    have hb : (d.fuse == -1) = true := by simp [h1]
    have H1 := Lib.hid h1
    clear h1
    go_enter Try.func44, Try.ntmps44
    go_wp2
    go_ret
    exact ⟨rfl, HR.out⟩
  · rw [if_neg h1]
    have hb : (d.fuse == -1) = false := by simp [h1]
    by_cases h2 : d.fuse = 0
    · rw [if_pos h2]
      have hb2 : (d.fuse == 0) = true := by simp [h2]
      clear h1 h2
      go_enter Try.func44, Try.ntmps44
      go_wp2
      go_ret
      exact ⟨rfl, HS7.out⟩
    · rw [if_neg h2]
      have hb2 : (d.fuse == 0) = false := by simp [h2]
      have h3 : 1 ≤ d.fuse := by omega
      clear h1 h2
      go_enter Try.func44, Try.ntmps44
      go_wp2
      go_ret
      exact ⟨rfl, HS6.out⟩
theorem mend_any {S : Nat → Prop} {w : World} {p : Nat} {d : Dsk} (h : DskAt w S p d) :
    Calls Try.prog 35 #[.pointer (some ⟨p, 0, none⟩)] w fun e w' => e = .returned (.tuple #[]) ∧ Ran S w w' p { d with fuse := -1, still := false } := by
  have c6 : w.cell? ⟨p, 6, none⟩ = some (.int .i64 d.fuse) := DskAt.c h 6
  have c7 : w.cell? ⟨p, 7, none⟩ = some (.bool d.still) := DskAt.c h 7
  have f6 := DskAt.f h 6
  have f7 := DskAt.f h 7
  have s1 := mkSet h 6 (.int .i64 (-1)) { d with fuse := -1 } rfl ⟨rfl, rfl, rfl, rfl, rfl, rfl⟩
  have s2 := mkSet s1.at_ 7 (.bool false) { d with fuse := -1, still := false } rfl ⟨rfl, rfl, rfl, rfl, rfl, rfl⟩
  have HS := Lib.hid (Ran.trans s1 s2)
  clear h s1 s2
  go_enter Try.func35, Try.ntmps35
  go_wp2
  go_end0
  exact ⟨rfl, HS.out⟩
theorem ready_nil (w : World) (v : Value) :
    Calls Try.prog 38 #[.pointer none, v] w fun e w' => e = .returned (.int .i64 1) ∧ w' = w := by
  go_enter Try.func38, Try.ntmps38
  go_wp2
  go_ret
  exact ⟨rfl, rfl⟩
theorem ready_still {S : Nat → Prop} {w : World} {p : Nat} {d : Dsk} (h : DskAt w S p d) (hst : d.still = true) (v : Value) :
    Calls Try.prog 38 #[.pointer (some ⟨p, 0, none⟩), v] w fun e w' => e = .returned (.int .i64 20) ∧ w' = w := by
  have c7 : w.cell? ⟨p, 7, none⟩ = some (.bool true) := by rw [← hst]; exact DskAt.c h 7
  clear h
  go_enter Try.func38, Try.ntmps38
  go_wp2
  go_ret
  exact ⟨rfl, rfl⟩
theorem ready_none {S : Nat → Prop} {w : World} {p : Nat} {d : Dsk} (h : DskAt w S p d) (hst : d.still = false) :
    Calls Try.prog 38 #[.pointer (some ⟨p, 0, none⟩), .slice none 0 0] w fun e w' => e = .returned (.int .i64 0) ∧ w' = w := by
  have c7 : w.cell? ⟨p, 7, none⟩ = some (.bool false) := by rw [← hst]; exact DskAt.c h 7
  clear h
  go_enter Try.func38, Try.ntmps38
  go_wp2
  go_loop [6, 15, 16, 17, 18, 19, 20, 21, 22] (fun _ i _ _ _ _ _ _ _ => i = .int .i64 0) (fun _ _ _ _ _ _ _ _ _ => 0)
  case atStart => rfl
  case round =>
    subst hrel
    go_wp2
    go_ret
    exact ⟨rfl, rfl⟩
/-- What a row of names is answered. -/
def namesErr (l : List ByteArray) : Int := if l.all nameOk then 0 else 2
set_option maxHeartbeats 1000000 in
theorem ready_names {S : Nat → Prop} {w : World} {p : Nat} {d : Dsk} (h : DskAt w S p d) (hst : d.still = false) (l : List ByteArray) (b cap : Nat) (hc : ∀ i (hi : i < l.length), w.cell? ⟨b, i, none⟩ = some (.string l[i]))
    (hs : ∀ x ∈ l, x.size ≤ maxLen) (hl : l.length ≤ 1000) :
    Calls Try.prog 38 #[.pointer (some ⟨p, 0, none⟩), .slice (some ⟨b, 0, none⟩) l.length cap] w fun e w' => e = .returned (.int .i64 (namesErr l)) ∧ w' = w := by
  have c7 : w.cell? ⟨p, 7, none⟩ = some (.bool false) := by rw [← hst]; exact DskAt.c h 7
  have HC := Lib.hid hc
  have HS := Lib.hid hs
  clear h hc hs
  go_enter Try.func38, Try.ntmps38
  go_wp2
  go_loop [6, 15, 16, 17, 18, 19, 20, 21, 22] (fun _ i _ _ _ _ _ _ _ => ∃ k : Nat, k ≤ l.length ∧ i = .int .i64 k ∧ (l.take k).all nameOk = true) (fun _ i _ _ _ _ _ _ _ => l.length - (intOf i).toNat)
  case atStart => exact ⟨0, by omega, rfl, rfl⟩
  case round =>
    obtain ⟨k, hk, rfl, hall⟩ := hrel
    have HA := Lib.hid hall; clear hall
    by_cases hlt : k < l.length
    · have hcell := HC.out k hlt
      have HN := Lib.hid (fun W => name_any (l[k]'hlt) W (HS.out _ (List.getElem_mem hlt)))
      cases hw : nameOk (l[k]'hlt) with
      | true =>
        have HW := Lib.hid hw; clear hw
        go_wp2_with fail
        refine (HN.out _).mono ?_
        rintro e w1 ⟨rfl, rfl⟩
        rw [HW.out]
        go_wp2
        go_round
        case rel =>
          refine ⟨k + 1, by omega, by go_num, ?_⟩
          rw [List.take_succ_eq_append_getElem hlt, List.all_append, HA.out]
          simp [HW.out]
        case measure => simp [intOf]; omega
      | false =>
        have HW := Lib.hid hw; clear hw
        go_wp2_with fail
        refine (HN.out _).mono ?_
        rintro e w1 ⟨rfl, rfl⟩
        rw [HW.out]
        go_wp2
        go_ret
        refine ⟨?_, rfl⟩
        have hf : l.all nameOk = false := by
          rcases hx : l.all nameOk with _ | _
          · rfl
          · have := List.all_eq_true.1 hx _ (List.getElem_mem hlt)
            rw [HW.out] at this; cases this
        have hn : namesErr l = 2 := by unfold namesErr; rw [hf]; rfl
        rw [hn]; rfl
    · have : k = l.length := by omega
      subst this
      go_wp2
      go_ret
      refine ⟨?_, rfl⟩
      have hf := HA.out
      rw [List.take_length] at hf
      have hn : namesErr l = 0 := by unfold namesErr; rw [hf]; rfl
      rw [hn]; rfl
end Go.Proofs.Ytbjemekkpmbhhaa.Bu
