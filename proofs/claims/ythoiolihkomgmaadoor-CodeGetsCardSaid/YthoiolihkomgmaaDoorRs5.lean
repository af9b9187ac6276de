/- code.Get: a value's reading; and the contracts of code.Get and code.GetRow. -/
import Derived.Test.YthoiolihkomgmaaDoorRr5
import Derived.Deep.RegionHeld3
import Derived.Deep.DrawnRows
namespace Go.Proofs.YthoiolihkomgmaaDoor.Rs5
open Go Go.RowKit Go.Proofs Go.Proofs.YthoiolihkomgmaaDoor.Wm Go.Proofs.YthoiolihkomgmaaDoor.Vm Go.Proofs.YthoiolihkomgmaaDoor.Vr Go.Proofs.YthoiolihkomgmaaDoor.Vs Go.Proofs.YthoiolihkomgmaaDoor.Vc Go.Proofs.YthoiolihkomgmaaDoor.Vh Go.Proofs.YthoiolihkomgmaaDoor.Vk Go.Proofs.YthoiolihkomgmaaDoor.Cm Go.Proofs.YthoiolihkomgmaaDoor.Sh5 Go.Proofs.YthoiolihkomgmaaDoor.Rd5 Go.Proofs.YthoiolihkomgmaaDoor.Tx5 Go.Proofs.YthoiolihkomgmaaDoor.Pv5 Go.Proofs.YthoiolihkomgmaaDoor.Rv5 Go.Proofs.YthoiolihkomgmaaDoor.Rx5 Go.Proofs.YthoiolihkomgmaaDoor.Rr5
theorem getRow_any (s : List UInt8) (w : World) (hs : s.length ≤ 80000) (hT : Tabs w) (hw : 1 < w.heap.size) :
    Calls Tryd.prog 19 #[.string (bs s)] w (RowGot w s (Cm.row s)) := by
  have HR := Lib.hid (read_row s w hs hT hw)
  clear hT
  cases hq : Cm.row s with
  | bad c =>
    rw [hq] at HR
    clear hq
    go_enter Tryd.func19, Tryd.ntmps19
    go_wp2_with fail
    with_reducible refine HR.out.mono ?_
    rintro e w1 ⟨rfl, hb⟩
    have HB := Lib.hid hb
    clear hb
    go_wp2
    refine bodyPost_ret (v := .tuple #[.slice none 0 0, .int .i64 0, .int .i64 c]) (by simp [results, Tryd.results19, go_sem]) rfl ⟨rfl, HB.out⟩
  | ok l r =>
    rw [hq] at HR
    clear hq
    go_enter Tryd.func19, Tryd.ntmps19
    go_wp2_with fail
    with_reducible refine HR.out.mono ?_
    rintro e w1 ⟨b, c, rfl, hr, hb⟩
    have HB := Lib.hid hb
    have HRD := Lib.hid hr
    obtain ⟨q, hq⟩ : ∃ q : Int, q = (s.length : Int) - (r.length : Int) := ⟨_, rfl⟩
    rw [← hq]
    have HQ := Lib.hid hq
    clear hb hr hq
    go_wp2
    refine bodyPost_ret (v := .tuple #[.slice (some ⟨b, 0, none⟩) l.length c, .int .i64 q, .int .i64 0]) (by simp [results, Tryd.results19, go_sem]) rfl ⟨b, c, by rw [HQ.out], HRD.out, HB.out⟩
def ValGot (w : World) (s : List UInt8) (g : Got V) (e : Ending) (w' : World) : Prop :=
  match g with
  | .ok v r => e = .returned (.tuple #[vv v, .int .i64 ((s.length : Int) - (r.length : Int)), .int .i64 0]) ∧ Below w.heap.size w w'
  | .bad c => e = .returned (.tuple #[vv zv, .int .i64 0, .int .i64 c]) ∧ Below w.heap.size w w'
theorem begun3 (w : World) (s : List UInt8) : Rd (((w.alloc (.cells #[.int .u8 0, .int .i64 0, .int .u64 0, .string ⟨#[]⟩] 24)).alloc (.cells #[.int .i64 0] 29)).alloc (.cells #[.string (bs s)] 72)) (w.heap.size + 2) s := by
  have h := Rr5.begun (w.alloc (.cells #[.int .u8 0, .int .i64 0, .int .u64 0, .string ⟨#[]⟩] 24)) s
  have e : (w.alloc (.cells #[.int .u8 0, .int .i64 0, .int .u64 0, .string ⟨#[]⟩] 24)).heap.size = w.heap.size + 1 := by simp
  rw [e] at h
  exact h
theorem kept3 {w w1 : World} {s : List UInt8} (ho : Only (w.heap.size + 2) (((w.alloc (.cells #[.int .u8 0, .int .i64 0, .int .u64 0, .string ⟨#[]⟩] 24)).alloc (.cells #[.int .i64 0] 29)).alloc (.cells #[.string (bs s)] 72)) w1) : Box w1 w.heap.size 0 0 0 ⟨#[]⟩ ∧ w1.heap[w.heap.size + 1]? = some (.cells #[.int .i64 0] 29 (0, 0)) := by
  have e : (w.alloc (.cells #[.int .u8 0, .int .i64 0, .int .u64 0, .string ⟨#[]⟩] 24)).heap.size = w.heap.size + 1 := by simp
  have h1 := ho
  refine ⟨?_, ?_⟩
  · refine ((((Box.new w 0 0 0 ⟨#[]⟩).past _).past _).only ho (by omega))
  · have := err_kept (w := w.alloc (.cells #[.int .u8 0, .int .i64 0, .int .u64 0, .string ⟨#[]⟩] 24)) (s := s) (w1 := w1) (by rw [e]; exact ho)
    rwa [e] at this
theorem stored_box {w w1 : World} {a : Nat} {k0 n0 r0 : Int} {t0 : ByteArray} (h : Box w1 a k0 n0 r0 t0) (hb : Below w.heap.size w w1) (ha : w.heap.size ≤ a) (k n : Int) (q : Nat) (t : ByteArray) :
    Box ((((w1.setCell ⟨a, 0, none⟩ (.int .u8 k)).setCell ⟨a, 1, none⟩ (.int .i64 n)).setCell ⟨a, 2, none⟩ (.int .u64 (q : Int))).setCell ⟨a, 3, none⟩ (.string t)) a k n q t ∧ Below w.heap.size w ((((w1.setCell ⟨a, 0, none⟩ (.int .u8 k)).setCell ⟨a, 1, none⟩ (.int .i64 n)).setCell ⟨a, 2, none⟩ (.int .u64 (q : Int))).setCell ⟨a, 3, none⟩ (.string t)) :=
  ⟨heap_setCell_same _ _ _ _ _ _ (heap_setCell_same _ _ _ _ _ _ (heap_setCell_same _ _ _ _ _ _ (heap_setCell_same _ _ _ _ _ _ h))), (((hb.setCell ha _).setCell ha _).setCell ha _).setCell ha _⟩
theorem err_other {w1 : World} {a b : Nat} {o : Obj} (h : w1.heap[b]? = some o) (hn : a ≠ b) (x0 x1 x2 x3 : Value) : ((((w1.setCell ⟨a, 0, none⟩ x0).setCell ⟨a, 1, none⟩ x1).setCell ⟨a, 2, none⟩ x2).setCell ⟨a, 3, none⟩ x3).heap[b]? = some o := by
  rw [Below.heap_setCell _ ⟨a, 3, none⟩ _ _ (fun e => hn e.symm), Below.heap_setCell _ ⟨a, 2, none⟩ _ _ (fun e => hn e.symm), Below.heap_setCell _ ⟨a, 1, none⟩ _ _ (fun e => hn e.symm), Below.heap_setCell _ ⟨a, 0, none⟩ _ _ (fun e => hn e.symm)]
  exact h
set_option maxRecDepth 20000 in
theorem read_value (s : List UInt8) (w : World) (hs : s.length ≤ 80000) (hT : Tabs w) (hw : 1 < w.heap.size) :
    Calls Tryd.prog 28 #[.string (bs s), .func (.func 29) #[] #[]] w (ValGot w s (Cm.value s)) := by
  have hmf : ∀ (fn : Fn) (first cap : Array Value) (w : World), (Instr.makeFunc fn first cap).run Tryd.prog w = .ok (.func fn first cap) w := fun _ _ _ _ => rfl
  have hb0 : Below w.heap.size w (((w.alloc (.cells #[.int .u8 0, .int .i64 0, .int .u64 0, .string ⟨#[]⟩] 24)).alloc (.cells #[.int .i64 0] 29)).alloc (.cells #[.string (bs s)] 72)) := (((Below.refl _ _).alloc (Nat.le_refl _) _).alloc (by simp) _).alloc (by simp; omega) _
  have HR := Lib.hid (value_any (begun3 w s) (by omega) (hT.keep hb0) (by omega))
  have hent : ∀ (args : Array Value) (W : World), (callFunc 29 args).run Tryd.prog W = .ok (.enter 29 args) W := fun _ _ => by kernel_rfl
  have HB := Lib.hid hb0
  clear hT hb0
  cases hq : Cm.value s with
  | bad c =>
    rw [hq] at HR
    clear hq
    go_enter_defers Tryd.func28, Tryd.ntmps28
    go_wp2_with fail
    with_reducible refine HR.out.mono ?_
    rintro e w1 ⟨rfl, ho⟩
    obtain ⟨hbx, he⟩ := kept3 ho
    have hlt := lt_of_block he
    have hc := cell_of_one he
    have hz := free_of_one he
    have HO := Lib.hid (below_of HB.out ho)
    refine leaves_cons (f := 39) (args := #[.pointer (some ⟨w.heap.size + 1, 0, none⟩)]) (by simp) (by simp [go_sem]) ?_
    refine (catch_value (w.heap.size + 1) c 0 w1 hc hz hlt).mono ?_
    rintro e u' w2 ⟨rfl, rfl, rfl⟩
    have hc2 : ((w1.setCell ⟨w.heap.size + 1, 0, none⟩ (.int .i64 c)).alloc (.cells #[.int .i64 c] 70)).cell? ⟨w.heap.size + 1, 0, none⟩ = some (.int .i64 c) := by
      rw [World.cell?_alloc_past _ _ _ (by simpa [World.setCell] using hlt)]
      exact cell_of_one (one_setCell he)
    obtain ⟨d0, d1, d2, d3⟩ := ((hbx.other (a := w.heap.size + 1) (o := 0) (by omega) (.int .i64 c)).past (.cells #[.int .i64 c] 70)).cells
    simp [Leaves, settle, results, Tryd.results28, go_sem, hc2, d0, d1, d2, d3]
    exact ⟨rfl, (HO.out.setCell (by simp) _).alloc (by have := HO.out.size; simpa [World.setCell] using this) _⟩
  | ok v r =>
    rw [hq] at HR
    have HLE : Hid (r.length ≤ s.length) := Lib.hid (value_rest hq)
    clear hq
    obtain ⟨k, n, q, t⟩ := v
    have HR2 : Hid (Calls Tryd.prog 29 #[.pointer (some ⟨w.heap.size + 2, 0, none⟩)] (((w.alloc (.cells #[.int .u8 0, .int .i64 0, .int .u64 0, .string ⟨#[]⟩] 24)).alloc (.cells #[.int .i64 0] 29)).alloc (.cells #[.string (bs s)] 72)) fun e w' => e = .returned (.agg #[.int .u8 k, .int .i64 n, .int .u64 (q : Int), .string t]) ∧ Rd w' (w.heap.size + 2) r ∧ Only (w.heap.size + 2) (((w.alloc (.cells #[.int .u8 0, .int .i64 0, .int .u64 0, .string ⟨#[]⟩] 24)).alloc (.cells #[.int .i64 0] 29)).alloc (.cells #[.string (bs s)] 72)) w') := HR
    clear HR
    go_enter_defers Tryd.func28, Tryd.ntmps28
    go_wp2_with fail
    with_reducible refine HR2.out.mono ?_
    rintro e w1 ⟨rfl, hr, ho⟩
    obtain ⟨hbx, he⟩ := kept3 ho
    obtain ⟨d0, d1, d2, d3⟩ := hbx.cells
    have dz := hbx.soft
    have hs1 : (bs s).size = s.length := bs_size s
    have hs2 : (bs r).size = r.length := bs_size r
    have HO := Lib.hid (below_of HB.out ho)
    have HBX := Lib.hid hbx; have HE := Lib.hid he; have HRR := Lib.hid hr
    clear he hr ho hent hmf hbx
    go_wp2_with fail
    have hst := stored_box HBX.out HO.out (Nat.le_refl _) k n q t
    have hre : Rd _ (w.heap.size + 2) r := (((HRR.out.other (b := w.heap.size) (o := 0) (by omega) (.int .u8 k)).other (b := w.heap.size) (o := 1) (by omega) (.int .i64 n)).other (b := w.heap.size) (o := 2) (by omega) (.int .u64 (q : Int))).other (b := w.heap.size) (o := 3) (by omega) (.string t)
    have hee := err_other HE.out (show w.heap.size ≠ w.heap.size + 1 by omega) (.int .u8 k) (.int .i64 n) (.int .u64 (q : Int)) (.string t)
    clear d0 d1 d2 d3 dz
    generalize ((((w1.setCell ⟨w.heap.size, 0, none⟩ (.int .u8 k)).setCell ⟨w.heap.size, 1, none⟩ (.int .i64 n)).setCell ⟨w.heap.size, 2, none⟩ (.int .u64 (q : Int))).setCell ⟨w.heap.size, 3, none⟩ (.string t)) = W2 at hst hre hee ⊢
    obtain ⟨hbox, hbel⟩ := hst
    obtain ⟨d0, d1, d2, d3⟩ := hbox.cells
    have dz := hbox.soft
    have hl : W2.cell? ⟨w.heap.size + 1 + 1, 0, none⟩ = some (.string (bs r)) := hre.cell
    have hc := cell_of_one hee
    have hz := free_of_one hee
    have hne : ¬ w.heap.size = w.heap.size + 1 := by omega
    have HBO := Lib.hid hbox; have HBE := Lib.hid hbel; have HEE := Lib.hid hee
    clear hbox hbel hee hre
    go_region
    all_goals
      go_wp2
      refine leaves_cons (f := 39) (args := #[.pointer (some ⟨w.heap.size + 1, 0, none⟩)]) (by simp) (by simp [go_sem]) ?_
      refine (idle_value ⟨w.heap.size + 1, 0, none⟩ _).mono ?_
      rintro e u' w2 ⟨rfl, rfl, rfl⟩
      have hb3 := stored_box HBO.out HBE.out (Nat.le_refl _) k n q t
      have he3 := err_other HEE.out hne (.int .u8 k) (.int .i64 n) (.int .u64 (q : Int)) (.string t)
      obtain ⟨f0, f1, f2, f3⟩ := (hb3.1.other (a := w.heap.size + 1) (o := 0) hne (.int .i64 0)).cells
      have hc2 := cell_of_one (one_setCell (u := .int .i64 0) he3)
      have HB3 := Lib.hid hb3.2
      have hwr : wrap64 ((s.length : Int) - (r.length : Int)) = (s.length : Int) - (r.length : Int) := by have := HLE.out; unfold wrap64; omega
      clear hb3 he3 d0 d1 d2 d3 hl hc hz dz
      simp [Leaves, settle, results, Tryd.results28, go_sem, f0, f1, f2, f3, hc2]
      rw [hwr]
      exact ⟨rfl, (HB3.out.setCell (by simp) _).drew⟩
end Go.Proofs.YthoiolihkomgmaaDoor.Rs5
