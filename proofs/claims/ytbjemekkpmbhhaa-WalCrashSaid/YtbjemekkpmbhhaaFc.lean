/- The contract of disk's files.clone. -/
import Derived.Test.YtbjemekkpmbhhaaKl
import Derived.OwnWalk
namespace Go.Proofs.Ytbjemekkpmbhhaa.Fc
open Go Go.RowKit Go.Lib Go.Proofs.Ytbjemekkpmbhhaa.Mp Go.Proofs.Ytbjemekkpmbhhaa.Dh Go.Proofs.Ytbjemekkpmbhhaa.Ext Go.Proofs.Ytbjemekkpmbhhaa.Fm Go.Proofs.Ytbjemekkpmbhhaa.Dk Go.Proofs.Ytbjemekkpmbhhaa.Kl
open Go.ChangeMaps (setBlock)
theorem wpList_range_text (w : World) {ops : Array Oper} {rest : List Oper} {o : Oper} {a : Act} {Q : Exit → Act → World → Prop} (hg : o.guard = none) (m : Operand)
    (hop : o.op = Op.range 43 m) (mb : Nat) (es : List Ent) (c : Nat) (hm : a.eval m = .map (some mb)) (hb : w.heap[mb]? = some (obj es c)) (n : Nat) (hn : w.heap.size = n)
    (hK : wpList Try.prog ops Q rest (a.put o.dst (.pointer (some ⟨n, 0, none⟩))) (w.alloc (.mapIter (some mb) c #[] c))) : wpList Try.prog ops Q (o :: rest) a w := by
  subst hn
  refine wpList_plain hg fun K' hK' => ?_
  have hrun : (Instr.range 43 (.map (some mb))).run Try.prog w = .ok (.pointer (some ⟨w.heap.size, 0, none⟩)) (w.alloc (.mapIter (some mb) c #[] c)) := by
    unfold obj at hb
    simp [Instr.range, run_underlying isStr.1, MapKept.run_getObj_map hb]
  unfold Oper.wp
  simp [execOp, hop, hm, hrun, Result.andThen]
  exact hK' _ _ hK
/-- The world in the midst of a clone. -/
structure Mid (w wr : World) (es : List Ent) (c : Nat) (seen : Array Nat) : Prop where
  below : Below w.heap.size w wr
  size : wr.heap.size = w.heap.size + 3
  tmp : ∃ x y, wr.heap[w.heap.size]? = some (.cells #[x, y] 45 (0, 0))
  map : wr.heap[w.heap.size + 1]? = some (obj (esAt es seen) c)
  iter : wr.heap[w.heap.size + 2]? = some (.mapIter (some (w.heap.size + 1)) c seen c)
theorem fclone_any {S : Nat → Prop} {w : World} {p off m : Nat} (cs : Array Value) (T : TypeId) (es : List Ent) (c : Nat) (used : Int) (hp : w.heap[p]? = some (.cells cs T (0, 0))) (h0 : cs[off]? = some (.map (some m))) (h1 : cs[off + 1]? = some (.int .i64 used))
    (hm : w.heap[m]? = some (obj es c)) (hwf : Wf es c) (ht : ∀ e ∈ es, TextAt w S e.val e.text) :
    Calls Try.prog 37 #[.pointer (some ⟨p, off, none⟩)] w fun e w' => e = .returned (.agg #[.map (some (w.heap.size + 1)), .int .i64 used]) ∧
      Below w.heap.size w w' ∧ w'.heap[w.heap.size + 1]? = some (obj (es.map clip) c) ∧ w'.heap.size = w.heap.size + 3 := by
  have c0 : w.cell? ⟨p, off, none⟩ = some (.map (some m)) := by rw [cell_of hp]; exact h0
  have c1 : w.cell? ⟨p, off + 1, none⟩ = some (.int .i64 used) := by rw [cell_of hp]; exact h1
  have hplt := lt_of_at hp
  obtain ⟨W1, hW1⟩ : ∃ W1, W1 = w.alloc (.cells #[.map none, .int .i64 0] 45) := ⟨_, rfl⟩
  have hm1 : W1.heap[m]? = some (obj es c) := by rw [hW1, heap_alloc w _ _ (lt_of_at hm)]; exact hm
  have hs1 : W1.heap.size = w.heap.size + 1 := by rw [hW1, size_alloc]
  have HC0 := clone_any W1 m es c hm1
  have hnew := heap_new W1 (obj es c)
  rw [hs1] at HC0 hnew
  rw [hW1] at HC0 hnew
  have HZ : Hid (((w.alloc (.cells #[.map none, .int .i64 0] 45)).alloc (obj es c)).heap.size = w.heap.size + 2) := Lib.hid (by rw [size_alloc, size_alloc])
  have HI : Hid (Mid w (((w.alloc (.cells #[.map none, .int .i64 0] 45)).alloc (obj es c)).alloc (.mapIter (some (w.heap.size + 1)) c #[] c)) es c #[]) := Lib.hid (by
    refine ⟨(((Below.refl _ _).alloc (Nat.le_refl _) _).alloc (by rw [size_alloc]; omega) _).alloc (by rw [size_alloc, size_alloc]; omega) _, by rw [size_alloc, size_alloc, size_alloc], ⟨.map none, .int .i64 0, ?_⟩, ?_, ?_⟩
    · rw [heap_alloc _ _ _ (by rw [size_alloc, size_alloc]; omega), heap_alloc _ _ _ (by rw [size_alloc]; omega)]; exact heap_new w _
    · rw [esAt_nil, heap_alloc _ _ _ (by rw [size_alloc, size_alloc]; omega)]
      have := heap_new (w.alloc (.cells #[.map none, .int .i64 0] 45)) (obj es c)
      rw [size_alloc] at this; exact this
    · have := heap_new ((w.alloc (.cells #[.map none, .int .i64 0] 45)).alloc (obj es c)) (.mapIter (some (w.heap.size + 1)) c #[] c)
      rw [size_alloc, size_alloc] at this; exact this)
  have HO : Hid (∀ seen, ∀ e ∈ esAt es seen, e.born < c) := Lib.hid (by
    intro seen e he
    unfold esAt at he
    obtain ⟨x, hx, rfl⟩ := List.mem_map.1 he
    have := hwf.born x hx
    split <;> exact this)
  have HC := Lib.hid HC0
  have HN := Lib.hid hnew
  clear HC0 hnew hs1
  have HP := Lib.hid hp
  have HM := Lib.hid hm
  have HWF := Lib.hid hwf
  have HT := Lib.hid ht
  clear hp h0 h1 hm hwf ht hm1 hW1 W1
  go_enter Try.func37, Try.ntmps37
  go_wp2_with (first | (go_at_call 55; refine HC.out.mono ?_; rintro e w1 ⟨rfl, rfl⟩) | (at_range; refine wpList_range_text _ rfl _ rfl _ es c rfl HN.out (w.heap.size + 2) HZ.out ?_))
  go_frame
  go_loopw [4, 5, 13, 14, 15, 16, 17, 18, 19, 20, 21] (fun _ _ _ _ _ _ _ _ _ _ _ wr => ∃ seen, Mid w wr es c seen) (fun _ _ _ _ _ _ _ _ _ _ _ wr => leftN wr (w.heap.size + 2) es)
  case atStart => exact ⟨#[], HI.out⟩
  case round =>
    obtain ⟨seen, hmid⟩ := hrel
    have HMid := Lib.hid hmid
    have hit := hmid.iter
    have hmap := hmid.map
    have hold : ∀ e ∈ esAt es seen, e.born < c := HO.out seen
    go_wp2_with (at_next; refine wpList_next_text _ rfl _ rfl (w.heap.size + 2) (w.heap.size + 1) c c c seen (esAt es seen) rfl hit hmap hold (Nat.le_refl _) ?_ ?_)
    case _ =>
      intro HD
      have hlast : esAt es seen = es.map clip := esAt_all es seen (by
        intro e he
        have h1 := HD.out ((if seen.contains e.born then clip e else e)) (List.mem_map.2 ⟨e, he, rfl⟩)
        have h2 : (if seen.contains e.born then clip e else e).born = e.born := by split <;> rfl
        rw [h2] at h1; simpa using h1)
      have HLast := Lib.hid hlast
      clear hlast hit hmap hold
      obtain ⟨x, y, hxy⟩ := HMid.out.tmp
      have t0 : wr.cell? ⟨w.heap.size, 0, none⟩ = some x := cell_of hxy 0
      have t1 : wr.cell? ⟨w.heap.size, 1, none⟩ = some y := cell_of hxy 1
      have f0 : wr.frozen? ⟨w.heap.size, 0, none⟩ = false := free_of hxy 0
      have f1 : wr.frozen? ⟨w.heap.size, 1, none⟩ = false := free_of hxy 1
      have d0 : wr.cell? ⟨p, off, none⟩ = some (.map (some m)) := (HMid.out.below.cell hplt).trans c0
      have d1 : wr.cell? ⟨p, off + 1, none⟩ = some (.int .i64 used) := (HMid.out.below.cell hplt).trans c1
      have HXY := Lib.hid hxy
      clear hxy hmid c0 c1
      go_wp2
      have e0 := setCell_heap HXY.out 0 (.map (some (w.heap.size + 1)))
      have e1 := setCell_heap e0 1 (.int .i64 used)
      have q0 : (((wr.setCell ⟨w.heap.size, 0, none⟩ (.map (some (w.heap.size + 1)))).setCell ⟨w.heap.size, 1, none⟩ (.int .i64 used))).cell? ⟨w.heap.size, 0, none⟩ = some (.map (some (w.heap.size + 1))) := cell_of e1 0
      have q1 : (((wr.setCell ⟨w.heap.size, 0, none⟩ (.map (some (w.heap.size + 1)))).setCell ⟨w.heap.size, 1, none⟩ (.int .i64 used))).cell? ⟨w.heap.size, 1, none⟩ = some (.int .i64 used) := cell_of e1 1
      clear e0 e1
      refine bodyPost_ret (v := .agg #[.map (some (w.heap.size + 1)), .int .i64 used]) (by simp [results, Try.results37, go_sem, q0, q1]) rfl ⟨rfl, ?_, ?_, ?_⟩
      · exact (HMid.out.below.setCell (p := ⟨w.heap.size, 0, none⟩) (Nat.le_refl _) _).setCell (p := ⟨w.heap.size, 1, none⟩) (Nat.le_refl _) _
      · rw [Below.heap_setCell _ _ _ _ (Nat.succ_ne_self _), Below.heap_setCell _ _ _ _ (Nat.succ_ne_self _), HMid.out.map, HLast.out]
      · rw [setCell_size, setCell_size, HMid.out.size]
    case _ =>
      intro e w1 HE
      have hE := HE.out
      have hes : e ∈ es := by
        obtain ⟨x, hx, hxe⟩ := List.mem_map.1 hE.1
        rcases hs : seen.contains x.born with _ | _
        · rw [hs] at hxe; simp at hxe; exact hxe ▸ hx
        · rw [hs] at hxe
          simp at hxe
          have := hE.2.1
          rw [← hxe] at this
          have h3 : seen.contains x.born = false := by simpa [clip] using this
          rw [hs] at h3; cases h3
      have hw1 : w1.heap = wr.heap := by rcases hE.2.2 with h | h <;> rw [h]; rfl
      have hb1 : Below w.heap.size w w1 := by rcases hE.2.2 with h | h <;> rw [h]; exact HMid.out.below; exact HMid.out.below.drew
      obtain ⟨W, hW⟩ : ∃ W, W = setBlock w1 (w.heap.size + 2) (.mapIter (some (w.heap.size + 1)) c (seen.push e.born) c) := ⟨_, rfl⟩
      have hWi : W.heap[w.heap.size + 2]? = some (.mapIter (some (w.heap.size + 1)) c (seen.push e.born) c) := by
        rw [hW]; exact setBlock_at _ _ _ _ (by rw [hw1]; exact hit)
      have hWm : W.heap[w.heap.size + 1]? = some (obj (esAt es seen) c) := by
        rw [hW, setBlock_ne _ _ _ _ (by omega), hw1]; exact hmap
      have hent : (Instr.entry (.pointer (some ⟨w.heap.size + 2, 0, none⟩))).run Try.prog W = .ok (.tuple #[.string e.key, e.val]) W :=
        run_entry_at W (w.heap.size + 2) (w.heap.size + 1) c seen ((esAt es seen).map Ent.entry).toArray c e.entry hWi hWm (by simp; exact ⟨e, hE.1, rfl⟩) (by
          have : ((esAt es seen).map Ent.entry).toArray.toList.map (·.born) = es.map Ent.born := by
            simp only [esAt, List.map_map]
            refine List.map_congr_left fun x _ => ?_
            simp only [Function.comp, Ent.entry]
            split <;> rfl
          rw [this]; exact HWF.out.bornN)
      have HCl := Lib.hid (clip_any W e.val e.text (HT.out e hes |>.keep (w' := W) (S' := S) fun b o _ ha => ⟨ha.1, by
        have hlt := lt_of_at ha.2
        rw [hW, setBlock_ne _ _ _ _ (by omega), hb1.block b hlt]; exact ha.2⟩))
      rw [← hW]
      have HWm := Lib.hid hWm
      have HWi := Lib.hid hWi
      have HB1 := Lib.hid hb1
      have HW := Lib.hid hW
      have HES := Lib.hid hes
      have hw1s := Lib.hid hw1
      clear hWm hWi hb1 hW hes hw1 hE hit hmap hold hmid
      go_wp2_with (first | (go_at_call 56; refine HCl.out.mono ?_; rintro e2 w2 ⟨rfl, rfl⟩) | (at_mapUpdate; refine wpList_update_text _ rfl _ _ _ rfl (w.heap.size + 1) (esAt es seen) c e.key (clipv e.val) e.text rfl rfl rfl HWm.out rfl ?_))
      have hp : Mp.put (esAt es seen) e.key (clipv e.val) e.text c = esAt es (seen.push e.born) := esAt_put c seen e es HWF.out.keys HWF.out.bornN HES.out
      have hc : clockOf (esAt es seen) e.key c = c := by
        have h1 : (find (esAt es seen) e.key).isSome = true := by
          rw [esAt_find]
          rcases hf : find es e.key with _ | x
          · exact absurd (List.mem_map.2 ⟨e, HES.out, rfl⟩) ((find_none e.key es).1 hf)
          · rfl
        simp only [clockOf, h1, if_true]
      rw [hp, hc]
      have hsz : w2.heap.size = wr.heap.size := by rw [HW.out, setBlock_size, hw1s.out]
      have hit2 : (setBlock w2 (w.heap.size + 1) (obj (esAt es (seen.push e.born)) c)).heap[w.heap.size + 2]? = some (.mapIter (some (w.heap.size + 1)) c (seen.push e.born) c) := by
        rw [setBlock_ne _ _ _ _ (by omega)]; exact HWi.out
      refine ⟨⟨seen.push e.born, ⟨?_, ?_, ?_, ?_, hit2⟩⟩, ?_⟩
      · have hb2 : Below w.heap.size w1 (setBlock w2 (w.heap.size + 1) (obj (esAt es (seen.push e.born)) c)) := by
          rw [HW.out]
          refine ⟨rfl, rfl, rfl, by rw [setBlock_size, setBlock_size]; exact Nat.le_refl _, fun k hk => ?_⟩
          rw [setBlock_ne _ _ _ _ (by omega), setBlock_ne _ _ _ _ (by omega)]
        exact HB1.out.trans hb2
      · rw [setBlock_size, hsz]; exact HMid.out.size
      · obtain ⟨x, y, hxy⟩ := HMid.out.tmp
        exact ⟨x, y, by rw [setBlock_ne _ _ _ _ (by omega), HW.out, setBlock_ne _ _ _ _ (by omega), hw1s.out]; exact hxy⟩
      · exact setBlock_at _ _ _ _ HWm.out
      · unfold leftN
        rw [hit2, HMid.out.iter]
        exact left_less es seen e HES.out (by simpa using HE.out.2.1)
end Go.Proofs.Ytbjemekkpmbhhaa.Fc
