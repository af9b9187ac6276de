/- The contract of disk's files.extend, for files in whatever struct. -/
import Derived.Test.YtbjemekkpmbhhaaDh
import Derived.RegionTactic
import Derived.Deep.RegionLaw
import Derived.ChangeAlike
namespace Go.Proofs.Ytbjemekkpmbhhaa.Ext
open Go Go.RowKit Go.Lib Go.Proofs.Ytbjemekkpmbhhaa.Mp Go.Proofs.Ytbjemekkpmbhhaa.Dh
open Go.ChangeMaps (setBlock)
theorem isStr : IsStr Try.prog 43 66 9 := ⟨by kernel_rfl, by kernel_rfl⟩
theorem zeroV (w : World) : (zeroValue 66).run Try.prog w = .ok (.slice none 0 0) w := by kernel_rfl
theorem wpList_lookup_text (w : World) {ops : Array Oper} {rest : List Oper} {o : Oper} {a : Act} {Q : Exit → Act → World → Prop} (hg : o.guard = none) (m x : Operand)
    (hop : o.op = Op.lookup 43 m x false) (mb : Nat) (es : List Ent) (c : Nat) (k : ByteArray) (hm : a.eval m = .map (some mb)) (hx : a.eval x = .string k) (hb : w.heap[mb]? = some (obj es c))
    (hK : wpList Try.prog ops Q rest (a.put o.dst (((find es k).map Ent.val).getD (.slice none 0 0))) w) : wpList Try.prog ops Q (o :: rest) a w := by
  refine wpList_plain hg fun K' hK' => ?_
  have hrun := run_lookup w _ _ _ isStr _ zeroV mb es c hb k
  unfold Oper.wp
  simp [execOp, hop, hm, hx, hrun, Result.andThen]
  exact hK' _ _ hK
theorem wpList_lookup_text_ok (w : World) {ops : Array Oper} {rest : List Oper} {o : Oper} {a : Act} {Q : Exit → Act → World → Prop} (hg : o.guard = none) (m x : Operand)
    (hop : o.op = Op.lookup 43 m x true) (mb : Nat) (es : List Ent) (c : Nat) (k : ByteArray) (hm : a.eval m = .map (some mb)) (hx : a.eval x = .string k) (hb : w.heap[mb]? = some (obj es c))
    (hK : wpList Try.prog ops Q rest (a.put o.dst (.tuple #[((find es k).map Ent.val).getD (.slice none 0 0), .bool (find es k).isSome])) w) : wpList Try.prog ops Q (o :: rest) a w := by
  refine wpList_plain hg fun K' hK' => ?_
  have hrun := run_lookup_ok w _ _ _ isStr _ zeroV mb es c hb k
  unfold Oper.wp
  simp [execOp, hop, hm, hx, hrun, Result.andThen]
  exact hK' _ _ hK
theorem wpList_update_text (w : World) {ops : Array Oper} {rest : List Oper} {o : Oper} {a : Act} {Q : Exit → Act → World → Prop} (hg : o.guard = none) (m x y : Operand)
    (hop : o.op = Op.mapUpdate 43 m x y) (mb : Nat) (es : List Ent) (c : Nat) (k : ByteArray) (v : Value) (t : List UInt8) (hm : a.eval m = .map (some mb)) (hx : a.eval x = .string k) (hy : a.eval y = v) (hb : w.heap[mb]? = some (obj es c))
    (hd : o.dst = none) (hK : wpList Try.prog ops Q rest a (setBlock w mb (obj (put es k v t c) (clockOf es k c)))) : wpList Try.prog ops Q (o :: rest) a w := by
  refine wpList_plain hg fun K' hK' => ?_
  have hrun := run_update w _ _ _ isStr mb es c hb k v t
  unfold Oper.wp
  simp [execOp, hop, hm, hx, hy, hrun, Result.andThen]
  refine hK' _ _ ?_
  simpa [hd, Act.put] using hK
theorem wpList_delete_text (w : World) {ops : Array Oper} {rest : List Oper} {o : Oper} {a : Act} {Q : Exit → Act → World → Prop} (hg : o.guard = none) (m x : Operand)
    (hop : o.op = Op.call { callee := Callee.builtin Builtin.delete, args := #[m, x], argTypes := #[43, 9] }) (mb : Nat) (es : List Ent) (c : Nat) (k : ByteArray) (hm : a.eval m = .map (some mb)) (hx : a.eval x = .string k) (hb : w.heap[mb]? = some (obj es c))
    (hd : o.dst = none) (hK : wpList Try.prog ops Q rest a (setBlock w mb (obj (del es k) c))) : wpList Try.prog ops Q (o :: rest) a w := by
  refine wpList_plain hg fun K' hK' => ?_
  have hrun := run_delete w _ _ _ isStr o.type #[43, 9] rfl mb es c hb k
  unfold Oper.wp
  simp [execOp, hop, resolve, invoke, builtin, hm, hx, hrun, Result.andThen]
  refine hK' _ _ ?_
  simpa [hd, Act.put] using hK
theorem step_append {ops : Array Oper} {o : Oper} {a : Act} {w : World} {K : Act → World → Prop} {Q : Exit → Act → World → Prop} {E : Prop}
    (hg : o.guard = none) (s x : Operand) (hop : o.op = Op.call { callee := Callee.builtin Builtin.append, args := #[s, x], argTypes := #[66, 9] })
    (S : Nat → Prop) (v : Value) (t : List UInt8) (str : ByteArray) (hs : a.eval s = v) (hx : a.eval x = .string str) (hv : TextAt w S v t) (hb : t.length + str.size ≤ 1099511627776)
    (hK : ∀ v' w', Appended S w w' v v' (t ++ str.data.toList) → K (a.put o.dst v') w') :
    if Region.wanted o (yielded ops a.tmps) = true then Oper.wp Try.prog o a w K Q else E := by
  have hw : Region.wanted o (yielded ops a.tmps) = true := by simp [Region.wanted, hg]
  rw [if_pos hw]
  obtain ⟨v', w', hrun, happ⟩ := run_append_text S w o.type v t str hv hb
  unfold Oper.wp
  simp [execOp, hop, resolve, invoke, builtin, hs, hx, hrun, Result.andThen]
  exact hK _ _ happ
theorem cells_behind {S : Nat → Prop} {w w1 : World} {p m : Nat} {cs : Array Value} {T : TypeId} {es : List Ent} {c : Nat} {v v' : Value} {t' : List UInt8} (hp : w.heap[p]? = some (.cells cs T (0, 0))) (hm : w.heap[m]? = some (obj es c))
    (hpt : ¬ isText (.cells cs T (0, 0))) (happ : Appended S w w1 v v' t') (es' : List Ent) (k : ByteArray) (v2 : Value) (t2 : List UInt8) (c' : Nat) :
    (setBlock w1 m (obj (put es' k v2 t2 c') (clockOf es' k c'))).heap[p]? = some (.cells cs T (0, 0)) :=
  (setBlock_ne _ _ _ _ (fun e => by subst e; rw [hm] at hp; cases hp)).trans (happ.plain p _ hpt hp)
theorem walk (S : Nat → Prop) (w : World) (p off m : Nat) (cs : Array Value) (T : TypeId) (es : List Ent) (c : Nat) (used : Int) (k s : ByteArray) (v : Value) (t : List UInt8)
    (hT : T ≠ 5) (hp : w.heap[p]? = some (.cells cs T (0, 0))) (h0 : cs[off]? = some (.map (some m))) (h1 : cs[off + 1]? = some (.int .i64 used)) (hm : w.heap[m]? = some (obj es c))
    (hv : ((find es k).map Ent.val).getD (.slice none 0 0) = v) (ht : TextAt w S v t) (hb : t.length + s.size ≤ 1099511627776)
    (hu : 0 ≤ used ∧ used ≤ 1099511627776) :
    Calls Try.prog 51 #[.pointer (some ⟨p, off, none⟩), .string k, .string s] w fun e w' => e = .returned (.tuple #[]) ∧
      ∃ v' w1, Appended S w w1 v v' (t ++ s.data.toList) ∧
        Like w' ((setBlock w1 m (obj (put es k v' (t ++ s.data.toList) c) (clockOf es k c))).setCell ⟨p, off + 1, none⟩ (.int .i64 (used + s.size))) := by
  have hmd : w.drew.heap[m]? = some (obj es c) := hm
  have htd : TextAt w.drew S v t := ht
  have c0 : w.cell? ⟨p, off, none⟩ = some (.map (some m)) := by rw [cell_of hp]; exact h0
  have hlook : ∀ W : World, W.heap[m]? = some (obj es c) → (Instr.lookup 43 (.map (some m)) (.string k) false).run Try.prog W = .ok v W := fun W hW => by
    rw [run_lookup W _ _ _ isStr _ zeroV m es c hW k, hv]
  have hupd : ∀ (W : World) (v' : Value), W.heap[m]? = some (obj es c) → (Instr.mapUpdate 43 (.map (some m)) (.string k) v').run Try.prog W =
      .ok () (setBlock W m (obj (put es k v' (t ++ s.data.toList) c) (clockOf es k c))) := fun W v' hW => run_update W _ _ _ isStr m es c hW k v' _
  have hpt : ¬ isText (.cells cs T (0, 0)) := fun ⟨_, _, h⟩ => by cases h; exact hT rfl
  have hmt : ¬ isText (obj es c) := fun ⟨_, _, h⟩ => by cases h
  go_enter Try.func51, Try.ntmps51
  go_wp2
  go_region_law (refine step_append rfl _ _ rfl S v t s rfl rfl ‹_› hb ?_; intro v' w1 happ0; have happ := Appended.of_drew happ0; clear happ0; have c1 : w1.cell? ⟨p, off, none⟩ = some (.map (some m)) := (cell_of (happ.plain p _ hpt hp) off).trans h0; have hm1 := happ.plain m _ hmt hm; have d1 := (cells_behind hp hm hpt happ es k v' (t ++ s.data.toList) c); have e1 := (cell_of d1 (off + 1)).trans h1; have f1 := free_of d1 (off + 1); clear d1)
  all_goals
    go_wp2
    go_end0
    exact ⟨rfl, _, _, (by assumption), rfl, rfl, rfl, rfl⟩
end Go.Proofs.Ytbjemekkpmbhhaa.Ext
