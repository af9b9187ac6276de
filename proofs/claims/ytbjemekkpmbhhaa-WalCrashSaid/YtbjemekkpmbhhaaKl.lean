/- The contracts of maps.Clone, slices.Clip and disk's files.clone. -/
import Derived.Test.YtbjemekkpmbhhaaSe
import Derived.Laws.Externs
import Derived.Shelf.SlMaps.Clone
import Derived.Maps.RangeRun
namespace Go.Proofs.Ytbjemekkpmbhhaa.Kl
open Go Go.RowKit Go.Lib Go.Proofs.Ytbjemekkpmbhhaa.Mp Go.Proofs.Ytbjemekkpmbhhaa.Dh Go.Proofs.Ytbjemekkpmbhhaa.Ext Go.Proofs.Ytbjemekkpmbhhaa.Fm Go.Proofs.Ytbjemekkpmbhhaa.Dk
open Go.ChangeMaps (setBlock)
theorem clone_any (w : World) (m : Nat) (es : List Ent) (c : Nat) (hm : w.heap[m]? = some (obj es c)) :
    Calls Try.prog 55 #[.map (some m)] w fun e w' => e = .returned (.map (some w.heap.size)) ∧ w' = w.alloc (obj es c) := by
  have hq := fun w => run_eql_map_nil_sl (P := Try.prog) w 43 _ _ (some m) isStr.1
  unfold obj at hm ⊢
  generalize (es.map Ent.entry).toArray = arr at hm ⊢
  go_enter Try.func55, Try.ntmps55
  go_wp2
  rw [run_callFunc_extern Try.func68 (by kernel_rfl) (by kernel_rfl) (by kernel_rfl) (e := Extern.MapsClone.clone) (by kernel_rfl), run_maps_clone_sl w 43 hm]
  simp only [Result.andThen]
  rw [Oper.upon_value]
  clear hm hq
  have hta : ∀ (W : World) (v : Value), (Instr.typeAssert (.iface 43 v) 20 43 false).run Try.prog W = .ok v W := fun W v => run_typeAssert_map_sl W 43 _ _ _ v isStr.1
  go_wp2
  go_ret
  exact ⟨rfl, rfl⟩
def clipv : Value → Value
  | .slice a n _ => .slice a n n
  | v => v
theorem clip_any {S : Nat → Prop} (w : World) (v : Value) (t : List UInt8) (hv : TextAt w S v t) :
    Calls Try.prog 56 #[v] w fun e w' => e = .returned (clipv v) ∧ w' = w := by
  obtain ⟨a, cp, rfl, hl, hcm⟩ := hv.len
  have hsh : (a = none ∧ t = [] ∧ cp = 0) ∨ ∃ b, a = some ⟨b, 0, none⟩ := by
    rcases hv with ⟨h, h'⟩ | ⟨b, cap, cs, h, _⟩
    · subst h'; cases h; exact .inl ⟨rfl, rfl, rfl⟩
    · cases h; exact .inr ⟨b, rfl⟩
  clear hv
  unfold maxLen at hcm
  rcases hsh with ⟨rfl, rfl, rfl⟩ | ⟨b, rfl⟩
  · go_enter Try.func56, Try.ntmps56
    go_wp2
    go_ret
    exact ⟨rfl, rfl⟩
  · go_enter Try.func56, Try.ntmps56
    go_wp2
    go_ret
    exact ⟨rfl, rfl⟩
def clip (e : Ent) : Ent := { e with val := clipv e.val }
/-- The entries, where those that were met are clipped. -/
def esAt (es : List Ent) (seen : Array Nat) : List Ent := es.map fun e => if seen.contains e.born then clip e else e
theorem esAt_nil (es : List Ent) : esAt es #[] = es := by simp [esAt]
theorem has_push (seen : Array Nat) (a b : Nat) : (seen.push a).contains b = (seen.contains b || a == b) := by
  rw [Array.contains_push]
  have : (b == a) = (a == b) := by
    by_cases h : a = b
    · subst h; rfl
    · have h1 : (a == b) = false := by simpa using h
      have h2 : (b == a) = false := by simpa using Ne.symm h
      rw [h1, h2]
  first | rw [this, Bool.or_comm] | rw [this] | rw [Bool.or_comm]
theorem esAt_put (c : Nat) (seen : Array Nat) (e : Ent) : ∀ (es : List Ent), (es.map Ent.key).Nodup → (es.map Ent.born).Nodup → e ∈ es → Mp.put (esAt es seen) e.key (clipv e.val) e.text c = esAt es (seen.push e.born)
  | [], _, _, h => by simp at h
  | x :: es, hk, hb, h => by
    simp only [List.map_cons, List.nodup_cons] at hk hb
    by_cases hx : x = e
    · subst hx
      have h1 : ∀ y ∈ es, y.born ≠ x.born := fun y hy he => hb.1 (List.mem_map.2 ⟨y, hy, he⟩)
      have h2 : esAt es (seen.push x.born) = esAt es seen := by
        unfold esAt
        refine List.map_congr_left fun y hy => ?_
        have : (seen.push x.born).contains y.born = seen.contains y.born := by
          have h2 : (x.born == y.born) = false := by simp [Ne.symm (h1 y hy)]
          rw [has_push, h2, Bool.or_false]
        rw [this]
      show Mp.put ((if seen.contains x.born then clip x else x) :: esAt es seen) x.key (clipv x.val) x.text c = (if (seen.push x.born).contains x.born then clip x else x) :: esAt es (seen.push x.born)
      rw [h2]
      have h3 : (seen.push x.born).contains x.born = true := by rw [has_push, beq_self_eq_true, Bool.or_true]
      rw [h3, if_pos rfl]
      have h4 : (if seen.contains x.born then clip x else x).key = x.key := by split <;> rfl
      have h5 : (if seen.contains x.born then clip x else x).born = x.born := by split <;> rfl
      rw [Mp.put, if_pos h4, h5]
      rfl
    · have hm : e ∈ es := by rcases List.mem_cons.1 h with h | h; exact absurd h.symm hx; exact h
      have h1 : ¬ x.key = e.key := fun he => hk.1 (List.mem_map.2 ⟨e, hm, he.symm⟩)
      have h2 : ¬ x.born = e.born := fun he => hb.1 (List.mem_map.2 ⟨e, hm, he.symm⟩)
      show Mp.put ((if seen.contains x.born then clip x else x) :: esAt es seen) e.key (clipv e.val) e.text c = (if (seen.push e.born).contains x.born then clip x else x) :: esAt es (seen.push e.born)
      have h3 : (seen.push e.born).contains x.born = seen.contains x.born := by
        have h2' : (e.born == x.born) = false := by simp [Ne.symm h2]
        rw [has_push, h2', Bool.or_false]
      have h4 : ¬ (if seen.contains x.born then clip x else x).key = e.key := by split <;> exact h1
      rw [h3, Mp.put, if_neg h4, esAt_put c seen e es hk.2 hb.2 hm]
theorem esAt_find (seen : Array Nat) (k : ByteArray) : ∀ (es : List Ent), (find (esAt es seen) k).isSome = (find es k).isSome
  | [] => rfl
  | x :: es => by
    have ih := esAt_find seen k es
    show (find ((if seen.contains x.born then clip x else x) :: esAt es seen) k).isSome = _
    have h4 : (if seen.contains x.born then clip x else x).key = x.key := by split <;> rfl
    by_cases h : x.key = k
    · rw [find, if_pos (h4.trans h), find, if_pos h]; rfl
    · rw [find, if_neg (by rw [h4]; exact h), find, if_neg h, ih]
theorem esAt_all (es : List Ent) (seen : Array Nat) (h : ∀ e ∈ es, seen.contains e.born = true) : esAt es seen = es.map clip := by
  unfold esAt
  exact List.map_congr_left fun e he => by rw [h e he, if_pos rfl]
/-- How many entries were not met yet. -/
def leftN (w : World) (r : Nat) (es : List Ent) : Nat :=
  match w.heap[r]? with
  | some (.mapIter _ _ seen _) => (es.filter fun e => !seen.contains e.born).length
  | _ => 0
theorem filt_le (p q : Ent → Bool) (h : ∀ x, p x = true → q x = true) : ∀ l : List Ent, (l.filter p).length ≤ (l.filter q).length
  | [] => Nat.le_refl _
  | x :: l => by
    have ih := filt_le p q h l
    rcases hp : p x with _ | _
    · rcases hq : q x with _ | _
      · rw [List.filter_cons_of_neg (by simp [hp]), List.filter_cons_of_neg (by simp [hq])]; exact ih
      · rw [List.filter_cons_of_neg (by simp [hp]), List.filter_cons_of_pos hq, List.length_cons]; omega
    · rw [List.filter_cons_of_pos hp, List.filter_cons_of_pos (h x hp), List.length_cons, List.length_cons]; omega
theorem filt_lt (p q : Ent → Bool) (h : ∀ x, p x = true → q x = true) (e : Ent) (hp : p e = false) (hq : q e = true) : ∀ l : List Ent, e ∈ l → (l.filter p).length < (l.filter q).length
  | [], he => by simp at he
  | x :: l, he => by
    rcases List.mem_cons.1 he with rfl | he
    · rw [List.filter_cons_of_neg (by simp [hp]), List.filter_cons_of_pos hq, List.length_cons]
      have := filt_le p q h l; omega
    · have ih := filt_lt p q h e hp hq l he
      rcases hpx : p x with _ | _
      · rcases hqx : q x with _ | _
        · rw [List.filter_cons_of_neg (by simp [hpx]), List.filter_cons_of_neg (by simp [hqx])]; exact ih
        · rw [List.filter_cons_of_neg (by simp [hpx]), List.filter_cons_of_pos hqx, List.length_cons]; omega
      · rw [List.filter_cons_of_pos hpx, List.filter_cons_of_pos (h x hpx), List.length_cons, List.length_cons]; omega
theorem left_less (es : List Ent) (seen : Array Nat) (e : Ent) (he : e ∈ es) (hs : seen.contains e.born = false) :
    (es.filter fun x => !(seen.push e.born).contains x.born).length < (es.filter fun x => !seen.contains x.born).length :=
  filt_lt (fun x => !(seen.push e.born).contains x.born) (fun x => !seen.contains x.born) (fun x h => by
    simp only [has_push] at h
    rcases hx : seen.contains x.born with _ | _
    · rfl
    · rw [hx] at h; simp at h) e (by simp only [has_push, beq_self_eq_true, Bool.or_true]; rfl) (by simp only [hs]; rfl) es he
theorem wpList_next_text (w : World) {ops : Array Oper} {rest : List Oper} {o : Oper} {a : Act} {Q : Exit → Act → World → Prop} (hg : o.guard = none) (it : Operand) (hop : o.op = Op.next it false)
    (r mb since c0 c : Nat) (seen : Array Nat) (es : List Ent) (hit : a.eval it = .pointer (some ⟨r, 0, none⟩)) (hr : w.heap[r]? = some (.mapIter (some mb) since seen c0)) (hb : w.heap[mb]? = some (obj es c))
    (hold : ∀ e ∈ es, e.born < since) (hsc : since ≤ c0)
    (hDone : Hid (∀ e ∈ es, seen.contains e.born = true) → wpList Try.prog ops Q rest (a.put o.dst (.tuple #[.bool false])) w)
    (hMore : ∀ (e : Ent) (w1 : World), Hid (e ∈ es ∧ seen.contains e.born = false ∧ (w1 = w ∨ w1 = w.drew)) → wpList Try.prog ops Q rest (a.put o.dst (.tuple #[.bool true, .string e.key, e.val])) (setBlock w1 r (.mapIter (some mb) since (seen.push e.born) c))) :
    wpList Try.prog ops Q (o :: rest) a w := by
  refine wpList_plain hg fun K' hK' => ?_
  unfold Oper.wp
  have hold' : ∀ x ∈ (es.map Ent.entry).toArray.toList, x.born < since := by
    intro x hx
    simp only [List.mem_map] at hx
    obtain ⟨e, he, rfl⟩ := hx
    exact hold e he
  rcases run_next_at (P := Try.prog) w o.type r mb since c0 seen (es.map Ent.entry).toArray c hr hb hold' hsc with ⟨h0, hrun⟩ | ⟨x, hx, w1, hw1, hrun⟩
  · simp [execOp, hop, hit, hrun, Result.andThen]
    refine hK' _ _ (hDone (Lib.hid fun e he => ?_))
    rcases hs : seen.contains e.born with _ | _
    · exfalso
      have : e.entry ∈ (leftOf (es.map Ent.entry).toArray seen) := by
        unfold leftOf
        rw [Array.mem_filter]
        refine ⟨by simp; exact ⟨e, he, rfl⟩, ?_⟩
        show (!seen.contains e.born) = true
        rw [hs]; rfl
      have h1 := Array.size_pos_of_mem this
      omega
    · rfl
  · have hx' : ∃ e ∈ es, seen.contains e.born = false ∧ x = e.entry := by
      have hx2 : x ∈ (leftOf (es.map Ent.entry).toArray seen) := by simpa using hx
      unfold leftOf at hx2
      rw [Array.mem_filter] at hx2
      obtain ⟨h1, h2⟩ := hx2
      simp at h1
      obtain ⟨e, he, rfl⟩ := h1
      exact ⟨e, he, by simpa [Ent.entry] using h2, rfl⟩
    obtain ⟨e, he, hs, rfl⟩ := hx'
    simp [execOp, hop, hit, hrun, Result.andThen]
    exact hK' _ _ (hMore e w1 (Lib.hid ⟨he, hs, hw1⟩))
end Go.Proofs.Ytbjemekkpmbhhaa.Kl
