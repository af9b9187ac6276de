/- The contracts of disk's files.cut, files.drop and files.move, for files in whatever struct. -/
import Derived.Test.YtbjemekkpmbhhaaBc
import Derived.Deep.RegionWith
namespace Go.Proofs.Ytbjemekkpmbhhaa.Cut
open Go Go.RowKit Go.Lib Go.Proofs.Ytbjemekkpmbhhaa.Mp Go.Proofs.Ytbjemekkpmbhhaa.Dh Go.Proofs.Ytbjemekkpmbhhaa.Ext Go.Proofs.Ytbjemekkpmbhhaa.Bc
open Go.ChangeMaps (setBlock)
theorem TextAt.take {w : World} {S : Nat → Prop} {b c m : Nat} {t : List UInt8} (h : TextAt w S (.slice (some ⟨b, 0, none⟩) m c) t) (n : Nat) (hn : n ≤ t.length) :
    TextAt w S (.slice (some ⟨b, 0, none⟩) n c) (t.take n) := by
  rcases h with ⟨h, _⟩ | ⟨b', cap, cs, hv, ha, h1, h2, h3, h4⟩
  · cases h
  · cases hv
    have hl : (t.take n).length = n := by simp; omega
    refine .inr ⟨b, c, cs, by rw [hl], ha, by omega, h2, h3, ?_⟩
    rw [hl]
    have : cs.toList.take n = (cs.toList.take t.length).take n := by rw [List.take_take, Nat.min_eq_left hn]
    rw [this, h4]; simp [u8s]
theorem drop_walk (S : Nat → Prop) (w : World) (p off m : Nat) (cs : Array Value) (T : TypeId) (es : List Ent) (c : Nat) (used : Int) (k : ByteArray) (v : Value) (t : List UInt8)
    (hp : w.heap[p]? = some (.cells cs T (0, 0))) (h0 : cs[off]? = some (.map (some m))) (h1 : cs[off + 1]? = some (.int .i64 used)) (hm : w.heap[m]? = some (obj es c))
    (hv : ((find es k).map Ent.val).getD (.slice none 0 0) = v) (ht : TextAt w S v t) (hb : t.length ≤ 1099511627776)
    (hu : 0 ≤ used ∧ used ≤ 1099511627776) :
    Calls Try.prog 67 #[.pointer (some ⟨p, off, none⟩), .string k] w fun e w' => e = .returned (.tuple #[]) ∧
        Like w' (setBlock (w.setCell ⟨p, off + 1, none⟩ (.int .i64 (used - t.length))) m (obj (del es k) c)) := by
  have hpm : p ≠ m := fun e => by subst e; rw [hm] at hp; cases hp
  have hmd : w.drew.heap[m]? = some (obj es c) := hm
  have c0 : w.cell? ⟨p, off, none⟩ = some (.map (some m)) := by rw [cell_of hp]; exact h0
  have c1 : w.cell? ⟨p, off + 1, none⟩ = some (.int .i64 used) := by rw [cell_of hp]; exact h1
  have f1 : w.frozen? ⟨p, off + 1, none⟩ = false := free_of hp _
  have hlook : ∀ W : World, W.heap[m]? = some (obj es c) → (Instr.lookup 43 (.map (some m)) (.string k) false).run Try.prog W = .ok v W := fun W hW => by
    rw [run_lookup W _ _ _ isStr _ zeroV m es c hW k, hv]
  have hdel : ∀ (W : World) (ty : TypeId), W.heap[m]? = some (obj es c) → (Builtin.delete_ #[43, 9] ty #[.map (some m), .string k]).run Try.prog W =
      .ok (.tuple #[]) (setBlock W m (obj (del es k) c)) := fun W ty hW => run_delete W _ _ _ isStr ty _ rfl m es c hW k
  obtain ⟨a, cp, rfl, hcp, _⟩ := ht.len
  clear ht
  have hm2 : ∀ x : Value, ((w.drew).setCell ⟨p, off + 1, none⟩ x).heap[m]? = some (obj es c) := fun x => by rw [Below.heap_setCell _ _ _ _ (Ne.symm hpm)]; exact hm
  go_enter Try.func67, Try.ntmps67
  go_wp2
  go_region
  all_goals
    have HM := Lib.hid hm2
    clear hm2 hlook hmd hm hdel
    go_wp2_with (at_delete; refine wpList_delete_text _ rfl _ _ rfl m es c k rfl rfl (HM.out _) rfl ?_)
    go_end0
    exact ⟨rfl, rfl, rfl, rfl, rfl⟩
theorem keep_setCell {S : Nat → Prop} {w : World} {p i : Nat} {cs : Array Value} {T : TypeId} {x : Value} (hT : T ≠ 5) (hp : w.heap[p]? = some (.cells cs T (0, 0))) {v : Value} {t : List UInt8} (h : TextAt w S v t) : TextAt (w.setCell ⟨p, i, none⟩ x) S v t :=
  h.keep fun b o ho ha => ⟨ha.1, by
    by_cases e : b = p
    · subst e
      obtain ⟨cs', fr, rfl⟩ := ho
      have := ha.2
      rw [hp] at this
      cases this
      exact absurd rfl hT
    · rw [Below.heap_setCell _ _ _ _ e]; exact ha.2⟩
set_option maxHeartbeats 1600000 in
theorem cut_walk (S : Nat → Prop) (w : World) (p off m : Nat) (cs : Array Value) (T : TypeId) (es : List Ent) (c : Nat) (used : Int) (k : ByteArray) (v : Value) (t : List UInt8) (n : Nat)
    (hT : T ≠ 5) (hp : w.heap[p]? = some (.cells cs T (0, 0))) (h0 : cs[off]? = some (.map (some m))) (h1 : cs[off + 1]? = some (.int .i64 used)) (hm : w.heap[m]? = some (obj es c))
    (hv : ((find es k).map Ent.val).getD (.slice none 0 0) = v) (ht : TextAt w S v t) (hb : t.length ≤ 1099511627776) (hn : n ≤ t.length)
    (hu : 0 ≤ used ∧ used ≤ 1099511627776) :
    Calls Try.prog 43 #[.pointer (some ⟨p, off, none⟩), .string k, .int .i64 n] w fun e w' => e = .returned (.tuple #[]) ∧
      ∃ v' w1, Fresh S (w.setCell ⟨p, off + 1, none⟩ (.int .i64 (used - (t.length - n)))) w1 v' (t.take n) ∧
        Like w' (setBlock w1 m (obj (put es k v' (t.take n) c) (clockOf es k c))) := by
  have hpm : p ≠ m := fun e => by subst e; rw [hm] at hp; cases hp
  have c0 : w.cell? ⟨p, off, none⟩ = some (.map (some m)) := by rw [cell_of hp]; exact h0
  have c1 : w.cell? ⟨p, off + 1, none⟩ = some (.int .i64 used) := by rw [cell_of hp]; exact h1
  have f1 : w.frozen? ⟨p, off + 1, none⟩ = false := free_of hp _
  have hdr : ∀ W : World, W.drew.heap = W.heap := fun _ => rfl
  have hlook : ∀ W : World, W.heap[m]? = some (obj es c) → (Instr.lookup 43 (.map (some m)) (.string k) false).run Try.prog W = .ok v W := fun W hW => by
    rw [run_lookup W _ _ _ isStr _ zeroV m es c hW k, hv]
  have hupd : ∀ (W : World) (v' : Value), W.heap[m]? = some (obj es c) → (Instr.mapUpdate 43 (.map (some m)) (.string k) v').run Try.prog W =
      .ok () (setBlock W m (obj (put es k v' (t.take n) c) (clockOf es k c))) := fun W v' hW => run_update W _ _ _ isStr m es c hW k v' _
  obtain ⟨w1, hw1⟩ : ∃ w1, w1 = w.setCell ⟨p, off + 1, none⟩ (.int .i64 (used - (t.length - n))) := ⟨_, rfl⟩
  have hp1 : w1.heap[p]? = some (.cells (cs.setIfInBounds (off + 1) (.int .i64 (used - (t.length - n)))) T (0, 0)) := by rw [hw1]; exact setCell_heap hp _ _
  have d0 : w1.cell? ⟨p, off, none⟩ = some (.map (some m)) := by
    rw [cell_of hp1, Array.getElem?_setIfInBounds_ne (by omega)]; exact h0
  have hm1 : w1.heap[m]? = some (obj es c) := by rw [hw1, Below.heap_setCell _ _ _ _ (Ne.symm hpm)]; exact hm
  have hcell2 : ∀ (W : World) (v' : Value), Fresh S w1 W v' (t.take n) → W.cell? ⟨p, off, none⟩ = some (.map (some m)) := fun W v' hf => by
    rw [cell_of (hf.plain _ _ hp1), Array.getElem?_setIfInBounds_ne (by omega)]; exact h0
  have hm2 : ∀ (W : World) (v' : Value), Fresh S w1 W v' (t.take n) → W.heap[m]? = some (obj es c) := fun W v' hf => hf.plain _ _ hm1
  have ht1 : TextAt w1 S v t := by rw [hw1]; exact keep_setCell hT hp ht
  have HW1 := Lib.hid hw1
  have HP := Lib.hid hp
  have HM1 := Lib.hid hm1
  have HM2 := Lib.hid hm2
  have D0 := Lib.hid d0
  have E0 := Lib.hid hcell2
  have HT1 := Lib.hid ht1
  clear hw1 hp hp1 hm1 hm2 d0 hcell2 ht1
  have htk : (t.take n).length = n := by simp; omega
  rcases ht with ⟨rfl, rfl⟩ | ⟨b, cap, cs', rfl, ha, h1', h2', h3', h4'⟩
  · have hn0 : n = 0 := by simpa using hn
    subst hn0
    go_enter Try.func43, Try.ntmps43
    go_wp2
    go_region
    all_goals
      have hw0 : w.setCell ⟨p, off + 1, none⟩ (.int .i64 used) = w1 := by rw [HW1.out]; simp
      rw [hw0]
      have d0 := D0.out
      have hm1 := HM1.out
      clear c0 c1 f1 hw0
      go_wp2
      have HC := Lib.hid (Bc.any S w1.drew.drew (.slice none 0 0) [] (.inl ⟨rfl, rfl⟩) (by simp))
      go_region_with (go_at_call 61; refine HC.out.mono ?_; rintro e wc ⟨v', rfl, hf0⟩; have hf := Fresh.of_drew (Fresh.of_drew hf0); clear hf0; have e0 := E0.out _ _ hf; have hm2 := HM2.out _ _ hf)
      all_goals
        go_end0
        have hF : ∀ wc v', Fresh S w1 wc v' [] → Fresh S (w.setCell ⟨p, off + 1, none⟩ (.int .i64 (used - ((([] : List UInt8).length : Int) - ((0 : Nat) : Int))))) wc v' (List.take 0 []) := fun wc v' h => by rw [← HW1.out]; exact h
        exact ⟨rfl, _, _, hF _ _ (by assumption), rfl, rfl, rfl, rfl⟩
  · clear ha h4'
    unfold maxLen at h3'
    go_enter Try.func43, Try.ntmps43
    go_wp2
    go_region
    all_goals
      rw [← HW1.out]
      have d0 := D0.out
      have hm1 := HM1.out
      clear c0 c1 f1
      go_wp2
      have HC := Lib.hid (Bc.any S w1.drew.drew (.slice (some ⟨b, 0, none⟩) n cap) (t.take n) (TextAt.take (w := w1) (t := t) HT1.out n hn) (by omega))
      go_region_with (go_at_call 61; refine HC.out.mono ?_; rintro e wc ⟨v', rfl, hf0⟩; have hf := Fresh.of_drew (Fresh.of_drew hf0); clear hf0; have e0 := E0.out _ _ hf; have hm2 := HM2.out _ _ hf)
      all_goals
        go_end0
        exact ⟨rfl, _, _, by rw [← HW1.out]; assumption, rfl, rfl, rfl, rfl⟩
end Go.Proofs.Ytbjemekkpmbhhaa.Cut
