/- disk's files.turn: a bit of a file's byte, in a copy. -/
import Derived.Test.YtmnaamjoikfpbaaDb1
import Derived.Laws.BitsAllLaws
namespace Go.Proofs.Ytmnaamjoikfpbaa.Fl10
open Go Go.RowKit Go.Lib Go.Proofs.Ytmnaamjoikfpbaa.Mp Go.Proofs.Ytmnaamjoikfpbaa.Dh Go.Proofs.Ytmnaamjoikfpbaa.Ext Go.Proofs.Ytmnaamjoikfpbaa.Bc
open Go.ChangeMaps (setBlock)
/-- bytes.Clone, with where the copy lies. -/
theorem clone_new (S : Nat → Prop) (w : World) (b cap : Nat) (t : List UInt8) (hv : TextAt w S (.slice (some ⟨b, 0, none⟩) t.length cap) t) (hb : t.length ≤ 1099511627776) (hne : t ≠ []) :
    Calls Try.prog 59 #[.slice (some ⟨b, 0, none⟩) t.length cap] w fun e w' => ∃ g cp, e = .returned (.slice (some ⟨g, 0, none⟩) t.length cp) ∧ w'.ownsRow w.heap.size 5 1 (.slice (some ⟨g, 0, none⟩) t.length cp) t.length (u8s t) ∧ Below w.heap.size w w' := by
  obtain ⟨i, hi, hz0, hz1, hz2⟩ := info_parts infoE
  have hnil := @Lib.run_eql_slice_nil Try.prog
  rcases hv with ⟨hc, _⟩ | ⟨b', cap', cs, hc, ha, h1, h2, h3, h4⟩
  · cases hc
  · cases hc
    have H := Lib.hid (TextAt.cells (S := S) (.inr ⟨b, cap, cs, rfl, ha, h1, h2, h3, h4⟩))
    have HL := Lib.hid (lt_of_at ha.2)
    clear ha h4
    have hlen : 0 < t.length := List.length_pos_iff.2 hne
    go_enter Try.func59, Try.ntmps59
    go_wp2_with (at_builtin; refine wpList_append_own _ rfl _ _ 95 rfl w.heap.size 5 i (.int .u8 0) 1 1 undL hi hz0 hz1 hz2 rfl (by decide) _ 0 [] rfl (World.ownsRow_made _ #[] 0 (Nat.le_refl _) (by unfold maxLen; omega) rfl) ⟨b, 0, none⟩ t.length cap (u8s t) rfl ?c1 ?c2 ?c3 ?c4 ?c5 ?c6 ?_)
    case c1 => rw [u8s_length]; omega
    case c2 =>
      intro j u hj
      have h := H.out j u hj
      have e : ((⟨b, 0, none⟩ : Addr).add j).block = b := by cases j <;> simp [Addr.add]
      rw [World.cell?_of_block (w := w) (by rw [e]; exact heap_alloc w _ b HL.out)]
      exact h
    case c3 =>
      intro u hu
      simp only [u8s, List.mem_map] at hu
      obtain ⟨x, _, rfl⟩ := hu
      rfl
    case c4 => unfold maxLen; omega
    case c5 => omega
    case c6 => rw [size_alloc]; omega
    intro v' w' hown hgr _
    have hB : Below w.heap.size w w' := ((Below.refl w.heap.size w).alloc (Nat.le_refl _) _).grown hgr (by simp) (fun k hk => by cases hk; exact Nat.le_refl _)
    obtain ⟨g, cp, rfl⟩ : ∃ g cp, v' = .slice (some ⟨g, 0, none⟩) t.length cp := by
      rcases hown.2 with ⟨_, h0⟩ | ⟨g, cp, _, hv, _⟩
      · omega
      · exact ⟨g, cp, by rw [hv]⟩
    have HO : Hid (w'.ownsRow w.heap.size 5 1 (.slice (some ⟨g, 0, none⟩) t.length cp) t.length (u8s t)) := Lib.hid (by simpa using hown)
    have HB := Lib.hid hB
    clear hown hgr hB
    go_wp2
    go_ret
    exact ⟨g, cp, rfl, HO.out, HB.out⟩
/-- The byte with that bit turned. -/
def turned (x : UInt8) (bit : Nat) : UInt8 := UInt8.ofNat (x.toNat ^^^ 2 ^ bit)
theorem turned_nat (x : UInt8) (bit : Nat) (h : bit < 8) : (turned x bit).toNat = x.toNat ^^^ 2 ^ bit := by
  have h1 := x.toNat_lt
  have h2 : 2 ^ bit < 2 ^ 8 := Nat.pow_lt_pow_right (by omega) h
  have h3 : x.toNat ^^^ 2 ^ bit < 2 ^ 8 := Nat.xor_lt_two_pow (by omega) h2
  unfold turned
  rw [UInt8.toNat_ofNat']
  exact Nat.mod_eq_of_lt h3
theorem turned_run (x : UInt8) (bit : Nat) (h : bit < 8) : bits .xor .u8 (x.toNat : Int) (2 ^ bit % 256) = ((turned x bit).toNat : Int) := by
  have h1 := x.toNat_lt
  have h2 : 2 ^ bit < 2 ^ 8 := Nat.pow_lt_pow_right (by omega) h
  have h3 : ((2 : Int) ^ bit % 256) = ((2 ^ bit : Nat) : Int) := by
    have e : ((2 : Int) ^ bit) = ((2 ^ bit : Nat) : Int) := by simp
    rw [e]
    generalize 2 ^ bit = N at h2 ⊢
    omega
  rw [h3, u8_xor_nat _ _ (by omega) (by omega), turned_nat x bit h]
theorem turned_ne (x : UInt8) (bit : Nat) (h : bit < 8) : turned x bit ≠ x := fun e => by
  have h1 := congrArg UInt8.toNat e
  rw [turned_nat x bit h] at h1
  have h2 := congrArg (fun y => x.toNat ^^^ y) h1
  simp only [← Nat.xor_assoc, Nat.xor_self, Nat.zero_xor] at h2
  have h3 : 0 < 2 ^ bit := Nat.two_pow_pos bit
  omega
/-- A copy with one byte as another one. -/
theorem fresh_set {S : Nat → Prop} {w w1 : World} {g cp : Nat} {t : List UInt8} (hown : w1.ownsRow w.heap.size 5 1 (.slice (some ⟨g, 0, none⟩) t.length cp) t.length (u8s t)) (hB : Below w.heap.size w w1) (o : Nat) (y : UInt8) :
    Fresh S w (w1.setCell ⟨g, o, none⟩ (.int .u8 (y.toNat : Int))) (.slice (some ⟨g, 0, none⟩) t.length cp) (t.set o y) := by
  obtain ⟨cur, hcur, hnc, hcm, hcs, htk⟩ : ∃ cur, w1.heap[g]? = some (.cells cur 5 (0, 0)) ∧ t.length ≤ cp ∧ cp ≤ maxLen ∧ cur.size = cp ∧ cur.toList.take t.length = u8s t := by
    rcases hown.2 with ⟨hv, _⟩ | ⟨g', cp', cur, hv, _, h1, h2, h3, h4, h5⟩
    · cases hv
    · cases hv; exact ⟨cur, h1, h2, h3, by omega, by simpa using h5⟩
  have hgn : w.heap.size ≤ g := (World.ownsRow.lt hown g rfl).1
  have hB2 := hB.setCell (p := ⟨g, o, none⟩) hgn (.int .u8 (y.toNat : Int))
  refine ⟨⟨hB2.os, hB2.tape, hB2.output, hB2.size, fun b hb _ => hB2.block b hb⟩, .inr ⟨g, cp, cur.setIfInBounds o (.int .u8 (y.toNat : Int)), by rw [List.length_set], ⟨.inr ⟨hgn, by rw [setCell_size]; exact lt_of_at hcur⟩, setCell_heap hcur o _⟩, by rw [List.length_set]; exact hnc, by simp; omega, hcm, ?_⟩, fun b ob hb => (hB2.block b (lt_of_at hb)).trans hb, ?_⟩
  · rw [List.length_set, Array.toList_setIfInBounds, List.take_set, htk]
    unfold u8s
    rw [List.map_set]
  · intro z tz hz b n c n' c' e e'
    subst e'
    cases e
    rcases hz with ⟨h, _⟩ | ⟨b', cap', cs', hv, ha, _⟩
    · cases h
    · cases hv
      have := lt_of_at ha.2
      omega
set_option maxHeartbeats 1600000 in
theorem turn_walk (S : Nat → Prop) (w : World) (p off m : Nat) (cs : Array Value) (T : TypeId) (es : List Ent) (c : Nat) (k : ByteArray) (v : Value) (t : List UInt8) (o bit : Nat)
    (hp : w.heap[p]? = some (.cells cs T (0, 0))) (h0 : cs[off]? = some (.map (some m))) (hm : w.heap[m]? = some (obj es c))
    (hv : ((find es k).map Ent.val).getD (.slice none 0 0) = v) (ht : TextAt w S v t) (hb : t.length ≤ 1099511627776) (ho : o < t.length) (hbit : bit < 8) :
    Calls Try.prog 41 #[.pointer (some ⟨p, off, none⟩), .string k, .int .i64 (o : Int), .int .i64 (bit : Int)] w fun e w' => e = .returned (.tuple #[]) ∧
      ∃ v' w1, Fresh S w w1 v' (t.set o (turned (t[o]) bit)) ∧ Like w' (setBlock w1 m (obj (put es k v' (t.set o (turned (t[o]) bit)) c) (clockOf es k c))) := by
  obtain ⟨t', ht'⟩ : ∃ t', t' = t.set o (turned (t[o]) bit) := ⟨_, rfl⟩
  rw [← ht']
  have HT' := Lib.hid ht'
  clear ht'
  have c0 : w.cell? ⟨p, off, none⟩ = some (.map (some m)) := by rw [cell_of hp]; exact h0
  have hlook : ∀ W : World, W.heap[m]? = some (obj es c) → (Instr.lookup 59 (.map (some m)) (.string k) false).run Try.prog W = .ok v W := fun W hW => by
    rw [run_lookup W _ _ _ isStr _ zeroV m es c hW k, hv]
  rcases ht with ⟨rfl, rfl⟩ | ⟨b, cap, cs', rfl, ha, h1', h2', h3', h4'⟩
  · simp at ho
  have hcl := clone_new S w b cap t (.inr ⟨b, cap, cs', rfl, ha, h1', h2', h3', h4'⟩) hb (by intro e; rw [e] at ho; simp at ho)
  have HC := Lib.hid hcl
  have HP := Lib.hid hp
  have HM := Lib.hid hm
  have H0 := Lib.hid h0
  have hl0 := hlook w hm
  have o1 : (o : Int) < (t.length : Int) := by omega
  have o0 : (0 : Int) ≤ (o : Int) := by omega
  clear hlook ha h1' h2' h3' h4' hcl hp hm h0 hv
  go_enter Try.func41, Try.ntmps41
  go_wp2_with fail
  refine HC.out.mono ?_
  rintro e w1 ⟨g, cp, rfl, hown, hB⟩
  obtain ⟨cur, hcur, hnc, hcm, hcs, htk⟩ : ∃ cur, w1.heap[g]? = some (.cells cur 5 (0, 0)) ∧ t.length ≤ cp ∧ cp ≤ maxLen ∧ cur.size = cp ∧ cur.toList.take t.length = u8s t := by
    rcases hown.2 with ⟨hv, _⟩ | ⟨g', cp', cur, hv, _, h1, h2, h3, h4, h5⟩
    · cases hv
    · cases hv; exact ⟨cur, h1, h2, h3, by omega, by simpa using h5⟩
  have hgn : w.heap.size ≤ g := (World.ownsRow.lt hown g rfl).1
  have hco : cur[o]? = some (.int .u8 (t[o].toNat : Int)) := by
    have h1 : (cur.toList.take t.length)[o]? = (u8s t)[o]? := by rw [htk]
    rw [List.getElem?_take, if_pos ho] at h1
    rw [← Array.getElem?_toList, h1]
    simp [u8s, ho]
  have q0 : w1.cell? ⟨g, o, none⟩ = some (.int .u8 (t[o].toNat : Int)) := by rw [cell_of hcur]; exact hco
  have q1 : w1.frozen? ⟨g, o, none⟩ = false := free_of hcur o
  obtain ⟨x, hx⟩ : ∃ x, x = t[o] := ⟨_, rfl⟩
  rw [← hx] at q0
  have hb1 : (bit : Int) < 8 := by omega
  have hb0 : (0 : Int) ≤ (bit : Int) := by omega
  have hxr := turned_run x bit hbit
  obtain ⟨y, hy⟩ : ∃ y, y = turned x bit := ⟨_, rfl⟩
  rw [← hy] at hxr
  have hF : Fresh S w (w1.setCell ⟨g, o, none⟩ (.int .u8 (y.toNat : Int))) (.slice (some ⟨g, 0, none⟩) t.length cp) (t.set o (turned (t[o]) bit)) := by
    rw [← hx, ← hy]; exact fresh_set hown hB o y
  rw [← HT'.out] at hF
  rw [← hx] at *
  obtain ⟨W, hW⟩ : ∃ W, W = w1.setCell ⟨g, o, none⟩ (.int .u8 (y.toNat : Int)) := ⟨_, rfl⟩
  rw [← hW] at hF
  have hpW := hF.plain _ _ HP.out
  have hmW := hF.plain _ _ HM.out
  have d0 : W.cell? ⟨p, off, none⟩ = some (.map (some m)) := by rw [cell_of hpW]; exact H0.out
  have hupd : (Instr.mapUpdate 59 (.map (some m)) (.string k) (.slice (some ⟨g, 0, none⟩) t.length cp)).run Try.prog W.drew =
      .ok () (setBlock W.drew m (obj (put es k (.slice (some ⟨g, 0, none⟩) t.length cp) t' c) (clockOf es k c))) := run_update W.drew _ _ _ isStr m es c hmW k _ _
  have HF := Lib.hid hF
  have HW := Lib.hid hW
  clear hF hpW hmW hcur hnc hcm hcs htk hco hown hB hy hgn hW c0
  go_wp2
  go_region
  all_goals
    rw [← HW.out]
    go_wp2
    go_end0
    exact ⟨rfl, _, W, HF.out, rfl, rfl, rfl, rfl⟩
end Go.Proofs.Ytmnaamjoikfpbaa.Fl10
