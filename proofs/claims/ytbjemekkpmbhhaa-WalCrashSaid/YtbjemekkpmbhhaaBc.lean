/- The contract of bytes.Clone for a row of bytes: a row of the same bytes, that shares no block with another. -/
import Derived.Test.YtbjemekkpmbhhaaExt
import Derived.Laws.AppendOwn
import Derived.WalkSpells
namespace Go.Proofs.Ytbjemekkpmbhhaa.Bc
open Go Go.RowKit Go.Lib Go.Proofs.Ytbjemekkpmbhhaa.Mp Go.Proofs.Ytbjemekkpmbhhaa.Dh
open Go.ChangeMaps (setBlock)
/-- A row of bytes of its own. -/
structure Fresh (S : Nat → Prop) (w w' : World) (v' : Value) (t' : List UInt8) : Prop where
  touch : Tread S w w'
  text : TextAt w' (grow S w w') v' t'
  plain : ∀ (b : Nat) (o : Obj), w.heap[b]? = some o → w'.heap[b]? = some o
  apart : ∀ y ty, TextAt w S y ty → Apart v' y
theorem Fresh.of_drew {S : Nat → Prop} {w w' : World} {v' : Value} {t' : List UInt8} (h : Fresh S w.drew w' v' t') : Fresh S w w' v' t' := ⟨h.touch.of_drew, h.text, h.plain, h.apart⟩
theorem fresh_of {S : Nat → Prop} {w w1 w' : World} {v' : Value} {t : List UInt8} (hB : w.heap.size ≤ w1.heap.size) (hs : w1.os = w.os ∧ w1.tape = w.tape ∧ w1.output = w.output) (hk : ∀ b, b < w.heap.size → w1.heap[b]? = w.heap[b]?)
    (row : Option Nat) (hr : ∀ k, row = some k → w.heap.size ≤ k) (hg : w1.grownBy w' row) (ho : w'.ownsRow w.heap.size 5 1 v' t.length (u8s t)) : Fresh S w w' v' t := by
  have hb : ∀ b, b < w.heap.size → w'.heap[b]? = w.heap[b]? := fun b h => (hg.block b (by omega) (fun e => by have := hr b e.symm; omega)).trans (hk b h)
  refine ⟨⟨hg.os.trans hs.1, hg.tape.trans hs.2.1, hg.output.trans hs.2.2, Nat.le_trans hB hg.size, fun b h _ => hb b h⟩, ?_, fun b o h => (hb b (lt_of_at h)).trans h, ?_⟩
  · rcases ho.2 with ⟨rfl, h0⟩ | ⟨g, cap, cur, rfl, hbg, hg', hnc, hcm, hcs, htake⟩
    · exact .inl ⟨rfl, List.eq_nil_of_length_eq_zero h0⟩
    · exact .inr ⟨g, cap, cur, rfl, ⟨.inr ⟨hbg, lt_of_at hg'⟩, hg'⟩, hnc, by omega, hcm, by simpa using htake⟩
  · intro y ty hy b n c n' c' e e'
    subst e e'
    rcases ho.2 with ⟨h, _⟩ | ⟨g, cap, cur, h, hbg, _⟩
    · cases h
    · cases h
      rcases hy with ⟨h, _⟩ | ⟨b', cap', cs', hv, ha, _⟩
      · cases h
      · cases hv
        have := lt_of_at ha.2
        omega
theorem any (S : Nat → Prop) (w : World) (v : Value) (t : List UInt8) (hv : TextAt w S v t) (hb : t.length ≤ 1099511627776) :
    Calls Try.prog 61 #[v] w fun e w' => ∃ v', e = .returned v' ∧ Fresh S w w' v' t := by
  obtain ⟨i, hi, hz0, hz1, hz2⟩ := info_parts infoE
  have hnil := @Lib.run_eql_slice_nil Try.prog
  rcases hv with ⟨rfl, rfl⟩ | ⟨b, cap, cs, rfl, ha, h1, h2, h3, h4⟩
  · go_enter Try.func61, Try.ntmps61
    go_wp2
    go_ret
    exact ⟨_, rfl, Tread.refl _ _, .inl ⟨rfl, rfl⟩, fun _ _ h => h, fun y _ _ => Apart.nil y⟩
  · have H := Lib.hid (TextAt.cells (S := S) (.inr ⟨b, cap, cs, rfl, ha, h1, h2, h3, h4⟩))
    have HL := Lib.hid (lt_of_at ha.2)
    clear ha h4
    go_enter Try.func61, Try.ntmps61
    go_wp2_with (at_builtin; refine wpList_append_own _ rfl _ _ 66 rfl w.heap.size 5 i (.int .u8 0) 1 1 undL hi hz0 hz1 hz2 rfl (by decide) _ 0 [] rfl (World.ownsRow_made _ #[] 0 (Nat.le_refl _) (by unfold maxLen; omega) rfl) ⟨b, 0, none⟩ t.length cap (u8s t) rfl ?c1 ?c2 ?c3 ?c4 ?c5 ?c6 ?_)
    case c1 => rw [u8s_length]; omega
    case c2 =>
      intro j u hj
      have h := H.out j u hj
      have e : ((⟨b, 0, none⟩ : Addr).add j).block = b := by cases j <;> simp [Addr.add]
      rw [World.cell?_of_block (w := w) (by rw [e]; exact heap_alloc w _ b HL.out)]
      exact h
    case c3 =>
      intro u hu
      simp only [u8s, List.mem_map] at hu
      obtain ⟨x, _, rfl⟩ := hu
      rfl
    case c4 => unfold maxLen; omega
    case c5 => omega
    case c6 => rw [size_alloc]; omega
    intro v' w' hown hgr _
    have F := Lib.hid (fresh_of (S := S) (w := w) (w1 := w.alloc (.cells #[] 5)) (by rw [size_alloc]; omega) ⟨rfl, rfl, rfl⟩ (fun k hk => heap_alloc w _ k hk) _ (fun k hk => by cases hk; exact Nat.le_refl _) hgr hown)
    clear hown hgr
    go_wp2
    go_ret
    exact ⟨_, rfl, F.out⟩
end Go.Proofs.Ytbjemekkpmbhhaa.Bc
