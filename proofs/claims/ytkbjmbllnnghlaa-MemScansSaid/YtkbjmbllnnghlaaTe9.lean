/- node.since: what it hands back goes through the pairs of a tree from a key on, in order. -/
import Derived.Test.YtkbjmbllnnghlaaMt9
import Derived.WalkLawsBesides
import Derived.RangeFuncNested
import Derived.RangeFuncBound
import Derived.RangeFuncCalls
import Derived.RangeFuncLeaves
import Derived.RangeFuncBox
import Derived.OwnWalkIn
import Derived.TacticsInMore
import Derived.LoopNIn
import Derived.LoopIn
import Derived.Maps.AppendAt
namespace Go.Proofs.Ytkbjmbllnnghlaa.Te9
open Go Go.RowKit Go.Proofs.Ytkbjmbllnnghlaa.Pm9 Go.Proofs.Ytkbjmbllnnghlaa.Wd9 Go.Proofs.Ytkbjmbllnnghlaa.Mt9
attribute [local go_sem] Oper.semAt_some
/-- What is handed over, as it is handed over. -/
def encs (x : Pr) : Array Value := #[.agg #[.string x.k, .string x.v, .bool x.g]]
theorem yieldAt_wide {m m' : Nat} {P : Program} {l : Nat} {args : Array Value} {W : World} {R : Ending → World → Prop} (h : YieldAt Fence.wide m P l args W R) : YieldAt Fence.wide m' P l args W R := by
  obtain ⟨fn, tmps, assign, body, h1, h2, h3⟩ := h
  exact ⟨fn, tmps, assign, body, h1, h2, fun c cs _ => h3 c cs (room_wide _)⟩
theorem In.below {w w' : World} {t : Tr} {B : Nat} (h : t.In w) (hB : ∀ i ∈ t.ids, i < B) (hb : Below B w w') : t.In w' := h.keep fun i hi => hb.block i (hB i hi)
/-- The pairs told, or a beginning of them. -/
def Told9 (J Jx : List Pr → World → Prop) (B : Nat) (W : World) (pre ys : List Pr) (e : Ending) (W' : World) : Prop :=
  (e = .returned (.bool true) ∧ J (pre ++ ys) W' ∧ Below B W W') ∨ (e = .returned (.bool false) ∧ ∃ q, q <+: pre ++ ys ∧ Jx q W')
theorem none_fn : ∀ f : FuncId, (none : Option FuncId) = some f → Fence.wide.fn f := fun _ h => by cases h
theorem wide_fn (f : FuncId) : Fence.wide.fn f := trivial
theorem told_bool {J Jx : List Pr → World → Prop} {B : Nat} {W : World} {pre ys : List Pr} {e : Ending} {W' : World} (h : Told9 J Jx B W pre ys e W') : ∃ r, e = .returned (.bool r) ∧ Told9 J Jx B W pre ys (.returned (.bool r)) W' := by
  rcases h with ⟨rfl, h⟩ | ⟨rfl, h⟩
  · exact ⟨true, rfl, .inl ⟨rfl, h⟩⟩
  · exact ⟨false, rfl, .inr ⟨rfl, h⟩⟩
theorem told_more {J Jx : List Pr → World → Prop} {B : Nat} {W W1 : World} {pre xs ys : List Pr} {p : Pr} {e : Ending} {W' : World} (hb : Below B W W1) (h : Told9 J Jx B W1 (pre ++ xs ++ [p]) ys e W') : Told9 J Jx B W pre (xs ++ p :: ys) e W' := by
  have e1 : pre ++ xs ++ [p] ++ ys = pre ++ (xs ++ p :: ys) := by simp
  unfold Told9 at h ⊢
  rw [e1] at h
  rcases h with ⟨h1, h2, h3⟩ | h
  · exact .inl ⟨h1, h2, hb.trans h3⟩
  · exact .inr h
set_option maxRecDepth 100000 in
set_option maxHeartbeats 2000000 in
theorem tell_any (l B N : Nat) (k : ByteArray) (J Jx : List Pr → World → Prop)
    (hY : ∀ m pre x W, J pre W → pre.length < N → YieldAt Fence.wide m Try.prog l (encs x) W fun e W' =>
      (e = .returned (.bool true) ∧ J (pre ++ [x]) W' ∧ Below B W W') ∨ (e = .returned (.bool false) ∧ Jx (pre ++ [x]) W')) :
    ∀ (t : Tr) (pre : List Pr) (W : World), t.In W → (∀ i ∈ t.ids, i < B) → pre.length + (t.tell k).length ≤ N → J pre W →
      Calls Try.prog 32 #[t.ptr, .string k, .func (.yield l) #[] #[]] W (Told9 J Jx B W pre (t.tell k))
  | .nil, pre, W, _, _, _, hJ => by
    refine callsIn_wide.1 (callsIn_of_wp (n := 6) Try.func32 rfl trivial ?_ rfl)
    simp only [Try.ntmps32, List.size_toArray, List.length_cons, List.length_nil, Nat.reduceAdd, Nat.reduceSub, Array.replicate_succ, Array.replicate_zero, List.push_toArray, List.append_toArray, List.nil_append, List.cons_append]
    dsimp only [Tr.ptr]
    gi_wp2
    go_ret
    exact .inl ⟨rfl, by rw [Tr.tell, List.append_nil]; exact hJ, Below.refl _ _⟩
  | .node b p m x y, pre, W, h, hB, hN, hJ => by
    have ix := tell_any l B N k J Jx hY x
    have iy := tell_any l B N k J Jx hY y
    obtain ⟨h0, h1, h2⟩ := id h
    obtain ⟨c0, c1, c2, c3, c4, c5, _⟩ := node_cells h0
    obtain ⟨ax, hax⟩ := Tr.ptr_shape x
    obtain ⟨ay, hay⟩ := Tr.ptr_shape y
    rw [hax] at c4 ix
    rw [hay] at c5 iy
    have bx : ∀ i ∈ x.ids, i < B := fun i hi => hB i (List.mem_cons_of_mem _ (List.mem_append_left _ hi))
    have by_ : ∀ i ∈ y.ids, i < B := fun i hi => hB i (List.mem_cons_of_mem _ (List.mem_append_right _ hi))
    have bb := hB b List.mem_cons_self
    have HY := Lib.hid hY
    have IX := Lib.hid ix
    have IY := Lib.hid iy
    have BX := Lib.hid bx
    have BY := Lib.hid by_
    have H0 := Lib.hid h0
    have H1 := Lib.hid h1
    have H2 := Lib.hid h2
    clear hY ix iy bx by_ h h0 h1 h2 hB
    refine callsIn_wide.1 (callsIn_of_wp (n := 6) Try.func32 rfl trivial ?_ rfl)
    simp only [Try.ntmps32, List.size_toArray, List.length_cons, List.length_nil, Nat.reduceAdd, Nat.reduceSub, Array.replicate_succ, Array.replicate_zero, List.push_toArray, List.append_toArray, List.nil_append, List.cons_append]
    dsimp only [Tr.ptr]
    cases hl : Op.bytesLess p.k.toList k.toList
    · have ht : (Tr.node b p m x y).tell k = x.tell k ++ p :: y.tell k := by show (if lt p.k k = true then _ else _) = _; unfold lt; rw [hl]; rfl
      rw [ht] at hN ⊢
      simp only [List.length_append, List.length_cons] at hN
      have HC := Lib.hid (IX.out pre W H1.out BX.out (by omega) hJ)
      clear ht
      gi_wp2_with (first
        | (refine ⟨trivial, ?_⟩; gi_at_call 32; refine (callsIn_wide.2 HC.out).mono ?_; rintro e w1 (⟨rfl, hJ1, hb1⟩ | ⟨rfl, q, hq, hx⟩)
           rotate_left
           all_goals first
             | (have HQ := Lib.hid hq; have HX := Lib.hid hx; clear hq hx; skip)
             | (have x0 := (hb1.block b bb).trans H0.out
                obtain ⟨d0, d1, d2, d3, d4, d5, _⟩ := node_cells x0
                rw [hay] at d5
                obtain ⟨fn, tmps, assign, body, hy, hR⟩ := HY.out (6 - 1) (pre ++ x.tell k) p w1 hJ1 (by rw [List.length_append]; omega)
                dsimp only [encs] at hy
                have HB1 := Lib.hid hb1
                have HR := Lib.hid hR
                clear hb1 hR hJ1 x0))
        | (with_reducible refine ⟨wide_fn _, ?_⟩)
        | (with_reducible refine ⟨none_fn, ?_⟩))
      · go_ret
        exact .inr ⟨rfl, q, HQ.out.trans ⟨p :: y.tell k, by rw [List.append_assoc]⟩, HX.out⟩
      · refine HR.out.mono ?_
        rintro e w2 (⟨rfl, hJ2, hb2⟩ | ⟨rfl, hx2⟩)
        · have hb3 := HB1.out.trans hb2
          have x0 := (hb3.block b bb).trans H0.out
          obtain ⟨e0, e1, e2, e3, e4, e5, _⟩ := node_cells x0
          rw [hay] at e5
          have HC2 := Lib.hid (IY.out (pre ++ x.tell k ++ [p]) w2 (In.below H2.out BY.out hb3) BY.out (by simp only [List.length_append, List.length_cons, List.length_nil]; omega) hJ2)
          have HB3 := Lib.hid hb3
          clear hb2 hb3 hJ2 x0
          gi_wp2_with (first
            | (refine ⟨trivial, ?_⟩; gi_at_call 32; refine (callsIn_wide.2 HC2.out).mono ?_; rintro e w3 h3; obtain ⟨r, rfl, h4⟩ := told_bool h3)
            | (with_reducible refine ⟨wide_fn _, ?_⟩))
          go_ret
          exact told_more HB3.out h4
        · gi_wp2
          go_ret
          exact .inr ⟨rfl, _, ⟨y.tell k, by rw [List.append_assoc, List.append_assoc]; rfl⟩, hx2⟩
    · have ht : (Tr.node b p m x y).tell k = y.tell k := by show (if lt p.k k = true then _ else _) = _; unfold lt; rw [hl]; rfl
      rw [ht] at hN ⊢
      have HC := Lib.hid (IY.out pre W H2.out BY.out hN hJ)
      clear ht
      gi_wp2_with (first
        | (refine ⟨trivial, ?_⟩; gi_at_call 32; refine (callsIn_wide.2 HC.out).mono ?_; rintro e w1 h3; obtain ⟨r, rfl, h4⟩ := told_bool h3)
        | (with_reducible refine ⟨wide_fn _, ?_⟩)
        | (with_reducible refine ⟨none_fn, ?_⟩))
      all_goals first
        | exact absurd (by assumption : some undef = some (Value.bool _)) (by simp [undef])
        | (go_ret; exact h4)
end Go.Proofs.Ytkbjmbllnnghlaa.Te9
