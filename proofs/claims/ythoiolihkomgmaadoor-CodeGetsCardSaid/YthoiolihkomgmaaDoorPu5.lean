/- The bytes of values and rows, as package code writes them: appendNumber, appendValue. -/
import Derived.Test.YthoiolihkomgmaaDoorCm0
import Derived.Test.YthoiolihkomgmaaDoorPut
import Derived.Test.YthoiolihkomgmaaDoorVr
import Derived.WalkKit
import Derived.Lib.AppendStr
import Derived.OwnWalk
import Derived.OneCell
import Derived.Lib.Hide
import Derived.Deep.RegionHeld3
namespace Go.Proofs.YthoiolihkomgmaaDoor.Pu5
open Go Go.RowKit Go.Proofs.YthoiolihkomgmaaDoor.Wm Go.Proofs.YthoiolihkomgmaaDoor.Cm Go.Proofs.YthoiolihkomgmaaDoor.Vm
/-- v is a slice of the call's own, of bytes l. -/
def Buf (w : World) (B : Nat) (v : Value) (l : List UInt8) : Prop := w.ownsRow B 5 1 v l.length (Lib.strCells (bs l)) ∧ B ≤ w.heap.size
theorem Buf.nil (w : World) : Buf w w.heap.size (.slice none 0 0) [] := ⟨⟨rfl, .inl ⟨rfl, rfl⟩⟩, Nat.le_refl _⟩
theorem Buf.keep {w w' : World} {B : Nat} {v : Value} {l : List UInt8} (h : Buf w B v l) (hb : Below w.heap.size w w') : Buf w' B v l := by
  obtain ⟨⟨h1, h2⟩, h3⟩ := h
  refine ⟨⟨h1, ?_⟩, Nat.le_trans h3 hb.size⟩
  rcases h2 with h2 | ⟨g, cap, cur, a, b, c, d⟩
  · exact .inl h2
  · exact .inr ⟨g, cap, cur, a, b, (hb.block g (lt_of_block c)).trans c, d⟩
theorem strCells_app (l m : List UInt8) : Lib.strCells (bs l) ++ Lib.strCells (bs m) = Lib.strCells (bs (l ++ m)) := by
  simp [Lib.strCells, bs]
theorem Buf.more {w' : World} {B : Nat} {v' : Value} {l m : List UInt8} (h : w'.ownsRow B 5 1 v' (l.length + (bs m).size) (Lib.strCells (bs l) ++ Lib.strCells (bs m))) (hb : B ≤ w'.heap.size) : Buf w' B v' (l ++ m) := by
  refine ⟨?_, hb⟩
  rw [List.length_append, ← strCells_app]
  exact h
theorem Buf.own {w : World} {B : Nat} {v : Value} {l : List UInt8} (h : Buf w B v l) : ∀ k, v.ownBlock = some k → B ≤ k := by
  obtain ⟨⟨_, h2⟩, _⟩ := h
  rcases h2 with ⟨rfl, _⟩ | ⟨g, cap, cur, rfl, b, _⟩
  · intro k hk; cases hk
  · intro k hk; cases hk; exact b
theorem nb_none : Value.ownBlock (.slice none 0 0) = none := rfl
/-- Behind an append: the row is where it was, or new. -/
def Moved (w : World) (v v' : Value) : Prop := v'.ownBlock = v.ownBlock ∨ ∃ g, v'.ownBlock = some g ∧ w.heap.size ≤ g
theorem run_append_str {w : World} {B : Nat} {v : Value} {l : List UInt8} (h : Buf w B v l) (m : List UInt8) (hlen : l.length + m.length ≤ 100000) (ty : TypeId) :
    ∃ v' w', (Builtin.append_ #[46, 9] ty #[v, .string (bs m)]).run Tryd.prog w = .ok v' w' ∧ Buf w' B v' (l ++ m) ∧ w.grownBy w' v.ownBlock ∧ Moved w v v' := by
  obtain ⟨i0, hi, hz0, hz1, hz2⟩ := info_parts WPut.infoE
  obtain ⟨v', w', hr, h2, h3, _⟩ := Lib.run_append_own_string (P := Tryd.prog) w B 46 9 ty 5 i0 WPut.undL WPut.undS hi hz0 hz1 hz2 v l.length _ h.1 (bs m) (by rw [bs_size]; unfold maxLen; omega) (by rw [bs_size]; omega) h.2
  refine ⟨v', w', hr, Buf.more h2 (Nat.le_trans h.2 h3.size), h3, ?_⟩
  rcases h.1.2 with ⟨rfl, h0⟩ | ⟨g, cap, cur, rfl, hbg, hg, hnc, hcm, hcs, htake⟩
  · have hr2 := Lib.run_append_own_string (P := Tryd.prog) w w.heap.size 46 9 ty 5 i0 WPut.undL WPut.undS hi hz0 hz1 hz2 (.slice none 0 0) 0 [] ⟨rfl, .inl ⟨rfl, rfl⟩⟩ (bs m) (by rw [bs_size]; unfold maxLen; omega) (by rw [bs_size]; omega) (Nat.le_refl _)
    obtain ⟨v2, w2, e2, o2, _, _⟩ := hr2
    rw [hr] at e2
    injection e2 with ev ew
    subst ev
    rcases o2.2 with ⟨rfl, _⟩ | ⟨g, cap, cur, rfl, hbg, _⟩
    · exact .inl rfl
    · exact .inr ⟨g, rfl, hbg⟩
  · by_cases hroom : l.length + (bs m).size ≤ cap
    · left
      have hcs' : cur.size = cap := by simpa using hcs
      have e2 := Lib.run_append_room_string (P := Tryd.prog) w 46 9 ty 5 i0 WPut.undL WPut.undS hi hz1 g l.length cap cur hg (bs m) hroom (by omega)
      rw [hr] at e2
      injection e2 with ev ew
      rw [ev]; rfl
    · right
      have holds : ∀ j u, (Lib.strCells (bs l))[j]? = some u → w.cell? ((⟨g, 0, none⟩ : Addr).add j) = some u := h.1.cells (g := g) rfl
      have hxl : (Lib.strCells (bs l)).length = l.length * i0.size := by rw [hz1]; exact h.1.1
      have hs : (bs m).size = m.length := bs_size m
      have e2 := Lib.run_append_grow_string (P := Tryd.prog) w 46 9 ty 5 i0 (.int .u8 0) WPut.undL WPut.undS hi hz0 ⟨g, 0, none⟩ l.length cap _ hxl holds (bs m) (by omega) (by rw [hs]; omega) (by rw [hz2]; exact growslice_fits (by omega) (by omega))
      rw [hr] at e2
      injection e2 with ev ew
      exact ⟨w.heap.size, by rw [ev]; rfl, Nat.le_refl _⟩
def Grew (w : World) (B : Nat) (u : Value) (l : List UInt8) (e : Ending) (w' : World) : Prop := ∃ v, e = .returned v ∧ Buf w' B v l ∧ w.grownBy w' u.ownBlock ∧ Moved w u v
theorem append_str {w : World} {ops : Array Oper} {rest : List Oper} {o : Oper} {a : Act} {Q : Exit → Act → World → Prop} (hgd : o.guard = none) (sl x : Operand)
    (ho : o.op = .call { callee := .builtin .append, args := #[sl, x], argTypes := #[46, 9] })
    {B : Nat} {v : Value} {l m : List UInt8} (hs : a.eval sl = v) (hx : a.eval x = .string (bs m)) (h : Buf w B v l) (hlen : l.length + m.length ≤ 100000)
    (hK : ∀ v' w', Buf w' B v' (l ++ m) → w.grownBy w' v.ownBlock → Moved w v v' → wpList Tryd.prog ops Q rest (a.put o.dst v') w') : wpList Tryd.prog ops Q (o :: rest) a w := by
  refine wpList_plain hgd fun K hK' => ?_
  obtain ⟨v', w', hr, h2, h3, h4⟩ := run_append_str h m hlen o.type
  unfold Oper.wp execOp
  simp only [ho, resolve, invoke, builtin, Sem.run_bind, Sem.run_pure, Result.andThen_ok, List.map_toArray, List.map_cons, List.map_nil, hs, hx, hr]
  exact hK' _ _ (hK v' w' h2 h3 h4)
theorem Buf.small {w : World} {B : Nat} {v : Value} {l : List UInt8} (h : Buf w B v l) : ∀ k, v.ownBlock = some k → k < w.heap.size := by
  obtain ⟨⟨_, h2⟩, _⟩ := h
  rcases h2 with ⟨rfl, _⟩ | ⟨g, cap, cur, rfl, b, c, _⟩
  · intro k hk; cases hk
  · intro k hk; cases hk; exact lt_of_block c
theorem grown_of {w w1 : World} (hb : Below w.heap.size w w1) (r : Option Nat) : w.grownBy w1 r := ⟨hb.os, hb.tape, hb.output, hb.size, fun k hk _ => hb.block k hk⟩
theorem grown_trans {a b c : World} {r r' : Option Nat} (h : a.grownBy b r) (k : b.grownBy c r') (hr : ∀ x, r' = some x → r = some x ∨ a.heap.size ≤ x) : a.grownBy c r :=
  ⟨k.os.trans h.os, k.tape.trans h.tape, k.output.trans h.output, Nat.le_trans h.size k.size, fun i hi hn => (k.block i (Nat.lt_of_lt_of_le hi h.size) (fun e => by rcases hr i e.symm with e' | e'; exact hn e'.symm; omega)).trans (h.block i hi hn)⟩
theorem Moved.at {w : World} {u v : Value} (h : Moved w u v) : ∀ x, v.ownBlock = some x → u.ownBlock = some x ∨ w.heap.size ≤ x := by
  intro x hx
  rcases h with h | ⟨g, h1, h2⟩
  · left; rw [← h]; exact hx
  · right; rw [h1] at hx; cases hx; exact h2
theorem Moved.trans {a b : World} {u v x : Value} (h : Moved a u v) (k : Moved b v x) (hs : a.heap.size ≤ b.heap.size) : Moved a u x := by
  rcases k with k | ⟨g, h1, h2⟩
  · rcases h with h | ⟨g, h1, h2⟩
    · left; rw [k, h]
    · right; exact ⟨g, by rw [k, h1], h2⟩
  · right; exact ⟨g, h1, Nat.le_trans hs h2⟩
set_option maxRecDepth 20000 in
theorem number_any {w : World} {B : Nat} {v : Value} {l : List UInt8} (h : Buf w B v l) (V m : Nat) (h1 : 1 ≤ m) (h8 : m ≤ 8) (hV : V < 256 ^ m) (hl : l.length ≤ 90000) :
    Calls Tryd.prog 24 #[v, .int .u64 (V : Int), .int .i64 (m : Int)] w (Grew w B v (l ++ putN V m)) := by
  have hp := fun W => WPut.ok_var (V : Int) V m W h1 h8 hV rfl
  have H := Lib.hid h; have HL := Lib.hid hl; have H8 := Lib.hid h8
  clear h hV hl h1 h8
  go_enter Tryd.func24, Tryd.ntmps24
  go_wp2_with (first
    | (go_at_call 36; refine (hp _).mono ?_; rintro e w1 ⟨rfl, hb⟩; have HB := Lib.hid hb; have HO := Lib.hid (H.out.keep hb); clear hb)
    | (at_builtin; refine append_str rfl _ _ rfl (m := putN V m) rfl rfl HO.out ?_ ?_))
  · rw [putN_length]; have := HL.out; have := H8.out; omega
  · intro v' w' hown hgr hmv
    have HO' := Lib.hid hown; have HG := Lib.hid hgr; have HM := Lib.hid hmv
    clear hown hgr hmv
    go_wp2
    go_ret
    refine ⟨v', rfl, HO'.out, grown_trans (grown_of HB.out _) HG.out (fun x hx => .inl hx), ?_⟩
    rcases HM.out with e | ⟨g, e1, e2⟩
    · exact .inl e
    · exact .inr ⟨g, e1, Nat.le_trans HB.out.size e2⟩
theorem number1 (V : Nat) (hV : V < 256 ^ 1) : Hid (∀ (W : World) (B : Nat) (v : Value) (l : List UInt8), Hid (Buf W B v l) → l.length ≤ 90000 → Calls Tryd.prog 24 #[v, .int .u64 (V : Int), .int .i64 1] W (Grew W B v (l ++ putN V 1))) :=
  fun _ _ _ _ h hl => number_any (m := 1) h.out V (by omega) (by omega) hV hl
theorem number1k (V : Nat) (n : Int) (hn : n = (V : Int)) (hV : V < 256 ^ 1) : Hid (∀ (W : World) (B : Nat) (v : Value) (l : List UInt8), Hid (Buf W B v l) → l.length ≤ 90000 → Calls Tryd.prog 24 #[v, .int .u64 n, .int .i64 1] W (Grew W B v (l ++ putN V 1))) := by
  subst hn; exact number1 V hV
theorem number8 (V : Nat) (hV : V < 256 ^ 8) : Hid (∀ (W : World) (B : Nat) (v : Value) (l : List UInt8), Hid (Buf W B v l) → l.length ≤ 90000 → Calls Tryd.prog 24 #[v, .int .u64 (V : Int), .int .i64 8] W (Grew W B v (l ++ putN V 8))) :=
  fun _ _ _ _ h hl => number_any (m := 8) h.out V (by omega) (by omega) hV hl
theorem Buf.shape {w : World} {B : Nat} {v : Value} {l : List UInt8} (h : Buf w B v l) : ∃ a c, v = .slice a l.length c := by
  obtain ⟨⟨_, h2⟩, _⟩ := h
  rcases h2 with ⟨rfl, h0⟩ | ⟨g, cap, cur, rfl, _⟩
  · exact ⟨none, 0, by rw [h0]⟩
  · exact ⟨_, _, rfl⟩
theorem Buf.alloc {w : World} {B : Nat} {v : Value} {l : List UInt8} (h : Buf w B v l) (o : Obj) : Buf (w.alloc o) B v l := h.keep ((Below.refl _ _).alloc (Nat.le_refl _) _)
end Go.Proofs.YthoiolihkomgmaaDoor.Pu5
