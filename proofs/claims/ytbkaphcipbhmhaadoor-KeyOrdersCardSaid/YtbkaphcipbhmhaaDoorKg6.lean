/- The row that key.Get reads, in the variables that its closures share. -/
import Derived.Test.YtbkaphcipbhmhaaDoorKm6
import Derived.Test.YtbkaphcipbhmhaaDoorKc6
import Derived.Test.YtbkaphcipbhmhaaDoorVh
import Derived.Test.YtbkaphcipbhmhaaDoorVk
import Derived.Maps.AppendAt
namespace Go.Proofs.YtbkaphcipbhmhaaDoor.Kg6
open Go Go.RowKit Go.Proofs.YtbkaphcipbhmhaaDoor.Wm Go.Proofs.YtbkaphcipbhmhaaDoor.Cm Go.Proofs.YtbkaphcipbhmhaaDoor.Vm Go.Proofs.YtbkaphcipbhmhaaDoor.Vr Go.Proofs.YtbkaphcipbhmhaaDoor.Vs Go.Proofs.YtbkaphcipbhmhaaDoor.Vc Go.Proofs.YtbkaphcipbhmhaaDoor.Vh Go.Proofs.YtbkaphcipbhmhaaDoor.Vk Go.Proofs.YtbkaphcipbhmhaaDoor.Kl6 Go.Proofs.YtbkaphcipbhmhaaDoor.Km6 Go.Proofs.YtbkaphcipbhmhaaDoor.Bu6 Go.Proofs.YtbkaphcipbhmhaaDoor.Kn6
def ptr (b : Nat) : Value := .pointer (some ⟨b, 0, none⟩)
/-- The func values, over the variables from block n on: row, rest, on, (readings' answer), kind 4, kind 5, kinds. -/
def onV (n : Nat) : Value := .func (.func 25) #[] #[.pointer (some ⟨n, 0, none⟩), .pointer (some ⟨n + 1, 0, none⟩)]
def restV (n : Nat) : Value := .func (.func 26) #[] #[.pointer (some ⟨n + 6, 0, none⟩)]
def kindV (f n : Nat) : Value := .func (.func f) #[] #[.pointer (some ⟨n + 2, 0, none⟩)]
def textV (n b : Nat) : Value := .func (.func 38) #[] #[.pointer (some ⟨n + 2, 0, none⟩), .pointer (some ⟨b, 0, none⟩)]
structure Env (w : World) (n : Nat) : Prop where
  big : 1 < n
  rest : w.heap[n + 1]? = some (.cells #[restV n] 45 (0, 0))
  on : w.heap[n + 2]? = some (.cells #[onV n] 58 (0, 0))
  k4 : w.heap[n + 4]? = some (.cells #[.int .u8 4] 5 (0, 0))
  k5 : w.heap[n + 5]? = some (.cells #[.int .u8 5] 5 (0, 0))
  kinds : ∃ T, w.heap[n + 6]? = some (.cells #[kindV 40 n, kindV 42 n, kindV 43 n, kindV 46 n, textV n (n + 4), textV n (n + 5)] T (0, 0))
/-- The row's variable. -/
def Row (w : World) (n : Nat) (l : List V) : Prop := ∃ v, w.heap[n]? = some (.cells #[v] 22 (0, 0)) ∧ w.ownsRow (n + 7) 38 4 v l.length (cellsV l) ∧ n + 7 ≤ w.heap.size
/-- Nothing was touched but the row. -/
structure Step (n : Nat) (w w' : World) : Prop where
  os : w'.os = w.os
  tape : w'.tape = w.tape
  output : w'.output = w.output
  size : w.heap.size ≤ w'.heap.size
  old : ∀ k, k < n + 7 → k ≠ n → w'.heap[k]? = w.heap[k]?
theorem Step.refl (n : Nat) (w : World) : Step n w w := ⟨rfl, rfl, rfl, Nat.le_refl _, fun _ _ _ => rfl⟩
theorem Step.trans {n : Nat} {a b c : World} (h : Step n a b) (k : Step n b c) : Step n a c :=
  ⟨k.os.trans h.os, k.tape.trans h.tape, k.output.trans h.output, Nat.le_trans h.size k.size, fun i hi hn => (k.old i hi hn).trans (h.old i hi hn)⟩
theorem Step.of_below {n : Nat} {w w' : World} (h : Below w.heap.size w w') (hn : n + 7 ≤ w.heap.size) : Step n w w' :=
  ⟨h.os, h.tape, h.output, h.size, fun k hk _ => h.block k (by omega)⟩
theorem Step.of_grown {n : Nat} {w w' : World} {r : Option Nat} (h : w.grownBy w' r) (hn : n + 7 ≤ w.heap.size) (hr : ∀ k, r = some k → n + 7 ≤ k) : Step n w w' :=
  ⟨h.os, h.tape, h.output, h.size, fun k hk _ => h.block k (by omega) (fun e => by have := hr k e.symm; omega)⟩
theorem Step.of_set (n : Nat) (w : World) (v : Value) : Step n w (w.setCell ⟨n, 0, none⟩ v) :=
  ⟨rfl, rfl, rfl, by simp [World.setCell], fun k _ hn => Below.heap_setCell _ _ _ _ (fun e => hn (by rw [e]))⟩
theorem Step.below {n : Nat} {w w' : World} (h : Step n w w') : Below n w w' :=
  ⟨h.os, h.tape, h.output, h.size, fun k hk => h.old k (by omega) (by omega)⟩
theorem Env.keep {w w' : World} {n : Nat} (h : Env w n) (hs : Step n w w') : Env w' n := by
  refine ⟨h.big, ?_, ?_, ?_, ?_, ?_⟩
  · rw [hs.old _ (by omega) (by omega)]; exact h.rest
  · rw [hs.old _ (by omega) (by omega)]; exact h.on
  · rw [hs.old _ (by omega) (by omega)]; exact h.k4
  · rw [hs.old _ (by omega) (by omega)]; exact h.k5
  · rw [hs.old _ (by omega) (by omega)]; exact h.kinds
theorem own_keep {w w' : World} {B e s : Nat} {v : Value} {n : Nat} {xs : List Value} (h : w.ownsRow B e s v n xs) (hb : Below w.heap.size w w') : w'.ownsRow B e s v n xs := by
  obtain ⟨h1, h2⟩ := h
  refine ⟨h1, ?_⟩
  rcases h2 with h2 | ⟨g, cap, cur, a, b, c, d⟩
  · exact .inl h2
  · exact .inr ⟨g, cap, cur, a, b, (hb.block g (lt_of_block c)).trans c, d⟩
theorem Row.big {w : World} {n : Nat} {l : List V} (h : Row w n l) : n + 7 ≤ w.heap.size := by obtain ⟨_, _, _, h⟩ := h; exact h
theorem Row.keep {w w' : World} {n : Nat} {l : List V} (h : Row w n l) (hb : Below w.heap.size w w') : Row w' n l := by
  obtain ⟨v, h1, h2, h3⟩ := h
  exact ⟨v, (hb.block n (lt_of_block h1)).trans h1, own_keep h2 hb, Nat.le_trans h3 hb.size⟩
theorem tabs_lt {w : World} (h : Tabs w) : 1 < w.heap.size := by
  have hc := (h.2 0 (by omega)).1
  rcases Nat.lt_or_ge (valid_ren.g 4) w.heap.size with h' | h'
  · exact Nat.lt_of_le_of_lt (by decide) h'
  · simp [World.cell?, Array.getElem?_eq_none h'] at hc
/-- The tables stand in blocks 0 and 1. -/
theorem tabs_step {n : Nat} {w w' : World} (h : Tabs w) (hs : Step n w w') (hn : 1 < n) : Tabs w' := by
  have e3 : valid_ren.g 3 < n := Nat.lt_of_le_of_lt (by decide) hn
  have e4 : valid_ren.g 4 < n := Nat.lt_of_le_of_lt (by decide) hn
  refine ⟨fun c hc => ?_, fun i hi => ⟨?_, ?_⟩⟩
  · rw [World.cell?_of_block (w := w) (a := ⟨valid_ren.g 3, c, none⟩) (hs.old _ (by simp only; omega) (by simp only; omega))]; exact h.1 c hc
  · rw [World.cell?_of_block (w := w) (a := ⟨valid_ren.g 4, 2 * i, none⟩) (hs.old _ (by simp only; omega) (by simp only; omega))]; exact (h.2 i hi).1
  · rw [World.cell?_of_block (w := w) (a := ⟨valid_ren.g 4, 2 * i + 1, none⟩) (hs.old _ (by simp only; omega) (by simp only; omega))]; exact (h.2 i hi).2
/-- What a reading tells, and what the row is then. -/
def Out (n : Nat) (w : World) (l : List V) (g : Option (List V)) (e : Ending) (w' : World) : Prop := e = .returned (.bool g.isSome) ∧ Step n w w' ∧ ∀ m, g = some m → Row w' n (l ++ m)
theorem Out.ahead {n : Nat} {w0 w w' : World} {l : List V} {g : Option (List V)} {e : Ending} (h : Out n w l g e w') (hs : Step n w0 w) : Out n w0 l g e w' := ⟨h.1, hs.trans h.2.1, h.2.2⟩
theorem cellsV_snoc : ∀ (l : List V) (v : V), cellsV (l ++ [v]) = cellsV l ++ [.int .u8 v.k, .int .i64 v.n, .int .u64 (v.r : Int), .string v.s]
  | [], v => rfl
  | a :: l, v => by simp [cellsV, cellsV_snoc l v]
theorem news4 (w : World) (k n r : Int) (s : ByteArray) : ∀ (j : Nat) (u : Value), [Value.int .u8 k, .int .i64 n, .int .u64 r, .string s][j]? = some u → (w.alloc (.cells #[.int .u8 k, .int .i64 n, .int .u64 r, .string s] 38)).cell? ((⟨w.heap.size, 0, none⟩ : Addr).add j) = some u := by
  intro j u hj
  rw [addr_add, cell_of_row _ _ _ _ _ _ (heap_alloc_new w _)]
  match j, hj with
  | 0, hj => exact hj
  | 1, hj => exact hj
  | 2, hj => exact hj
  | 3, hj => exact hj
  | _ + 4, hj => simp at hj
theorem own_shape {w : World} {B e s : Nat} {v : Value} {n : Nat} {xs : List Value} (h : w.ownsRow B e s v n xs) : ∃ a c, v = .slice a n c := by
  obtain ⟨_, h2⟩ := h
  rcases h2 with ⟨rfl, rfl⟩ | ⟨g, cap, cur, rfl, _⟩
  · exact ⟨none, 0, rfl⟩
  · exact ⟨_, _, rfl⟩
/-- append of a value that was just laid in a block of its own. -/
theorem append_val {w : World} {ops : Array Oper} {rest : List Oper} {o : Oper} {a : Act} {Q : Exit → Act → World → Prop} (hgd : o.guard = none) (sl x : Operand)
    (ho : o.op = .call { callee := .builtin .append, args := #[sl, x], argTypes := #[22, 22] })
    {B b : Nat} {v : Value} {l : List V} (y : V) (hs : a.eval sl = v) (hx : a.eval x = .slice (some ⟨b, 0, none⟩) 1 1) (hb : b = w.heap.size)
    (h : w.ownsRow B 38 4 v l.length (cellsV l)) (hB : B ≤ w.heap.size) (hlen : l.length ≤ 1000)
    (hK : ∀ v' w', w'.ownsRow B 38 4 v' (l ++ [y]).length (cellsV (l ++ [y])) → w.grownBy w' v.ownBlock → wpList Tryd.prog ops Q rest (a.put o.dst v') w') :
    wpList Tryd.prog ops Q (o :: rest) a (w.alloc (.cells #[.int .u8 y.k, .int .i64 y.n, .int .u64 (y.r : Int), .string y.s] 38)) := by
  subst hb
  obtain ⟨i0, hi, hz0, hz1, hz2⟩ := info_parts infoV
  have hal : Below w.heap.size w (w.alloc (.cells #[.int .u8 y.k, .int .i64 y.n, .int .u64 (y.r : Int), .string y.s] 38)) := (Below.refl _ _).alloc (Nat.le_refl _) _
  refine wpList_append_own_at _ hgd sl x 22 ho B 38 i0 _ 4 40 Tryd.underlying22 hi hz0 hz1 hz2 rfl (by decide) v l.length _ hs (own_keep h hal) ⟨w.heap.size, 0, none⟩ 1 1 [.int .u8 y.k, .int .i64 y.n, .int .u64 (y.r : Int), .string y.s] hx rfl (news4 w _ _ _ _) (by intro u hu; simp at hu; rcases hu with rfl | rfl | rfl | rfl <;> rfl) (by unfold maxLen; omega) (by omega) (Nat.le_trans hB hal.size) ?_
  intro v' w' h1 h2 _ _
  refine hK v' w' ?_ (grown_trans (grown_of hal _) h2 (fun x hx => .inl hx))
  rw [List.length_append, cellsV_snoc]
  exact h1
/-- The claims that the closures make of each other. -/
def RestAt (n k : Nat) : Prop := ∀ (w : World) (s : List UInt8) (l : List V), Hid (Env w n) → Hid (Row w n l) → Hid (Tabs w) → l.length + k = 8 → s.length ≤ 100000 →
  Calls Tryd.prog 26 #[.string (bs s), .pointer (some ⟨n + 6, 0, none⟩)] w (Out n w l (reads k s))
def OnAt (n k : Nat) : Prop := ∀ (w : World) (v : V) (s : List UInt8) (l : List V), Hid (Env w n) → Hid (Row w n l) → Hid (Tabs w) → l.length + k = 8 → s.length ≤ 100000 → v.ok →
  Calls Tryd.prog 25 #[vv v, .string (bs s), .pointer (some ⟨n, 0, none⟩), .pointer (some ⟨n + 1, 0, none⟩)] w (Out n w l (onP k v s))
end Go.Proofs.YtbkaphcipbhmhaaDoor.Kg6
