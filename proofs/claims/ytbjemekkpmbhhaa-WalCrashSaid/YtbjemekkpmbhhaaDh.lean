/- The heap of a disk: which blocks are its own, rows of bytes that may share a block, and what an append to one of them leaves of the others. -/
import Derived.Test.YtbjemekkpmbhhaaMp
import Derived.Test.YtbjemekkpmbhhaaProg
import Derived.WalkKit
import Derived.Lib.Hide
import Derived.Lib.AppendStr
import Derived.Laws.Tables
import Derived.Deep.OwnRows
namespace Go.Proofs.Ytbjemekkpmbhhaa.Dh
open Go Go.RowKit Go.Lib
open Go.ChangeMaps (setBlock)
theorem undL : Try.prog.underlying 66 = some (.slice 5) := by kernel_rfl
theorem undE : Try.prog.underlying 5 = some (.int .u8) := by kernel_rfl
theorem undS : Try.prog.underlying 9 = some .string := by kernel_rfl
theorem infoE : (Try.prog.info? 5).map (fun i => (i.zero, i.size, i.bytes)) = some (some (.int .u8 0), 1, 1) := by kernel_rfl
def At (w : World) (S : Nat → Prop) (b : Nat) (o : Obj) : Prop := S b ∧ w.heap[b]? = some o
def Like (w' w : World) : Prop := w'.heap = w.heap ∧ w'.os = w.os ∧ w'.tape = w.tape ∧ w'.output = w.output
/-- The block numbers that are own behind a step. -/
def grow (S : Nat → Prop) (w w' : World) (b : Nat) : Prop := S b ∨ (w.heap.size ≤ b ∧ b < w'.heap.size)
structure Tread (S : Nat → Prop) (w w' : World) : Prop where
  os : w'.os = w.os
  tape : w'.tape = w.tape
  output : w'.output = w.output
  size : w.heap.size ≤ w'.heap.size
  block : ∀ b, b < w.heap.size → ¬ S b → w'.heap[b]? = w.heap[b]?
theorem Tread.refl (S : Nat → Prop) (w : World) : Tread S w w := ⟨rfl, rfl, rfl, Nat.le_refl _, fun _ _ _ => rfl⟩
theorem Tread.trans {S : Nat → Prop} {a b c : World} (h : Tread S a b) (k : Tread (grow S a b) b c) : Tread S a c :=
  ⟨k.os.trans h.os, k.tape.trans h.tape, k.output.trans h.output, Nat.le_trans h.size k.size, fun i hi hn =>
    (k.block i (Nat.lt_of_lt_of_le hi h.size) (fun x => by rcases x with x | x; exact hn x; omega)).trans (h.block i hi hn)⟩
theorem Tread.mono {S S' : Nat → Prop} {a b : World} (h : Tread S a b) (hs : ∀ b, S b → S' b) : Tread S' a b :=
  ⟨h.os, h.tape, h.output, h.size, fun i hi hn => h.block i hi (fun x => hn (hs i x))⟩
theorem Tread.drew {S : Nat → Prop} {a b : World} (h : Tread S a b) : Tread S a b.drew := ⟨h.os, h.tape, h.output, h.size, h.block⟩
theorem Tread.of_drew {S : Nat → Prop} {a b : World} (h : Tread S a.drew b) : Tread S a b := ⟨h.os, h.tape, h.output, h.size, h.block⟩
theorem heap_alloc (w : World) (o : Obj) (k : Nat) (h : k < w.heap.size) : (w.alloc o).heap[k]? = w.heap[k]? := Below.heap_alloc w o k h
theorem heap_new (w : World) (o : Obj) : (w.alloc o).heap[w.heap.size]? = some o := by
  show (w.heap.push o)[w.heap.size]? = _
  simp
theorem size_alloc (w : World) (o : Obj) : (w.alloc o).heap.size = w.heap.size + 1 := by
  show (w.heap.push o).size = _
  simp
theorem Tread.alloc (S : Nat → Prop) (w : World) (o : Obj) : Tread S w (w.alloc o) := ⟨rfl, rfl, rfl, by rw [size_alloc]; omega, fun k hk _ => heap_alloc w o k hk⟩
theorem Tread.setCell {S : Nat → Prop} (w : World) (a : Addr) (v : Value) (h : S a.block) : Tread S w (w.setCell a v) :=
  ⟨rfl, rfl, rfl, by simp [World.setCell], fun k _ hn => Below.heap_setCell w a v k (fun e => hn (e ▸ h))⟩
theorem Tread.setBlock {S : Nat → Prop} (w : World) (b : Nat) (o : Obj) (h : S b) : Tread S w (setBlock w b o) :=
  ⟨rfl, rfl, rfl, by simp [Go.ChangeMaps.setBlock], fun k _ hn => by
    show (w.heap.setIfInBounds b o)[k]? = _
    rw [Array.getElem?_setIfInBounds_ne (fun e : b = k => hn (e ▸ h))]⟩
theorem setBlock_at (w : World) (b : Nat) (o o' : Obj) (h : w.heap[b]? = some o') : (setBlock w b o).heap[b]? = some o := by
  show (w.heap.setIfInBounds b o)[b]? = _
  have hlt : b < w.heap.size := (Array.getElem?_eq_some_iff.1 h).1
  simp [hlt]
theorem setBlock_ne (w : World) (b k : Nat) (o : Obj) (h : k ≠ b) : (setBlock w b o).heap[k]? = w.heap[k]? := by
  show (w.heap.setIfInBounds b o)[k]? = _
  rw [Array.getElem?_setIfInBounds_ne (Ne.symm h)]
theorem setBlock_size (w : World) (b : Nat) (o : Obj) : (setBlock w b o).heap.size = w.heap.size := by simp [Go.ChangeMaps.setBlock]
theorem setCell_size (w : World) (a : Addr) (v : Value) : (w.setCell a v).heap.size = w.heap.size := by simp [World.setCell]
theorem lt_of_at {w : World} {b : Nat} {o : Obj} (h : w.heap[b]? = some o) : b < w.heap.size := (Array.getElem?_eq_some_iff.1 h).1
theorem cell_of {w : World} {b : Nat} {cs : Array Value} {t : TypeId} {fr : Nat × Nat} (h : w.heap[b]? = some (.cells cs t fr)) (i : Nat) : w.cell? ⟨b, i, none⟩ = cs[i]? := by
  simp [World.cell?, h]
theorem free_of {w : World} {b : Nat} {cs : Array Value} {t : TypeId} (h : w.heap[b]? = some (.cells cs t (0, 0))) (i : Nat) : w.frozen? ⟨b, i, none⟩ = false := by
  simp [World.frozen?, h]
theorem setCell_heap {w : World} {b : Nat} {cs : Array Value} {t : TypeId} {fr : Nat × Nat} (h : w.heap[b]? = some (.cells cs t fr)) (i : Nat) (v : Value) :
    (w.setCell ⟨b, i, none⟩ v).heap[b]? = some (.cells (cs.setIfInBounds i v) t fr) := by
  simp [World.setCell, Array.getElem?_modify, h]
/-- A row of bytes. -/
def u8s (t : List UInt8) : List Value := t.map fun b => Value.int .u8 b.toNat
def TextAt (w : World) (S : Nat → Prop) (v : Value) (t : List UInt8) : Prop :=
  (v = .slice none 0 0 ∧ t = []) ∨
  ∃ b cap cs, v = .slice (some ⟨b, 0, none⟩) t.length cap ∧ At w S b (.cells cs 5 (0, 0)) ∧ t.length ≤ cap ∧ cap ≤ cs.size ∧ cap ≤ maxLen ∧ cs.toList.take t.length = u8s t
def isText (o : Obj) : Prop := ∃ cs fr, o = .cells cs 5 fr
/-- Two rows of bytes: what is written behind the end of one is not in the other. -/
def Apart (v v' : Value) : Prop := ∀ b n c n' c', v = .slice (some ⟨b, 0, none⟩) n c → v' = .slice (some ⟨b, 0, none⟩) n' c' →
  (n < c → n' ≤ n ∧ n' = c') ∧ (n' < c' → n ≤ n' ∧ n = c)
theorem Apart.symm {v v' : Value} (h : Apart v v') : Apart v' v := fun b n c n' c' e e' => ⟨(h b n' c' n c e' e).2, (h b n' c' n c e' e).1⟩
theorem Apart.nil (v : Value) : Apart (.slice none 0 0) v := fun b n c n' c' e _ => by cases e
theorem TextAt.len {w : World} {S : Nat → Prop} {v : Value} {t : List UInt8} (h : TextAt w S v t) : ∃ a c, v = .slice a t.length c ∧ t.length ≤ c ∧ c ≤ maxLen := by
  rcases h with ⟨rfl, rfl⟩ | ⟨b, cap, cs, rfl, _, h1, _, h2, _⟩
  · exact ⟨none, 0, rfl, Nat.le_refl _, by simp [maxLen]⟩
  · exact ⟨_, cap, rfl, h1, h2⟩
theorem TextAt.keep {w w' : World} {S S' : Nat → Prop} {v : Value} {t : List UInt8} (h : TextAt w S v t) (hk : ∀ b o, isText o → At w S b o → At w' S' b o) : TextAt w' S' v t := by
  rcases h with h | ⟨b, cap, cs, hv, ha, h1⟩
  · exact .inl h
  · exact .inr ⟨b, cap, cs, hv, hk _ _ ⟨_, _, rfl⟩ ha, h1⟩
theorem At.alloc {w : World} {S : Nat → Prop} {b : Nat} {o : Obj} (h : At w S b o) (x : Obj) : At (w.alloc x) (grow S w (w.alloc x)) b o :=
  ⟨.inl h.1, by rw [heap_alloc w x b (lt_of_at h.2)]; exact h.2⟩
theorem At.up {w : World} {S S' : Nat → Prop} {b : Nat} {o : Obj} (h : At w S b o) (hs : ∀ b, S b → S' b) : At w S' b o := ⟨hs b h.1, h.2⟩
theorem grow_up {S : Nat → Prop} {w w' : World} : ∀ b, S b → grow S w w' b := fun _ h => .inl h
theorem grow_grow {S : Nat → Prop} {w w1 w2 : World} (h1 : w.heap.size ≤ w1.heap.size) (h2 : w1.heap.size ≤ w2.heap.size) : ∀ b, grow (grow S w w1) w1 w2 b → grow S w w2 b := by
  intro b h
  rcases h with (h | h) | h
  · exact .inl h
  · exact .inr (by omega)
  · exact .inr (by omega)
/-- What an append to a row of bytes leaves. -/
structure Appended (S : Nat → Prop) (w w' : World) (v v' : Value) (t' : List UInt8) : Prop where
  touch : Tread S w w'
  text : TextAt w' (grow S w w') v' t'
  plain : ∀ (b : Nat) (o : Obj), ¬ isText o → w.heap[b]? = some o → w'.heap[b]? = some o
  other : ∀ y ty, Apart v y → TextAt w S y ty → TextAt w' (grow S w w') y ty ∧ Apart v' y
theorem Appended.of_drew {S : Nat → Prop} {w w' : World} {v v' : Value} {t' : List UInt8} (h : Appended S w.drew w' v v' t') : Appended S w w' v v' t' := ⟨h.touch.of_drew, h.text, h.plain, h.other⟩
theorem strCells_u8s (s : ByteArray) : strCells s = u8s s.data.toList := rfl
theorem u8s_append (a b : List UInt8) : u8s (a ++ b) = u8s a ++ u8s b := by simp [u8s]
theorem u8s_length (a : List UInt8) : (u8s a).length = a.length := by simp [u8s]
theorem TextAt.cells {w : World} {S : Nat → Prop} {b n c : Nat} {t : List UInt8} (h : TextAt w S (.slice (some ⟨b, 0, none⟩) n c) t) : ∀ j u, (u8s t)[j]? = some u → w.cell? ((⟨b, 0, none⟩ : Addr).add j) = some u := by
  rcases h with ⟨h, _⟩ | ⟨b', cap, cs, hv, ha, h1, h2, h3, h4⟩
  · cases h
  · cases hv
    intro j u hj
    have : Addr.add ⟨b, 0, none⟩ j = ⟨b, j, none⟩ := by cases j <;> simp [Addr.add]
    rw [this, cell_of ha.2]
    rw [← h4, List.getElem?_take] at hj
    by_cases hl : j < t.length
    · rw [if_pos hl] at hj; simpa using hj
    · rw [if_neg hl] at hj; cases hj
/-- A new row of bytes. -/
theorem appended_new {S : Nat → Prop} {w : World} {v : Value} (n cap : Nat) (cs : Array Value) (t' : List UInt8) (hn : n = t'.length) (h1 : t'.length ≤ cap) (h2 : cap ≤ cs.size) (h3 : cap ≤ maxLen)
    (h4 : cs.toList.take t'.length = u8s t') : Appended S w (w.drew.alloc (.cells cs 5)) v (.slice (some ⟨w.heap.size, 0, none⟩) n cap) t' := by
  subst hn
  refine ⟨(Tread.alloc S w.drew _).of_drew, .inr ⟨w.heap.size, cap, cs, rfl, ⟨.inr ⟨Nat.le_refl _, by rw [size_alloc]; exact Nat.lt_succ_self _⟩, heap_new w.drew _⟩, h1, h2, h3, h4⟩, ?_, ?_⟩
  · intro b o _ hb
    rw [heap_alloc w.drew _ b (lt_of_at hb)]; exact hb
  · intro y ty _ hy
    refine ⟨hy.keep fun b o _ ha => ⟨.inl ha.1, by rw [heap_alloc w.drew _ b (lt_of_at ha.2)]; exact ha.2⟩, ?_⟩
    intro b n c n' c' e e'
    subst e'
    cases e
    rcases hy with ⟨h, _⟩ | ⟨b', cap', cs', hv, ha, _⟩
    · cases h
    · cases hv
      have := lt_of_at ha.2
      omega
theorem run_append_text (S : Nat → Prop) (w : World) (ty : TypeId) (v : Value) (t : List UInt8) (s : ByteArray) (hv : TextAt w S v t) (hb : t.length + s.size ≤ 1099511627776) :
    ∃ v' w', (Builtin.append_ #[66, 9] ty #[v, .string s]).run Try.prog w = .ok v' w' ∧ Appended S w w' v v' (t ++ s.data.toList) := by
  obtain ⟨i, hi, hz0, hz1, hz2⟩ := info_parts infoE
  have hsl : s.data.toList.length = s.size := by simp
  rcases hv with ⟨rfl, rfl⟩ | ⟨b, cap, cs, rfl, ha, h1, h2, h3, h4⟩
  · by_cases hm : s.size = 0
    · have hn : strCells s = [] := List.eq_nil_of_length_eq_zero (by rw [strCells_length]; exact hm)
      have hf := run_firstCells_string (P := Try.prog) w 1 s
      rw [hm] at hf
      have hl : s.data.toList = [] := List.eq_nil_of_length_eq_zero (by rw [hsl]; exact hm)
      refine ⟨.slice none 0 0, w, ?_, ⟨Tread.refl _ _, .inl ⟨rfl, by simp [hl]⟩, fun _ _ _ h => h, fun y ty' _ hy => ⟨hy.keep fun b o _ ha => ha.up grow_up, Apart.nil y⟩⟩⟩
      simp [Builtin.append_, run_underlying undL, run_underlying undS, sizeOf, typeInfo, hi, hz1, Builtin.lenOf, hm, hf]
    · have hr := run_append_nil_string (P := Try.prog) w 66 9 ty 5 i (.int .u8 0) undL undS hi hz0 s (by omega) (by simp at hb; omega) (by rw [hz2]; simp at hb; omega)
      have e1 : (s.data.map fun b => Value.int .u8 b.toNat) = (strCells s).toArray := by
        apply Array.ext'
        simp [strCells]
      have hge := grownCap_ge w s.size 0 5
      have hcm : grownCap w s.size 0 5 ≤ maxLen := grownCap_le_maxLen w s.size 0 5 (by unfold maxLen; simp at hb; omega)
      rw [e1] at hr
      refine ⟨_, _, hr, appended_new _ _ _ _ (by simp) (by simpa using hge) ?_ hcm ?_⟩
      · have hz1 : (Value.int IntKind.u8 0).cells.size = 1 := rfl
        simp only [Array.size_append, List.size_toArray, size_zeroCells, hz1, strCells_length]
        omega
      · simp only [Array.toList_append, List.nil_append, strCells_u8s]
        rw [← u8s_length]; exact List.take_left
  · by_cases hroom : t.length + s.size ≤ cap
    · have hr := run_append_room_string (P := Try.prog) w 66 9 ty 5 i undL undS hi hz1 b t.length cap cs ha.2 s hroom (by omega)
      refine ⟨_, _, hr, ⟨⟨rfl, rfl, rfl, by simp, fun k _ hk => setRow_other w b k _ (fun e => hk (e ▸ ha.1))⟩, ?_, ?_, ?_⟩⟩
      · refine .inr ⟨b, cap, _, by simp, ⟨.inl ha.1, setRow_heap w b cs _ _ _ ha.2⟩, by simp; omega, ?_, h3, ?_⟩
        · simp [strCells_length]; omega
        · have hl : (t ++ s.data.toList).length = t.length + s.size := by simp
          rw [hl, h4, strCells_u8s, ← u8s_append, List.take_append_of_le_length (by rw [u8s_length, hl]; exact Nat.le_refl _), List.take_of_length_le (by rw [u8s_length, hl]; exact Nat.le_refl _)]
      · intro k o ho hk
        rw [setRow_other w b k _ (fun e => ho ⟨cs, (0, 0), by subst e; rw [ha.2] at hk; cases hk; rfl⟩)]; exact hk
      · intro y ty' hap hy
        rcases hy with ⟨rfl, rfl⟩ | ⟨b', cap', cs', rfl, ha', h1', h2', h3', h4'⟩
        · exact ⟨.inl ⟨rfl, rfl⟩, (Apart.nil _).symm⟩
        · by_cases e : b' = b
          · subst e
            have ec := ha'.2
            rw [ha.2] at ec
            cases ec
            have hq := hap b' t.length cap ty'.length cap' rfl rfl
            by_cases hs0 : s.size = 0
            · have hl : s.data.toList = [] := List.eq_nil_of_length_eq_zero (by rw [hsl]; exact hs0)
              have hsc : strCells s = [] := List.eq_nil_of_length_eq_zero (by rw [strCells_length]; exact hs0)
              refine ⟨.inr ⟨b', cap', _, rfl, ⟨.inl ha'.1, setRow_heap w b' _ _ _ _ ha.2⟩, h1', ?_, h3', ?_⟩, ?_⟩
              · simp [hsc, hs0]; omega
              · rw [hsc, hs0]; simp; exact h4'
              · rw [hs0]; exact hap
            · have h5 := hq.1 (by omega)
              refine ⟨.inr ⟨b', cap', _, rfl, ⟨.inl ha'.1, setRow_heap w b' _ _ _ _ ha.2⟩, h1', ?_, h3', ?_⟩, ?_⟩
              · simp [strCells_length]; omega
              · rw [List.append_assoc, List.take_append_of_le_length (by simp; omega), List.take_take, Nat.min_eq_left h5.1]; exact h4'
              · intro b2 n c n' c' e1 e2
                cases e1; cases e2
                exact ⟨fun _ => ⟨by omega, h5.2⟩, fun hlt => by omega⟩
          · refine ⟨.inr ⟨b', cap', cs', rfl, ⟨.inl ha'.1, by rw [setRow_other w b b' _ e]; exact ha'.2⟩, h1', h2', h3', h4'⟩, ?_⟩
            intro b2 n c n' c' e1 e2
            cases e1; cases e2
            exact absurd rfl e
    · have holds := TextAt.cells (S := S) (.inr ⟨b, cap, cs, rfl, ha, h1, h2, h3, h4⟩)
      have hr := run_append_grow_string (P := Try.prog) w 66 9 ty 5 i (.int .u8 0) undL undS hi hz0 ⟨b, 0, none⟩ t.length cap (u8s t) (by rw [hz1, u8s_length]; omega) holds s (by omega) (by omega) (by rw [hz2]; exact growslice_fits (by omega) (by omega))
      have hge := grownCap_ge w (t.length + s.size) cap 5
      have hcm : grownCap w (t.length + s.size) cap 5 ≤ maxLen := grownCap_le_maxLen w _ _ 5 (by unfold maxLen; omega)
      refine ⟨_, _, hr, appended_new _ _ _ _ (by simp) (by simpa using hge) ?_ hcm ?_⟩
      · have hz1 : (Value.int IntKind.u8 0).cells.size = 1 := rfl
        simp only [Array.size_append, List.size_toArray, size_zeroCells, hz1, strCells_length, u8s_length]
        omega
      · simp only [Array.toList_append, strCells_u8s]
        rw [← u8s_append, ← u8s_length]; exact List.take_left
end Go.Proofs.Ytbjemekkpmbhhaa.Dh
