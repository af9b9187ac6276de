/- ManKeeps: what stands over its walk: the disk, what was saved last, what was being saved. -/
import Derived.Test.YtaoneiicoaiehaaKp11
import Derived.Test.YtaoneiicoaiehaaHv11
import Derived.Test.YtaoneiicoaiehaaRo11
import Derived.Test.YtaoneiicoaiehaaNl11
namespace Go.Proofs.Ytaoneiicoaiehaa.Ks11
open Go Go.RowKit Go.Lib Go.Proofs.Ytaoneiicoaiehaa Go.Proofs.Ytaoneiicoaiehaa.Wm Go.Proofs.Ytaoneiicoaiehaa.Fl7 Go.Proofs.Ytaoneiicoaiehaa.Dh Go.Proofs.Ytaoneiicoaiehaa.Dk Go.Proofs.Ytaoneiicoaiehaa.Fm Go.Proofs.Ytaoneiicoaiehaa.Cl Go.Proofs.Ytaoneiicoaiehaa.Bu Go.Proofs.Ytaoneiicoaiehaa.Ch Go.Proofs.Ytaoneiicoaiehaa.Nm Go.Proofs.Ytaoneiicoaiehaa.St Go.Proofs.Ytaoneiicoaiehaa.Sy Go.Proofs.Ytaoneiicoaiehaa.Nu11 Go.Proofs.Ytaoneiicoaiehaa.Ma11 Go.Proofs.Ytaoneiicoaiehaa.Ck11 Go.Proofs.Ytaoneiicoaiehaa.Tx11 Go.Proofs.Ytaoneiicoaiehaa.Mn11 Go.Proofs.Ytaoneiicoaiehaa.Pg11 Go.Proofs.Ytaoneiicoaiehaa.Gb11 Go.Proofs.Ytaoneiicoaiehaa.Sv11 Go.Proofs.Ytaoneiicoaiehaa.Ld11 Go.Proofs.Ytaoneiicoaiehaa.Ap11 Go.Proofs.Ytaoneiicoaiehaa.Sa11 Go.Proofs.Ytaoneiicoaiehaa.Av11 Go.Proofs.Ytaoneiicoaiehaa.Kp11 Go.Proofs.Ytaoneiicoaiehaa.Hv11 Go.Proofs.Ytaoneiicoaiehaa.Ro11
theorem infoM : (Try.prog.info? 25).map (fun i => (i.zero, i.size, i.bytes)) = some (some (.agg #[.int .u64 0, .slice none 0 0, .int .u64 0]), 3, 40) := by kernel_rfl
def cells3 (x : Sx) : List Value := [.int .u64 (x.m.wal : Int), .slice x.A x.m.runs.length x.c, .int .u64 (x.m.next : Int)]
def cellsM (l : List Sx) : List Value := l.flatMap cells3
theorem cellsM_append (l m : List Sx) : cellsM (l ++ m) = cellsM l ++ cellsM m := List.flatMap_append ..
theorem cellsM_get : ∀ (l : List Sx) (k j : Nat) (hk : k < l.length) (_ : j < 3), (cellsM l)[3 * k + j]? = (cells3 l[k])[j]?
  | x :: l, 0, j, _, hj => by
    show (cells3 x ++ cellsM l)[3 * 0 + j]? = _
    rw [List.getElem?_append_left (by show 3 * 0 + j < 3; omega), Nat.mul_zero, Nat.zero_add]; rfl
  | x :: l, k + 1, j, hk, hj => by
    show (cells3 x ++ cellsM l)[3 * (k + 1) + j]? = _
    rw [List.getElem?_append_right (by show 3 ≤ 3 * (k + 1) + j; omega)]
    rw [show 3 * (k + 1) + j - (cells3 x).length = 3 * k + j by show 3 * (k + 1) + j - 3 = _; omega]
    exact cellsM_get l k j (by simpa using hk) hj
def manO (x : Sx) : Obj := .cells #[.int .u64 (x.m.wal : Int), .slice x.A x.m.runs.length x.c, .int .u64 (x.m.next : Int)] 25 (0, 0)
def stepO (x : Sx) : Obj := .cells #[.int .i64 x.o, .int .u64 (x.m.wal : Int), .slice x.A x.m.runs.length x.c, .int .u64 (x.m.next : Int), .int .i64 x.n, .int .i64 x.k] 43 (0, 0)
theorem one3 (x : Sx) : ∀ u ∈ cells3 x, u.oneCell' = true := by
  intro u hu
  unfold cells3 at hu
  simp only [List.mem_cons, List.not_mem_nil, or_false] at hu
  rcases hu with rfl | rfl | rfl <;> rfl
theorem news3 (W : World) (x : Sx) : ∀ j u, (cells3 x)[j]? = some u → (W.alloc (manO x)).cell? ((⟨W.heap.size, 0, none⟩ : Addr).add j) = some u := by
  intro j u h
  have e : (⟨W.heap.size, 0, none⟩ : Addr).add j = ⟨W.heap.size, j, none⟩ := by cases j <;> simp [Addr.add]
  rw [e, cell_of (heap_new W (manO x))]
  rw [← h]
  unfold cells3
  match j with
  | 0 => rfl
  | 1 => rfl
  | 2 => rfl
  | _ + 3 => rfl
/-- A row of the call's own, from block n0 on. -/
def Row (n0 : Nat) (m : List Sx) (v : Value) (W : World) : Prop := W.ownsRow n0 25 3 v m.length (cellsM m)
theorem row_nil (n0 : Nat) (W : World) : Row n0 [] (.slice none 0 0) W := World.ownsRow_nil _ _ _ _
theorem Row.shape {n0 : Nat} {m : List Sx} {v : Value} {W : World} (h : Row n0 m v W) : ∃ A c, v = .slice A m.length c := by
  rcases h.2 with ⟨rfl, h0⟩ | ⟨g, cap, cur, rfl, _⟩
  · exact ⟨none, 0, by rw [h0]⟩
  · exact ⟨_, cap, rfl⟩
theorem Row.keep {n0 : Nat} {m : List Sx} {v : Value} {W W' : World} (h : Row n0 m v W) (hk : ∀ x, v.ownBlock = some x → W'.heap[x]? = W.heap[x]?) : Row n0 m v W' := by
  refine ⟨h.1, ?_⟩
  rcases h.2 with h | ⟨g, cap, cur, rfl, h2, h3, h4⟩
  · exact .inl h
  · exact .inr ⟨g, cap, cur, rfl, h2, (hk g rfl).trans h3, h4⟩
theorem Row.lt {n0 : Nat} {m : List Sx} {v : Value} {W : World} (h : Row n0 m v W) : ∀ x, v.ownBlock = some x → n0 ≤ x ∧ x < W.heap.size := by
  intro x hx
  rcases h.2 with ⟨rfl, _⟩ | ⟨g, cap, cur, rfl, hb, hg, _⟩
  · cases hx
  · obtain rfl : g = x := by simpa [Value.ownBlock] using hx
    exact ⟨hb, lt_of_at hg⟩
theorem Row.cell {n0 : Nat} {m : List Sx} {v : Value} {W : World} (h : Row n0 m v W) {k : Nat} (hk : k < m.length) : ∃ g c, v = .slice (some ⟨g, 0, none⟩) m.length c ∧
    W.cell? ⟨g, k * 3, none⟩ = some (.int .u64 (m[k].m.wal : Int)) ∧ W.cell? ⟨g, k * 3 + 1, none⟩ = some (.slice m[k].A m[k].m.runs.length m[k].c) ∧ W.cell? ⟨g, k * 3 + 2, none⟩ = some (.int .u64 (m[k].m.next : Int)) := by
  rcases h.2 with ⟨rfl, h0⟩ | ⟨g, cap, cur, rfl, hb, hg, hr⟩
  · rw [h0] at hk; omega
  · have hcells := World.ownsRow.cells h (g := g) rfl
    have key : ∀ j (u : Value), j < 3 → (cells3 m[k])[j]? = some u → W.cell? ⟨g, k * 3 + j, none⟩ = some u := fun j u hj hu => by
      have h1 := hcells (3 * k + j) u (by rw [cellsM_get m k j hk hj]; exact hu)
      have e : (⟨g, 0, none⟩ : Addr).add (3 * k + j) = ⟨g, k * 3 + j, none⟩ := by
        rw [Addr.add_lit]; congr 1; omega
      rwa [e] at h1
    exact ⟨g, cap, rfl, key 0 _ (by omega) rfl, key 1 _ (by omega) rfl, key 2 _ (by omega) rfl⟩
/-- The disk p, what was saved last (block b), the row of what was being saved. -/
structure Stand (w0 w : World) (S : Nat → Prop) (p b : Nat) (D : St) (hv : Sx) (V : Value) (ms : List Sx) : Prop where
  bel : Below w0.heap.size w0 w
  full : Full w S p D
  lo : ∀ x, S x → w0.heap.size ≤ x
  hi : ∀ x, S x → x < w.heap.size
  box : w.heap[b]? = some (manO hv)
  nb : ¬ S b
  lb : w0.heap.size ≤ b
  row : Row w0.heap.size ms V w
  nr : ∀ x, V.ownBlock = some x → ¬ S x ∧ x ≠ b
section
variable {w0 w w' : World} {S : Nat → Prop} {p b : Nat} {D D' : St} {hv : Sx} {V : Value} {ms : List Sx}
theorem Stand.below (h : Stand w0 w S p b D hv V ms) (hb : Below w.heap.size w w') : Stand w0 w' S p b D hv V ms :=
  ⟨h.bel.trans (hb.mono h.bel.size), Full.frame h.full (fun _ _ hl => hb.block _ hl), h.lo, fun x hx => Nat.lt_of_lt_of_le (h.hi x hx) hb.size, (hb.block _ (lt_of_at h.box)).trans h.box, h.nb, h.lb, h.row.keep (fun x hx => hb.block _ (h.row.lt x hx).2), h.nr⟩
theorem Stand.alloc (h : Stand w0 w S p b D hv V ms) (o : Obj) : Stand w0 (w.alloc o) S p b D hv V ms := h.below ((Below.refl _ _).alloc (Nat.le_refl _) o)
theorem Stand.call (h : Stand w0 w S p b D hv V ms) (ht : To S w w' p D') : Stand w0 w' (grow S w w') p b D' hv V ms :=
  ⟨below_to h.bel h.bel.size h.lo ht, ht.2, grow_ge h.lo h.bel.size, grow_lt h.hi ht.1.size, (ht.1.block _ (lt_of_at h.box) h.nb).trans h.box,
    fun hx => hx.elim h.nb fun e => by have := lt_of_at h.box; omega, h.lb, h.row.keep (fun x hx => ht.1.block _ (h.row.lt x hx).2 (h.nr x hx).1),
    fun x hx => ⟨fun e => e.elim (h.nr x hx).1 fun e => by have := (h.row.lt x hx).2; omega, (h.nr x hx).2⟩⟩
/-- What was saved is what was saved last. -/
theorem Stand.put (h : Stand w0 w S p b D hv V ms) (s : Sx) :
    Stand w0 (((w.setCell ⟨b, 0, none⟩ (.int .u64 (s.m.wal : Int))).setCell ⟨b, 1, none⟩ (.slice s.A s.m.runs.length s.c)).setCell ⟨b, 2, none⟩ (.int .u64 (s.m.next : Int))) S p b D s (.slice none 0 0) [] := by
  have hB : Below b w w := Below.refl _ _
  have hb' := setCell_heap (setCell_heap (setCell_heap h.box 0 (.int .u64 (s.m.wal : Int))) 1 (.slice s.A s.m.runs.length s.c)) 2 (.int .u64 (s.m.next : Int))
  have hkeep : ∀ x, x ≠ b → (((w.setCell ⟨b, 0, none⟩ (.int .u64 (s.m.wal : Int))).setCell ⟨b, 1, none⟩ (.slice s.A s.m.runs.length s.c)).setCell ⟨b, 2, none⟩ (.int .u64 (s.m.next : Int))).heap[x]? = w.heap[x]? := fun x hx => by
    rw [heap_setCell_other _ _ _ _ hx, heap_setCell_other _ _ _ _ hx, heap_setCell_other _ _ _ _ hx]
  refine ⟨((h.bel.setCell (p := ⟨b, 0, none⟩) h.lb _).setCell (p := ⟨b, 1, none⟩) h.lb _).setCell (p := ⟨b, 2, none⟩) h.lb _, Full.frame h.full fun x hx _ => hkeep x (fun e => h.nb (e ▸ hx)), h.lo, ?_, hb', h.nb, h.lb, row_nil _ _, fun x hx => by cases hx⟩
  intro x hx
  simp only [World.size_setCell]
  exact h.hi x hx
/-- What is being saved is added. -/
theorem Stand.app (h : Stand w0 w S p b D hv V ms) (s : Sx) {w2 : World} {v2 : Value}
    (r1 : w2.ownsRow w0.heap.size 25 3 v2 (ms.length + 1) (cellsM ms ++ cells3 s)) (r2 : (w.alloc (manO s)).grownBy w2 V.ownBlock) (hn : ∀ x, v2.ownBlock = some x → V.ownBlock = some x ∨ w.heap.size ≤ x) :
    Stand w0 w2 S p b D hv v2 (ms ++ [s]) := by
  have e1 : (ms ++ [s]).length = ms.length + 1 := by simp
  have e2 : cellsM (ms ++ [s]) = cellsM ms ++ cells3 s := by rw [cellsM_append]; show _ ++ (cells3 s ++ []) = _; rw [List.append_nil]
  have hr : Row w0.heap.size (ms ++ [s]) v2 w2 := by unfold Row; rw [e1, e2]; exact r1
  have ha := h.alloc (manO s)
  have hk : ∀ x, x < w.heap.size → V.ownBlock ≠ some x → w2.heap[x]? = w.heap[x]? := fun x hx hne => by
    rw [r2.block x (by rw [size_alloc]; omega) (fun e => hne e.symm), heap_alloc _ _ _ hx]
  refine ⟨ha.bel.grown r2 ha.bel.size (fun x hx => (ha.row.lt x hx).1), Full.frame h.full fun x hx hl => hk x hl (fun e => (h.nr x e).1 hx), h.lo, fun x hx => ?_, ?_, h.nb, h.lb, hr, fun x hx => ?_⟩
  · have := h.hi x hx
    have := r2.size
    rw [size_alloc] at this
    omega
  · rw [hk b (lt_of_at h.box) (fun e => (h.nr b e).2 rfl)]; exact h.box
  · rcases hn x hx with e | e
    · exact h.nr x e
    · exact ⟨fun hs => by have := h.hi x hs; omega, by have := lt_of_at h.box; omega⟩
end
end Go.Proofs.Ytaoneiicoaiehaa.Ks11
