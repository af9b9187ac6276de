/- The document's rows of files, made anew: the contract of without. -/
import Derived.Test.YtaoneiicoaiehaaGreatFz11
import Derived.Maps.AppendAt
namespace Go.Proofs.YtaoneiicoaiehaaGreat.Fw11
open Go Go.RowKit Go.Lib Go.Proofs.YtaoneiicoaiehaaGreat Go.Proofs.YtaoneiicoaiehaaGreat.Dh Go.Proofs.YtaoneiicoaiehaaGreat.Ol11 Go.Proofs.YtaoneiicoaiehaaGreat.Fr11 Go.Proofs.YtaoneiicoaiehaaGreat.Fq11 Go.Proofs.YtaoneiicoaiehaaGreat.Ck11 Go.Proofs.YtaoneiicoaiehaaGreat.Fz11
theorem infoF : (Tryz.prog.info? 71).map (fun i => (i.zero, i.size, i.bytes)) = some (some (.agg #[.string ⟨#[]⟩, .string ⟨#[]⟩]), 2, 32) := by kernel_rfl
def cells2 (q : Fl) : List Value := [.string q.1, .string q.2]
def cellsF (l : List Fl) : List Value := l.flatMap cells2
theorem cellsF_append (l m : List Fl) : cellsF (l ++ m) = cellsF l ++ cellsF m := List.flatMap_append ..
theorem cellsF_get : ∀ (l : List Fl) (k j : Nat) (hk : k < l.length) (_ : j < 2), (cellsF l)[2 * k + j]? = (cells2 l[k])[j]?
  | x :: l, 0, j, _, hj => by
    show (cells2 x ++ cellsF l)[2 * 0 + j]? = _
    rw [List.getElem?_append_left (by show 2 * 0 + j < 2; omega), Nat.mul_zero, Nat.zero_add]; rfl
  | x :: l, k + 1, j, hk, hj => by
    show (cells2 x ++ cellsF l)[2 * (k + 1) + j]? = _
    rw [List.getElem?_append_right (by show 2 ≤ 2 * (k + 1) + j; omega)]
    rw [show 2 * (k + 1) + j - (cells2 x).length = 2 * k + j by show 2 * (k + 1) + j - 2 = _; omega]
    exact cellsF_get l k j (by simpa using hk) hj
def fileO (q : Fl) : Obj := .cells #[.string q.1, .string q.2] 71 (0, 0)
theorem one2 (x : Fl) : ∀ u ∈ cells2 x, u.oneCell' = true := by
  intro u hu
  unfold cells2 at hu
  simp only [List.mem_cons, List.not_mem_nil, or_false] at hu
  rcases hu with rfl | rfl <;> rfl
theorem news2 (W : World) (x : Fl) : ∀ j u, (cells2 x)[j]? = some u → (W.alloc (fileO x)).cell? ((⟨W.heap.size, 0, none⟩ : Addr).add j) = some u := by
  intro j u h
  have e : (⟨W.heap.size, 0, none⟩ : Addr).add j = ⟨W.heap.size, j, none⟩ := by cases j <;> simp [Addr.add]
  rw [e, cell_of (heap_new W (fileO x))]
  rw [← h]
  unfold cells2
  match j with
  | 0 => rfl
  | 1 => rfl
  | _ + 2 => rfl
/-- A row of the call's own, from block n0 on. -/
def RowF (n0 : Nat) (m : List Fl) (v : Value) (W : World) : Prop := W.ownsRow n0 71 2 v m.length (cellsF m)
theorem row_nil (n0 : Nat) (W : World) : RowF n0 [] (.slice none 0 0) W := World.ownsRow_nil _ _ _ _
theorem RowF.shape {n0 : Nat} {m : List Fl} {v : Value} {W : World} (h : RowF n0 m v W) : ∃ A c, v = .slice A m.length c := by
  rcases h.2 with ⟨rfl, h0⟩ | ⟨g, cap, cur, rfl, _⟩
  · exact ⟨none, 0, by rw [h0]⟩
  · exact ⟨_, cap, rfl⟩
theorem RowF.keep {n0 : Nat} {m : List Fl} {v : Value} {W W' : World} (h : RowF n0 m v W) (hk : ∀ x, v.ownBlock = some x → W'.heap[x]? = W.heap[x]?) : RowF n0 m v W' := by
  refine ⟨h.1, ?_⟩
  rcases h.2 with h | ⟨g, cap, cur, rfl, h2, h3, h4⟩
  · exact .inl h
  · exact .inr ⟨g, cap, cur, rfl, h2, (hk g rfl).trans h3, h4⟩
theorem RowF.lt {n0 : Nat} {m : List Fl} {v : Value} {W : World} (h : RowF n0 m v W) : ∀ x, v.ownBlock = some x → n0 ≤ x ∧ x < W.heap.size := by
  intro x hx
  rcases h.2 with ⟨rfl, _⟩ | ⟨g, cap, cur, rfl, hb, hg, _⟩
  · cases hx
  · obtain rfl : g = x := by simpa [Value.ownBlock] using hx
    exact ⟨hb, lt_of_at hg⟩
theorem RowF.below {n0 : Nat} {m : List Fl} {v : Value} {W W' : World} (h : RowF n0 m v W) (hb : Below W.heap.size W W') : RowF n0 m v W' := h.keep fun x hx => hb.block _ (h.lt x hx).2
theorem RowF.rd {n0 : Nat} {m : List Fl} {A : Option Addr} {c : Nat} {W : World} (h : RowF n0 m (.slice A m.length c) W) : RdF W A m := fun hne => by
  rcases h.2 with ⟨_, h0⟩ | ⟨g, cap, cur, e, hb, hg, hr⟩
  · exact absurd (List.length_eq_zero_iff.1 h0) hne
  · injection e with e1 _ e3
    subst e1 e3
    have hcells := World.ownsRow.cells h (g := g) rfl
    have key : ∀ k (hk : k < m.length) j (u : Value), j < 2 → (cells2 m[k])[j]? = some u → W.cell? ⟨g, k * 2 + j, none⟩ = some u := fun k hk j u hj hu => by
      have h1 := hcells (2 * k + j) u (by rw [cellsF_get m k j hk hj]; exact hu)
      have e : (⟨g, 0, none⟩ : Addr).add (2 * k + j) = ⟨g, k * 2 + j, none⟩ := by
        rw [Addr.add_lit]; congr 1; omega
      rwa [e] at h1
    refine ⟨g, 0, rfl, lt_of_at hg, fun k hk => ⟨?_, ?_⟩⟩
    · rw [Nat.zero_add]; exact key k hk 0 _ (by omega) rfl
    · rw [Nat.zero_add]; exact key k hk 1 _ (by omega) rfl
/-- Behind an append of one file. -/
theorem app_ok {n0 : Nat} {w W w2 : World} {m : List Fl} {y : Fl} {v v2 : Value} (hown : RowF n0 m v W) (hB : Below n0 w W) (hn : n0 ≤ W.heap.size)
    (r1 : w2.ownsRow n0 71 2 v2 (m.length + 1) (cellsF m ++ cells2 y)) (r2 : (W.alloc (fileO y)).grownBy w2 v.ownBlock) : ∃ A2 c2, v2 = .slice A2 (m.length + 1) c2 ∧ RowF n0 (m ++ [y]) v2 w2 ∧ Below n0 w w2 := by
  have e1 : (m ++ [y]).length = m.length + 1 := by simp
  have e2 : cellsF (m ++ [y]) = cellsF m ++ cells2 y := by rw [cellsF_append]; show _ ++ (cells2 y ++ []) = _; rw [List.append_nil]
  have hr : RowF n0 (m ++ [y]) v2 w2 := by unfold RowF; rw [e1, e2]; exact r1
  obtain ⟨A2, c2, h2⟩ := hr.shape
  exact ⟨A2, c2, by rw [h2, e1], hr, (hB.alloc hn _).grown r2 (by rw [size_alloc]; omega) (fun x hx => (hown.lt x hx).1)⟩
theorem wo_snoc (k : ByteArray) (q : Fl) : ∀ l : List Fl, wo k (l ++ [q]) = if q.1 = k then wo k l else wo k l ++ [q]
  | [] => rfl
  | p :: l => by
    have ih := wo_snoc k q l
    show wo k (p :: (l ++ [q])) = _
    unfold wo
    rw [ih]
    by_cases h : p.1 = k
    · rw [if_pos h, if_pos h]
    · rw [if_neg h, if_neg h]
      by_cases e : q.1 = k
      · rw [if_pos e, if_pos e]
      · rw [if_neg e, if_neg e]; rfl
theorem wo_le (k : ByteArray) : ∀ l : List Fl, (wo k l).length ≤ l.length
  | [] => Nat.le_refl _
  | q :: l => by
    have ih := wo_le k l
    unfold wo
    split
    · rw [List.length_cons]; omega
    · rw [List.length_cons, List.length_cons]; omega
/-- A row made anew. -/
def Makes (w : World) (R : List Fl) (e : Ending) (w' : World) : Prop := ∃ A c, e = .returned (.slice A R.length c) ∧ RowF w.heap.size R (.slice A R.length c) w' ∧ Below w.heap.size w w'
end Go.Proofs.YtaoneiicoaiehaaGreat.Fw11
