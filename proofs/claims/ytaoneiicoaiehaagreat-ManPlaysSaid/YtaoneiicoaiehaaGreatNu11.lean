/- Slices of 64-bit numbers: what they read as, rows of the call's own, one row appended to another; slices.Sort of such a row. -/
import Derived.Test.YtaoneiicoaiehaaGreatSx11
import Derived.Laws.OwnMore
import Derived.Laws.AppendOwn
namespace Go.Proofs.YtaoneiicoaiehaaGreat.Nu11
open Go Go.RowKit Go.Lib Go.Sort Go.Proofs.YtaoneiicoaiehaaGreat.Dh Go.Proofs.YtaoneiicoaiehaaGreat.Sx11
theorem undN : Tryz.prog.underlying 34 = some (.slice 33) := by kernel_rfl
theorem infoN : (Tryz.prog.info? 33).map (fun i => (i.zero, i.size, i.bytes)) = some (some (.int .u64 0), 1, 8) := by kernel_rfl
def nums (l : List Nat) : List Value := l.map fun n : Nat => Value.int .u64 (n : Int)
theorem nums_length (l : List Nat) : (nums l).length = l.length := by simp [nums]
theorem nums_append (a b : List Nat) : nums (a ++ b) = nums a ++ nums b := by simp [nums]
theorem nums_get (l : List Nat) (k : Nat) (h : k < l.length) : (nums l)[k]? = some (.int .u64 (l[k] : Int)) := by simp [nums, h]
theorem one_nums (l : List Nat) : ∀ u ∈ nums l, u.oneCell' = true := by
  intro u hu
  simp only [nums, List.mem_map] at hu
  obtain ⟨x, _, rfl⟩ := hu
  rfl
/-- The slice at A reads as the numbers l. -/
def Nums (w : World) (A : Option Addr) (l : List Nat) : Prop := l ≠ [] → ∃ b o, A = some ⟨b, o, none⟩ ∧ b < w.heap.size ∧ ∀ k (h : k < l.length), w.cell? ⟨b, o + k, none⟩ = some (.int .u64 (l[k] : Int))
theorem Nums.nil (w : World) (A : Option Addr) : Nums w A [] := fun h => absurd rfl h
theorem Nums.keep {B : Nat} {w w' : World} {A : Option Addr} {l : List Nat} (h : Nums w A l) (hB : w.heap.size ≤ B) (hb : Below B w w') : Nums w' A l := fun hl => by
  obtain ⟨b, o, rfl, hlt, hc⟩ := h hl
  exact ⟨b, o, rfl, by have := hb.size; omega, fun k hk => (hb.cell (p := ⟨b, o + k, none⟩) (by show b < B; omega)).trans (hc k hk)⟩
theorem Nums.at_ {w : World} {A : Option Addr} {l : List Nat} (h : Nums w A l) {k : Nat} (hk : k < l.length) : ∃ b o, A = some ⟨b, o, none⟩ ∧ w.cell? ⟨b, o + k, none⟩ = some (.int .u64 (l[k] : Int)) := by
  obtain ⟨b, o, e, _, hc⟩ := h (fun h0 => by rw [h0] at hk; simp at hk)
  exact ⟨b, o, e, hc k hk⟩
/-- A row of the call's own. -/
def Own (B : Nat) (l : List Nat) (v : Value) (w : World) : Prop := w.ownsRow B 33 1 v l.length (nums l)
theorem Own.shape {B : Nat} {l : List Nat} {v : Value} {w : World} (h : Own B l v w) : (v = .slice none 0 0 ∧ l = []) ∨
    ∃ g c, v = .slice (some ⟨g, 0, none⟩) l.length c ∧ B ≤ g ∧ g < w.heap.size ∧ ∀ k (hk : k < l.length), w.cell? ⟨g, k, none⟩ = some (.int .u64 (l[k] : Int)) ∧ w.frozen? ⟨g, k, none⟩ = false := by
  rcases h.2 with ⟨rfl, h0⟩ | ⟨g, cap, cur, rfl, hb, hg, hnc, hcm, hcs, htake⟩
  · exact .inl ⟨rfl, List.length_eq_zero_iff.1 h0⟩
  · refine .inr ⟨g, cap, rfl, hb, lt_of_at hg, fun k hk => ⟨?_, free_of hg k⟩⟩
    have hcells := h.cells (g := g) rfl
    have h1 := hcells k _ (nums_get l k hk)
    have e : (⟨g, 0, none⟩ : Addr).add k = ⟨g, k, none⟩ := by cases k <;> simp [Addr.add]
    rwa [e] at h1
theorem Own.nums {B : Nat} {l : List Nat} {A : Option Addr} {n c : Nat} {w : World} (h : Own B l (.slice A n c) w) : Nums w A l := fun hne => by
  rcases h.shape with ⟨_, h0⟩ | ⟨g, c', e, _, hlt, hc⟩
  · exact absurd h0 hne
  · injection e with e1 e2 e3
    exact ⟨g, 0, e1, hlt, fun k hk => by rw [Nat.zero_add]; exact (hc k hk).1⟩
theorem Own.keep {B : Nat} {l : List Nat} {v : Value} {w w' : World} (h : Own B l v w) (hb : Below w.heap.size w w') : Own B l v w' :=
  World.ownsRow.kept h (⟨hb.os, hb.tape, hb.output, hb.size, fun k hk _ => hb.block k hk⟩ : w.grownBy w' none) (by cases v.ownBlock <;> simp)
set_option maxRecDepth 100000 in
/-- One row appended to another. -/
theorem run_app {w : World} {B : Nat} {H L : List Nat} {v : Value} {A : Option Addr} {c : Nat} (ty : TypeId) (h : Own B H v w) (h2 : Nums w A L) (h0 : L = [] → A = none ∧ c = 0 ∨ A ≠ none) (hn : H.length + L.length ≤ 1099511627776) (hB : B ≤ w.heap.size) :
    ∃ v' w', (Builtin.append_ #[34, 34] ty #[v, .slice A L.length c]).run Tryz.prog w = .ok v' w' ∧ Own B (H ++ L) v' w' ∧ Below B w w' := by
  obtain ⟨i, hi, hz0, hz1, hz2⟩ := info_parts infoN
  have some_case : ∀ ad : Addr, A = some ad → (∀ j u, (Nu11.nums L)[j]? = some u → w.cell? (ad.add j) = some u) → ∃ v' w', (Builtin.append_ #[34, 34] ty #[v, .slice A L.length c]).run Tryz.prog w = .ok v' w' ∧ Own B (H ++ L) v' w' ∧ Below B w w' := by
    rintro ad rfl hnews
    obtain ⟨v', w', hrun, hown, hg, _⟩ := run_append_own (P := Tryz.prog) w B 34 ty 33 i _ 1 8 undN hi hz0 hz1 hz2 rfl (by decide) v H.length (Nu11.nums H) h ad L.length c (Nu11.nums L) (by rw [nums_length]; omega) hnews (one_nums L) (by unfold maxLen; omega) (by omega) hB
    refine ⟨v', w', hrun, ?_, (Below.refl B w).grown hg hB ?_⟩
    · unfold Own
      rw [List.length_append, nums_append]
      exact hown
    · intro x hx
      rcases h.2 with ⟨rfl, _⟩ | ⟨g, cap, cur, rfl, hb, _⟩
      · cases hx
      · obtain rfl : g = x := by simpa [Value.ownBlock] using hx
        exact hb
  cases hL : L with
  | nil =>
    subst hL
    rcases h0 rfl with ⟨rfl, rfl⟩ | hne
    · refine ⟨v, w, run_append_owned_none w B _ _ _ i 1 undN hi _ _ _ h, ?_, Below.refl _ _⟩
      rw [List.append_nil]; exact h
    · cases A with
      | none => exact absurd rfl hne
      | some ad => exact some_case ad rfl (fun j u hj => by simp [Nu11.nums] at hj)
  | cons x l =>
    rw [← hL]
    obtain ⟨b, o, rfl, hlt, hc⟩ := h2 (by rw [hL]; simp)
    refine some_case _ rfl (fun j u hj => ?_)
    have hjl : j < L.length := by
      have := (List.getElem?_eq_some_iff.1 hj).1
      rwa [nums_length] at this
    rw [nums_get L j hjl] at hj
    injection hj with hj
    subst hj
    have e : (⟨b, o, none⟩ : Addr).add j = ⟨b, o + j, none⟩ := by cases j <;> simp [Addr.add]
    rw [e]; exact hc j hjl
/-- The same, as a step of a walk. -/
theorem wpList_app {ops : Array Oper} {rest : List Oper} {o : Oper} {a : Act} {Q : Exit → Act → World → Prop} {w : World} {B : Nat} {H L : List Nat} {v : Value} {A : Option Addr} {c : Nat} (hgd : o.guard = none) (s x : Operand)
    (ho : o.op = .call { callee := .builtin .append, args := #[s, x], argTypes := #[34, 34] }) (hs : a.eval s = v) (hx : a.eval x = .slice A L.length c)
    (h : Own B H v w) (h2 : Nums w A L) (h0 : L = [] → A = none ∧ c = 0 ∨ A ≠ none) (hn : H.length + L.length ≤ 1099511627776) (hB : B ≤ w.heap.size)
    (k : ∀ v' w', Own B (H ++ L) v' w' → Below B w w' → wpList Tryz.prog ops Q rest (a.put o.dst v') w') : wpList Tryz.prog ops Q (o :: rest) a w :=
  wpList_plain hgd fun _ hK => by
    obtain ⟨v', w', hr, r1, r2⟩ := run_app o.type h h2 h0 hn hB
    unfold Oper.wp execOp
    simp only [ho, resolve, invoke, builtin, Sem.run_bind, Sem.run_pure, Result.andThen_ok, List.map_toArray, List.map_cons, List.map_nil, hs, hx, hr]
    exact hK _ _ (k v' w' r1 r2)
/-- A row just made of one number. -/
theorem own_made (w : World) (l : List Nat) (hl : l.length ≤ 1000) : Own w.heap.size l (.slice (some ⟨w.heap.size, 0, none⟩) l.length l.length) (w.alloc (.cells (Nu11.nums l).toArray 33)) := by
  refine ⟨by rw [nums_length]; omega, .inr ⟨w.heap.size, l.length, _, rfl, Nat.le_refl _, heap_new _ _, Nat.le_refl _, by unfold maxLen; omega, by simp [nums_length], ?_⟩⟩
  rw [Nat.mul_one]
  exact List.take_of_length_le (by simp [nums_length])
end Go.Proofs.YtaoneiicoaiehaaGreat.Nu11
