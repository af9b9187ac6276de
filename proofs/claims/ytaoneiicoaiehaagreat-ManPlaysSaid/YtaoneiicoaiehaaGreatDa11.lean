/- The document's disk beside the program's: the plain side; how the document's disk lies. -/
import Derived.Test.YtaoneiicoaiehaaGreatFw11
import Derived.Test.YtaoneiicoaiehaaGreatKp11
import Derived.Test.YtaoneiicoaiehaaGreatDb2
namespace Go.Proofs.YtaoneiicoaiehaaGreat.Da11
open Go Go.RowKit Go.Lib Go.Proofs.YtaoneiicoaiehaaGreat Go.Proofs.YtaoneiicoaiehaaGreat.Dh Go.Proofs.YtaoneiicoaiehaaGreat.Dk Go.Proofs.YtaoneiicoaiehaaGreat.Fm Go.Proofs.YtaoneiicoaiehaaGreat.Cl Go.Proofs.YtaoneiicoaiehaaGreat.Nm Go.Proofs.YtaoneiicoaiehaaGreat.St Go.Proofs.YtaoneiicoaiehaaGreat.Sy Go.Proofs.YtaoneiicoaiehaaGreat.Ol11 Go.Proofs.YtaoneiicoaiehaaGreat.Fr11 Go.Proofs.YtaoneiicoaiehaaGreat.Fq11 Go.Proofs.YtaoneiicoaiehaaGreat.Ck11 Go.Proofs.YtaoneiicoaiehaaGreat.Fz11 Go.Proofs.YtaoneiicoaiehaaGreat.Fw11 Go.Proofs.YtaoneiicoaiehaaGreat.Ap11 Go.Proofs.YtaoneiicoaiehaaGreat.Kp11 Go.Proofs.YtaoneiicoaiehaaGreat.Sv11
/-- The two names. -/
def Nm2 (k : ByteArray) : Prop := k = kM ∨ k = kN
theorem Nm2.ok {k : ByteArray} (h : Nm2 k) : nameOk k = true := by rcases h with rfl | rfl; exact okM; exact okN
theorem Nm2.len {k : ByteArray} (h : Nm2 k) : k.size ≤ 64 := by rcases h with rfl | rfl; decide; rw [kN_is]; decide
def FitC : Cmd → Prop
  | .app k _ => Nm2 k
  | .cut _ _ => False
  | .mov j k => Nm2 j ∧ Nm2 k ∧ j ≠ k
  | .rem k => Nm2 k
structure FitF (fs : Fs) : Prop where
  uq : Uq fs
  nm : ∀ x ∈ fs.map (·.1), Nm2 x
theorem FitF.nil : FitF [] := ⟨List.nodup_nil, fun x h => by cases h⟩
theorem FitF.put {fs : Fs} (h : FitF fs) {k : ByteArray} (hk : Nm2 k) (t : List UInt8) : FitF (Fm.put fs k t) :=
  ⟨uq_put k t h.uq, fun x hx => (put_names hx).elim (fun e => e ▸ hk) (h.nm x)⟩
theorem FitF.del {fs : Fs} (h : FitF fs) (k : ByteArray) : FitF (Fm.del fs k) :=
  ⟨uq_del k h.uq, fun x hx => h.nm x (del_names hx)⟩
theorem FitF.run {fs : Fs} (h : FitF fs) {c : Cmd} (hc : FitC c) : FitF (c.run fs) := by
  cases c with
  | app k s => exact h.put hc _
  | cut k n => exact hc.elim
  | mov j k => exact (h.put hc.2.1 _).del _
  | rem k => exact h.del _
theorem FitF.runs : ∀ (l : List Cmd) {fs : Fs}, FitF fs → (∀ c ∈ l, FitC c) → FitF (Fm.runs fs l)
  | [], _, h, _ => h
  | c :: l, _, h, hl => FitF.runs l (h.run (hl c (List.mem_cons_self ..))) (fun x hx => hl x (List.mem_cons_of_mem _ hx))
theorem FitF.len {fs : Fs} (h : FitF fs) : fs.length ≤ 2 := by
  obtain ⟨h1, h2⟩ := h
  unfold Uq at h1
  match fs, h1, h2 with
  | [], _, _ => exact Nat.zero_le _
  | [_], _, _ => exact (by decide : 1 ≤ 2)
  | [_, _], _, _ => exact Nat.le_refl _
  | a :: b :: c :: r, h1, h2 =>
    simp only [List.map_cons, List.nodup_cons, List.mem_cons, not_or] at h1
    have ha := h2 a.1 (by simp)
    have hb := h2 b.1 (by simp)
    have hc := h2 c.1 (by simp)
    rcases ha with ha | ha <;> rcases hb with hb | hb <;> rcases hc with hc | hc
    all_goals first
      | exact absurd (ha.trans hb.symm) h1.1.1
      | exact absurd (ha.trans hc.symm) h1.1.2.1
      | exact absurd (hb.trans hc.symm) h1.2.1.1
structure FitD (D : St) : Prop where
  now : FitF D.now
  sure : FitF D.sure
  loose : ∀ c ∈ D.loose, FitC c
theorem FitD.new (n : Int) : FitD ⟨n, [], [], [], -1, false⟩ := ⟨FitF.nil, FitF.nil, fun c h => by cases h⟩
theorem burnt_now (D : St) : (burnt D).2.now = D.now := by
  unfold burnt
  split
  · rfl
  · split <;> rfl
theorem burnt_sure (D : St) : (burnt D).2.sure = D.sure := by
  unfold burnt
  split
  · rfl
  · split <;> rfl
theorem FitD.burnt {D : St} (h : FitD D) : FitD (burnt D).2 := ⟨by rw [burnt_now]; exact h.now, by rw [burnt_sure]; exact h.sure, by rw [burnt_loose]; exact h.loose⟩
theorem FitD.doing {D : St} (h : FitD D) {c : Cmd} (hc : FitC c) : FitD (doing D c).2 := by
  unfold St.doing
  split
  · refine ⟨h.now.run hc, h.burnt.sure, fun x hx => ?_⟩
    rcases List.mem_append.1 hx with e | e
    · exact h.loose x e
    · rw [List.mem_singleton] at e; rw [e]; exact hc
  · exact h.burnt
/-- The error of a call, but for the fuse's. -/
def mayS (D : St) (c : Cmd) : Int := if D.still then 20 else match c with
  | .app _ s => if s.size ≠ 0 ∧ D.room < used D.now + s.size then 4 else 0
  | .cut _ _ => 0
  | .mov j _ => if (Fm.get D.now j).isSome then 0 else 3
  | .rem k => if (Fm.get D.now k).isSome then 0 else 3
def doS (D : St) (c : Cmd) : Int × St := if mayS D c = 0 then doing D c else (mayS D c, D)
theorem do_app {D : St} {k : ByteArray} (hk : Nm2 k) (s : ByteArray) : doS D (.app k s) = stAppend D k s := by
  unfold doS mayS stAppend
  cases D.still with
  | true => rfl
  | false =>
    simp only [Bool.false_eq_true, if_false, hk.ok, Bool.true_eq_false]
    by_cases h : s.size ≠ 0 ∧ D.room < (used D.now : Int) + s.size
    · rw [if_pos h, if_pos h, if_neg (by decide)]
    · rw [if_neg h, if_neg h, if_pos rfl]
theorem do_rem {D : St} {k : ByteArray} (hk : Nm2 k) : doS D (.rem k) = stRemove D k := by
  unfold doS mayS stRemove
  cases D.still with
  | true => rfl
  | false =>
    simp only [Bool.false_eq_true, if_false, hk.ok, Bool.true_eq_false]
    cases Fm.get D.now k with
    | none => rfl
    | some t => rfl
theorem do_mov {D : St} {j k : ByteArray} (hj : Nm2 j) (hk : Nm2 k) (hne : j ≠ k) : doS D (.mov j k) = stRename D j k := by
  unfold doS mayS stRename
  cases D.still with
  | true => rfl
  | false =>
    simp only [Bool.false_eq_true, if_false, hj.ok, hk.ok, Bool.true_eq_false, or_self]
    rw [if_neg hne]
    cases Fm.get D.now j with
    | none => rfl
    | some t => rfl
theorem FitD.do_ {D : St} (h : FitD D) {c : Cmd} (hc : FitC c) : FitD (doS D c).2 := by
  unfold doS
  split
  · exact h.doing hc
  · exact h
theorem FitD.sync {D : St} (h : FitD D) : FitD (stSync D).2 := by
  unfold stSync
  split
  · exact h
  · split
    · exact ⟨h.burnt.now, h.now, fun c hc => by cases hc⟩
    · exact h.burnt
theorem FitD.fuse {D : St} (h : FitD D) (n : Int) : FitD (stFuse D n) := by
  unfold stFuse
  split
  · exact ⟨h.now, h.sure, h.loose⟩
  · exact ⟨h.now, h.sure, h.loose⟩
theorem FitD.crash {D : St} (h : FitD D) (n t : Int) : FitD (stCrash D n t) := by
  have h1 : FitF (crashed D n t) := by
    have h0 : FitF (Fm.runs D.sure (D.loose.take (keeps D n))) := FitF.runs _ h.sure fun c hc => h.loose c (List.mem_of_mem_take hc)
    unfold crashed
    split
    · rename_i k s he
      have hk : FitC (.app k s) := h.loose _ (List.mem_of_getElem? he)
      split
      · exact h0.run (c := .app k (torn s t)) hk
      · exact h0
    · exact h0
  exact ⟨h1, h1, fun c hc => by cases hc⟩
/-- A call as the document has it. -/
def cOp : Cmd → Int
  | .app _ _ => 1
  | .cut _ _ => 2
  | .mov _ _ => 3
  | .rem _ => 4
def cNm : Cmd → ByteArray
  | .app k _ => k
  | .cut k _ => k
  | .mov j _ => j
  | .rem k => k
def cTx : Cmd → ByteArray
  | .app _ s => s
  | .cut _ _ => ⟨#[]⟩
  | .mov _ k => k
  | .rem _ => ⟨#[]⟩
def cells4 (c : Cmd) : List Value := [.int .i64 (cOp c), .string (cNm c), .string (cTx c), .int .i64 0]
def callO (c : Cmd) : Obj := .cells #[.int .i64 (cOp c), .string (cNm c), .string (cTx c), .int .i64 0] 69 (0, 0)
def callV (c : Cmd) : Value := .agg #[.int .i64 (cOp c), .string (cNm c), .string (cTx c), .int .i64 0]
def cellsC (l : List Cmd) : List Value := l.flatMap cells4
theorem infoC : (Tryz.prog.info? 69).map (fun i => (i.zero, i.size, i.bytes)) = some (some (.agg #[.int .i64 0, .string ⟨#[]⟩, .string ⟨#[]⟩, .int .i64 0]), 4, 48) := by kernel_rfl
theorem cellsC_append (l m : List Cmd) : cellsC (l ++ m) = cellsC l ++ cellsC m := List.flatMap_append ..
theorem cellsC_get : ∀ (l : List Cmd) (k j : Nat) (hk : k < l.length) (_ : j < 4), (cellsC l)[4 * k + j]? = (cells4 l[k])[j]?
  | x :: l, 0, j, _, hj => by
    show (cells4 x ++ cellsC l)[4 * 0 + j]? = _
    rw [List.getElem?_append_left (by show 4 * 0 + j < 4; omega), Nat.mul_zero, Nat.zero_add]; rfl
  | x :: l, k + 1, j, hk, hj => by
    show (cells4 x ++ cellsC l)[4 * (k + 1) + j]? = _
    rw [List.getElem?_append_right (by show 4 ≤ 4 * (k + 1) + j; omega)]
    rw [show 4 * (k + 1) + j - (cells4 x).length = 4 * k + j by show 4 * (k + 1) + j - 4 = _; omega]
    exact cellsC_get l k j (by simpa using hk) hj
theorem one4 (x : Cmd) : ∀ u ∈ cells4 x, u.oneCell' = true := by
  intro u hu
  unfold cells4 at hu
  simp only [List.mem_cons, List.not_mem_nil, or_false] at hu
  rcases hu with rfl | rfl | rfl | rfl <;> rfl
theorem news4 (W : World) (x : Cmd) : ∀ j u, (cells4 x)[j]? = some u → (W.alloc (callO x)).cell? ((⟨W.heap.size, 0, none⟩ : Addr).add j) = some u := by
  intro j u h
  have e : (⟨W.heap.size, 0, none⟩ : Addr).add j = ⟨W.heap.size, j, none⟩ := by cases j <;> simp [Addr.add]
  rw [e, cell_of (heap_new W (callO x))]
  rw [← h]
  unfold cells4
  match j with
  | 0 => rfl
  | 1 => rfl
  | 2 => rfl
  | 3 => rfl
  | _ + 4 => rfl
/-- The row of calls that are loose. -/
def RowC (w : World) (Q : Nat → Prop) (l : List Cmd) (v : Value) : Prop := w.ownsRow 0 69 4 v l.length (cellsC l) ∧ ∀ b, v.ownBlock = some b → Q b
theorem RowC.nil (w : World) (Q : Nat → Prop) : RowC w Q [] (.slice none 0 0) := ⟨World.ownsRow_nil _ _ _ _, fun b h => by cases h⟩
theorem RowC.shape {w : World} {Q : Nat → Prop} {l : List Cmd} {v : Value} (h : RowC w Q l v) : ∃ A c, v = .slice A l.length c := by
  rcases h.1.2 with ⟨rfl, h0⟩ | ⟨g, cap, cur, rfl, _⟩
  · exact ⟨none, 0, by rw [h0]⟩
  · exact ⟨_, cap, rfl⟩
theorem RowC.keep {w w' : World} {Q Q' : Nat → Prop} {l : List Cmd} {v : Value} (h : RowC w Q l v) (hk : ∀ b, Q b → b < w.heap.size → w'.heap[b]? = w.heap[b]?) (hq : ∀ b, Q b → Q' b) : RowC w' Q' l v := by
  refine ⟨⟨h.1.1, ?_⟩, fun b hb => hq b (h.2 b hb)⟩
  rcases h.1.2 with h1 | ⟨g, cap, cur, rfl, h2, h3, h4⟩
  · exact .inl h1
  · exact .inr ⟨g, cap, cur, rfl, h2, (hk g (h.2 g rfl) (lt_of_at h3)).trans h3, h4⟩
theorem RowC.cell {w : World} {Q : Nat → Prop} {l : List Cmd} {v : Value} (h : RowC w Q l v) {k : Nat} (hk : k < l.length) : ∃ g c, v = .slice (some ⟨g, 0, none⟩) l.length c ∧ Q g ∧ g < w.heap.size ∧
    w.cell? ⟨g, k * 4, none⟩ = some (.int .i64 (cOp l[k])) ∧ w.cell? ⟨g, k * 4 + 1, none⟩ = some (.string (cNm l[k])) ∧ w.cell? ⟨g, k * 4 + 2, none⟩ = some (.string (cTx l[k])) ∧ w.cell? ⟨g, k * 4 + 3, none⟩ = some (.int .i64 0) := by
  rcases h.1.2 with ⟨rfl, h0⟩ | ⟨g, cap, cur, rfl, hb, hg, hr⟩
  · rw [h0] at hk; omega
  · have hcells := World.ownsRow.cells h.1 (g := g) rfl
    have key : ∀ j (u : Value), j < 4 → (cells4 l[k])[j]? = some u → w.cell? ⟨g, k * 4 + j, none⟩ = some u := fun j u hj hu => by
      have h1 := hcells (4 * k + j) u (by rw [cellsC_get l k j hk hj]; exact hu)
      have e : (⟨g, 0, none⟩ : Addr).add (4 * k + j) = ⟨g, k * 4 + j, none⟩ := by
        rw [Addr.add_lit]; congr 1; omega
      rwa [e] at h1
    exact ⟨g, cap, rfl, h.2 g rfl, lt_of_at hg, key 0 _ (by omega) rfl, key 1 _ (by omega) rfl, key 2 _ (by omega) rfl, key 3 _ (by omega) rfl⟩
/-- A row of files, that lies in Q. -/
def RowQ (w : World) (Q : Nat → Prop) (R : List Fl) (A : Option Addr) (c : Nat) : Prop := RowF 0 R (.slice A R.length c) w ∧ ∀ b, (Value.slice A R.length c).ownBlock = some b → Q b
theorem RowQ.nil (w : World) (Q : Nat → Prop) : RowQ w Q [] none 0 := ⟨row_nil _ _, fun b h => by cases h⟩
theorem RowQ.rd {w : World} {Q : Nat → Prop} {R : List Fl} {A : Option Addr} {c : Nat} (h : RowQ w Q R A c) : RdF w A R := RowF.rd h.1
theorem RowQ.blk {w : World} {Q : Nat → Prop} {R : List Fl} {A : Option Addr} {c : Nat} (h : RowQ w Q R A c) {b : Nat} (hb : (Value.slice A R.length c).ownBlock = some b) : ∃ cs, w.heap[b]? = some (.cells cs 71 (0, 0)) := by
  rcases h.1.2 with ⟨e, _⟩ | ⟨g, cap, cur, e, _, hg, _⟩
  · rw [e] at hb; cases hb
  · rw [e] at hb
    obtain rfl : g = b := by simpa [Value.ownBlock] using hb
    exact ⟨cur, hg⟩
theorem RowQ.keep1 {w w' : World} {Q Q' : Nat → Prop} {R : List Fl} {A : Option Addr} {c : Nat} (h : RowQ w Q R A c) (hk : ∀ b, (Value.slice A R.length c).ownBlock = some b → w'.heap[b]? = w.heap[b]?) (hq : ∀ b, Q b → Q' b) : RowQ w' Q' R A c :=
  ⟨RowF.keep h.1 hk, fun b hb => hq b (h.2 b hb)⟩
theorem RowQ.keep {w w' : World} {Q Q' : Nat → Prop} {R : List Fl} {A : Option Addr} {c : Nat} (h : RowQ w Q R A c) (hk : ∀ b, Q b → b < w.heap.size → w'.heap[b]? = w.heap[b]?) (hq : ∀ b, Q b → Q' b) : RowQ w' Q' R A c :=
  h.keep1 (fun b hb => by obtain ⟨cs, hc⟩ := h.blk hb; exact hk b (h.2 b hb) (lt_of_at hc)) hq
theorem RowF.rowq {w w' : World} {Q : Nat → Prop} {R : List Fl} {A : Option Addr} {c : Nat} (h : RowF w.heap.size R (.slice A R.length c) w') : RowQ w' (grow Q w w') R A c := by
  refine ⟨⟨h.1, ?_⟩, fun b hb => .inr (h.lt b hb)⟩
  rcases h.2 with h1 | ⟨g, cap, cur, e, hb, hg⟩
  · exact .inl h1
  · exact .inr ⟨g, cap, cur, e, Nat.zero_le _, hg⟩
theorem RowC.blk {w : World} {Q : Nat → Prop} {l : List Cmd} {v : Value} (h : RowC w Q l v) {b : Nat} (hb : v.ownBlock = some b) : ∃ cs, w.heap[b]? = some (.cells cs 69 (0, 0)) := by
  rcases h.1.2 with ⟨e, _⟩ | ⟨g, cap, cur, e, _, hg, _⟩
  · rw [e] at hb; cases hb
  · rw [e] at hb
    obtain rfl : g = b := by simpa [Value.ownBlock] using hb
    exact ⟨cur, hg⟩
theorem RowC.keep1 {w w' : World} {Q Q' : Nat → Prop} {l : List Cmd} {v : Value} (h : RowC w Q l v) (hk : ∀ b, v.ownBlock = some b → w'.heap[b]? = w.heap[b]?) (hq : ∀ b, Q b → Q' b) : RowC w' Q' l v := by
  refine ⟨⟨h.1.1, ?_⟩, fun b hb => hq b (h.2 b hb)⟩
  rcases h.1.2 with h1 | ⟨g, cap, cur, rfl, h2, h3, h4⟩
  · exact .inl h1
  · exact .inr ⟨g, cap, cur, rfl, h2, (hk g rfl).trans h3, h4⟩
/-- The document's disk, as it lies. -/
structure RefIs (w : World) (Q : Nat → Prop) (q : Nat) (D : St) (R R' : List Fl) (A A' : Option Addr) (c c' : Nat) (v : Value) : Prop where
  blk : At w Q q (.cells #[.slice A R.length c, .slice A' R'.length c', v, .int .i64 D.room, .int .i64 D.fuse, .bool D.still] 43 (0, 0))
  now : RowQ w Q R A c
  sure : RowQ w Q R' A' c'
  rnow : RF D.now R
  rsure : RF D.sure R'
  row : RowC w Q D.loose v
  fit : FitD D
  good : St.Good D
def RefAt (w : World) (Q : Nat → Prop) (q : Nat) (D : St) : Prop := ∃ R R' A A' c c' v, RefIs w Q q D R R' A A' c c' v
/-- What a call of it leaves. -/
def ToR (Q : Nat → Prop) (w w' : World) (q : Nat) (D' : St) : Prop := Tread Q w w' ∧ RefAt w' (grow Q w w') q D'
theorem RefAt.move {w w' : World} {Q Q' : Nat → Prop} {q : Nat} {D : St} (h : RefAt w Q q D) (_hs : w.heap.size ≤ w'.heap.size) (hk : ∀ b, Q b → b < w.heap.size → w'.heap[b]? = w.heap[b]?) (hq : ∀ b, Q b → Q' b) : RefAt w' Q' q D := by
  obtain ⟨R, R', A, A', c, c', v, h⟩ := h
  exact ⟨R, R', A, A', c, c', v, ⟨⟨hq _ h.blk.1, (hk _ h.blk.1 (lt_of_at h.blk.2)).trans h.blk.2⟩, h.now.keep hk hq, h.sure.keep hk hq, h.rnow, h.rsure, h.row.keep hk hq, h.fit, h.good⟩⟩
theorem RefAt.below {w w' : World} {Q : Nat → Prop} {q : Nat} {D : St} (h : RefAt w Q q D) (hb : Below w.heap.size w w') : RefAt w' Q q D := h.move hb.size (fun b _ hl => hb.block b hl) (fun _ x => x)
theorem ToR.refl {w : World} {Q : Nat → Prop} {q : Nat} {D : St} (h : RefAt w Q q D) : ToR Q w w q D := ⟨Tread.refl Q w, h.move (Nat.le_refl _) (fun _ _ _ => rfl) grow_up⟩
theorem ToR.trans {Q : Nat → Prop} {a b c : World} {q : Nat} {D1 D2 : St} (h : ToR Q a b q D1) (k : ToR (grow Q a b) b c q D2) : ToR Q a c q D2 :=
  ⟨h.1.trans k.1, k.2.move (Nat.le_refl _) (fun _ _ _ => rfl) (grow_grow h.1.size k.1.size)⟩
theorem ToR.pre {w w1 w2 : World} {Q : Nat → Prop} {q : Nat} {D : St} (hb : Below w.heap.size w w1) (h : ToR Q w1 w2 q D) : ToR Q w w2 q D :=
  ⟨⟨h.1.os.trans hb.os, h.1.tape.trans hb.tape, h.1.output.trans hb.output, Nat.le_trans hb.size h.1.size, fun b hl hn => (h.1.block b (Nat.lt_of_lt_of_le hl hb.size) hn).trans (hb.block b hl)⟩,
   h.2.move (Nat.le_refl _) (fun _ _ _ => rfl) fun _b hg => hg.elim .inl fun x => .inr ⟨Nat.le_trans hb.size x.1, x.2⟩⟩
theorem ToR.of_below {w w1 : World} {Q : Nat → Prop} {q : Nat} {D : St} (h : RefAt w Q q D) (hb : Below w.heap.size w w1) : ToR Q w w1 q D := ToR.pre hb (ToR.refl (h.below hb))
/-- The rows' lengths. -/
theorem names_nodup {R : List Fl} (h : Srt R) : (R.map (·.1)).Nodup := by
  unfold Srt at h
  exact List.pairwise_map.2 (h.imp fun {a b} hab => lt_ne hab)
theorem RF.len {fs : Fs} {R : List Fl} (h : RF fs R) (hf : FitF fs) : R.length ≤ 2 := by
  have hn : ∀ x ∈ R, Nm2 x.1 := fun x hx => by
    have : Fr11.look x.1 R ≠ none := fun e => by
      have key : ∀ (l : List Fl), x ∈ l → Fr11.look x.1 l = none → False := by
        intro l
        induction l with
        | nil => intro h; cases h
        | cons y l ih =>
          intro h e
          rw [Fr11.look] at e
          split at e
          · cases e
          · rename_i hne
            rcases List.mem_cons.1 h with h | h
            · exact hne (by rw [h])
            · exact ih h e
      exact key R hx e
    rw [h.look] at this
    cases hg : Fm.get fs x.1 with
    | none => rw [hg] at this; exact absurd rfl this
    | some t =>
      refine hf.nm _ ?_
      apply Classical.byContradiction
      intro hd
      rw [get_in hd] at hg
      cases hg
  have h1 := names_nodup h.srt
  match R, h1, hn with
  | [], _, _ => exact Nat.zero_le _
  | [_], _, _ => exact (by decide : 1 ≤ 2)
  | [_, _], _, _ => exact Nat.le_refl _
  | a :: b :: c :: r, h1, hn =>
    simp only [List.map_cons, List.nodup_cons, List.mem_cons, not_or] at h1
    have ha := hn a (by simp)
    have hb := hn b (by simp)
    have hc := hn c (by simp)
    rcases ha with ha | ha <;> rcases hb with hb | hb <;> rcases hc with hc | hc
    all_goals first
      | exact absurd (ha.trans hb.symm) h1.1.1
      | exact absurd (ha.trans hc.symm) h1.1.2.1
      | exact absurd (hb.trans hc.symm) h1.2.1.1
end Go.Proofs.YtaoneiicoaiehaaGreat.Da11
