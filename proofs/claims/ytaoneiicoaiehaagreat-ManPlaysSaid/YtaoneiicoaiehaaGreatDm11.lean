/- A step, of the disk and of the document's: both stay the same. -/
import Derived.Test.YtaoneiicoaiehaaGreatDl11
import Derived.Test.YtaoneiicoaiehaaGreatHv11
import Derived.Test.YtaoneiicoaiehaaGreatAv11
import Derived.Test.YtaoneiicoaiehaaGreatSa11
import Derived.Deep.CutRange
import Derived.Deep.CutBlock
namespace Go.Proofs.YtaoneiicoaiehaaGreat.Dm11
open Go Go.RowKit Go.Lib Go.Proofs.YtaoneiicoaiehaaGreat Go.Proofs.YtaoneiicoaiehaaGreat.Dh Go.Proofs.YtaoneiicoaiehaaGreat.Dk Go.Proofs.YtaoneiicoaiehaaGreat.Fm Go.Proofs.YtaoneiicoaiehaaGreat.Cl Go.Proofs.YtaoneiicoaiehaaGreat.Nm Go.Proofs.YtaoneiicoaiehaaGreat.St Go.Proofs.YtaoneiicoaiehaaGreat.Sy Go.Proofs.YtaoneiicoaiehaaGreat.Ol11 Go.Proofs.YtaoneiicoaiehaaGreat.Fr11 Go.Proofs.YtaoneiicoaiehaaGreat.Fq11 Go.Proofs.YtaoneiicoaiehaaGreat.Ck11 Go.Proofs.YtaoneiicoaiehaaGreat.Fz11 Go.Proofs.YtaoneiicoaiehaaGreat.Fw11 Go.Proofs.YtaoneiicoaiehaaGreat.Fx11 Go.Proofs.YtaoneiicoaiehaaGreat.Fy11 Go.Proofs.YtaoneiicoaiehaaGreat.Ap11 Go.Proofs.YtaoneiicoaiehaaGreat.Kp11 Go.Proofs.YtaoneiicoaiehaaGreat.Sv11 Go.Proofs.YtaoneiicoaiehaaGreat.Da11 Go.Proofs.YtaoneiicoaiehaaGreat.Db11 Go.Proofs.YtaoneiicoaiehaaGreat.Dc11 Go.Proofs.YtaoneiicoaiehaaGreat.Dd11 Go.Proofs.YtaoneiicoaiehaaGreat.De11 Go.Proofs.YtaoneiicoaiehaaGreat.Df11 Go.Proofs.YtaoneiicoaiehaaGreat.Dg11 Go.Proofs.YtaoneiicoaiehaaGreat.Di11 Go.Proofs.YtaoneiicoaiehaaGreat.Dj11 Go.Proofs.YtaoneiicoaiehaaGreat.Nu11 Go.Proofs.YtaoneiicoaiehaaGreat.Ma11 Go.Proofs.YtaoneiicoaiehaaGreat.Pg11 Go.Proofs.YtaoneiicoaiehaaGreat.Gb11 Go.Proofs.YtaoneiicoaiehaaGreat.Mn11 Go.Proofs.YtaoneiicoaiehaaGreat.Ld11 Go.Proofs.YtaoneiicoaiehaaGreat.Dl11 Go.Proofs.YtaoneiicoaiehaaGreat.Hv11 Go.Proofs.YtaoneiicoaiehaaGreat.Av11 Go.Proofs.YtaoneiicoaiehaaGreat.Sa11
/-- The disk p at D, the document's disk q at E, apart. -/
structure Duo (w0 w : World) (S Q : Nat → Prop) (p q : Nat) (D E : St) : Prop where
  bel : Below w0.heap.size w0 w
  full : Full w S p D
  ref : RefAt w Q q E
  loS : ∀ x, S x → w0.heap.size ≤ x
  loQ : ∀ x, Q x → w0.heap.size ≤ x
  hiS : ∀ x, S x → x < w.heap.size
  hiQ : ∀ x, Q x → x < w.heap.size
  ap : ∀ x, S x → ¬ Q x
section
variable {w0 w w' : World} {S Q : Nat → Prop} {p q : Nat} {D E D' : St}
theorem Duo.below (h : Duo w0 w S Q p q D E) (hb : Below w.heap.size w w') : Duo w0 w' S Q p q D E :=
  ⟨h.bel.trans (hb.mono h.bel.size), Full.frame h.full (fun _ _ hl => hb.block _ hl), h.ref.below hb, h.loS, h.loQ, fun x hx => Nat.lt_of_lt_of_le (h.hiS x hx) hb.size, fun x hx => Nat.lt_of_lt_of_le (h.hiQ x hx) hb.size, h.ap⟩
theorem Duo.alloc (h : Duo w0 w S Q p q D E) (o : Obj) : Duo w0 (w.alloc o) S Q p q D E := h.below ((Below.refl _ _).alloc (Nat.le_refl _) o)
theorem Duo.left (h : Duo w0 w S Q p q D E) (ht : To S w w' p D') : Duo w0 w' (grow S w w') Q p q D' E :=
  ⟨below_to h.bel h.bel.size h.loS ht, ht.2, h.ref.move ht.1.size (fun b hb hl => ht.1.block b hl (fun hs => h.ap b hs hb)) (fun _ x => x), grow_ge h.loS h.bel.size, h.loQ, grow_lt h.hiS ht.1.size, fun x hx => Nat.lt_of_lt_of_le (h.hiQ x hx) ht.1.size,
    fun x hx hq => hx.elim (fun hs => h.ap x hs hq) fun hr => by have := h.hiQ x hq; omega⟩
theorem Duo.right (h : Duo w0 w S Q p q D E) (ht : ToR Q w w' q D') : Duo w0 w' S (grow Q w w') p q D D' :=
  ⟨⟨ht.1.os.trans h.bel.os, ht.1.tape.trans h.bel.tape, ht.1.output.trans h.bel.output, Nat.le_trans h.bel.size ht.1.size, fun b hb => (ht.1.block b (Nat.lt_of_lt_of_le hb h.bel.size) (fun hq => by have := h.loQ b hq; omega)).trans (h.bel.block b hb)⟩,
    Full.frame h.full (fun b hs hl => ht.1.block b hl (fun hq => h.ap b hs hq)), ht.2, h.loS, grow_ge h.loQ h.bel.size, fun x hx => Nat.lt_of_lt_of_le (h.hiS x hx) ht.1.size, grow_lt h.hiQ ht.1.size,
    fun x hx hq => hq.elim (fun hq => h.ap x hx hq) fun hr => by have := h.hiS x hx; omega⟩
end
/-- What a step leaves of the disk. -/
def stepS (D : St) (s : Sx) : St :=
  if s.o = 0 then (saveS D kM s.m).2 else if s.o = 2 then stFuse D s.n else if s.o = 3 then stCrash D s.n s.k else if s.o = 5 then (stAppend D kN kX).2 else D
theorem follow_loose : ∀ (l : List (St → Int × St)) (D : St), (∀ f ∈ l, ∀ D, (f D).2.loose.length ≤ D.loose.length + 1) → (Sv11.follow l D).2.loose.length ≤ D.loose.length + l.length
  | [], D, _ => Nat.le_refl _
  | f :: l, D, h => by
    have h1 := h f (List.mem_cons_self ..) D
    unfold Sv11.follow
    split
    · have h2 := follow_loose l (f D).2 (fun g hg => h g (List.mem_cons_of_mem _ hg))
      rw [List.length_cons]; omega
    · rw [List.length_cons]; omega
theorem save_loose (D : St) (k : ByteArray) (m : Man) : (saveS D k m).2.loose.length ≤ D.loose.length + 5 := by
  unfold saveS
  split
  · refine follow_loose _ D ?_
    intro f hf D
    unfold steps at hf
    simp only [List.mem_cons, List.not_mem_nil, or_false] at hf
    rcases hf with rfl | rfl | rfl | rfl | rfl
    · exact drop_loose _ _
    · exact append_loose _ _ _
    · exact sync_loose _
    · exact rename_loose _ _ _
    · exact sync_loose _
  · exact Nat.le_add_right _ _
theorem step_loose (D : St) (s : Sx) : (stepS D s).loose.length ≤ D.loose.length + 5 := by
  unfold stepS
  split
  · exact save_loose _ _ _
  · split
    · unfold stFuse; split <;> exact Nat.le_add_right _ _
    · split
      · exact Nat.zero_le _
      · split
        · have := append_loose D kN kX; omega
        · exact Nat.le_add_right _ _
def stepO (x : Sx) : Obj := .cells #[.int .i64 x.o, .int .u64 (x.m.wal : Int), .slice x.A x.m.runs.length x.c, .int .u64 (x.m.next : Int), .int .i64 x.n, .int .i64 x.k] 38 (0, 0)
def stepV (x : Sx) : Value := .agg #[.int .i64 x.o, .int .u64 (x.m.wal : Int), .slice x.A x.m.runs.length x.c, .int .u64 (x.m.next : Int), .int .i64 x.n, .int .i64 x.k]
/-- What a step's both sides come to. -/
def Did (w0 : World) (p q : Nat) (D : St) (e : Ending) (w' : World) : Prop := e = .returned (.bool true) ∧ ∃ S Q, Duo w0 w' S Q p q D D
theorem nm2M : Nm2 kM := .inl rfl
theorem nm2N : Nm2 (new_ kM) := .inr rfl
theorem got_few {s : List UInt8} {m : Man} (h : got s = (some m, 0)) : m.runs.length ≤ 256 := by
  have key : ∀ m', got s = (some m', 0) → may m' = true := by
    intro m' h
    unfold got at h
    split at h
    · injection h with h _; cases h
    · split at h
      · split at h
        · rename_i hc
          injection h with h1 _
          injection h1 with h1
          rw [← h1]; exact hc.2
        · injection h with h _; cases h
      · injection h with h _; cases h
  exact (may_iff.1 (key m h)).1
theorem load_few {D : St} {k : ByteArray} {m : Man} (h : loadS D k = (some m, 0)) : m.runs.length ≤ 256 := by
  unfold loadS at h
  split at h
  · injection h with h1 h2
    exact got_few (Prod.ext h1 (by show (got _).2 = 0; omega))
  · injection h with h _; cases h
end Go.Proofs.YtaoneiicoaiehaaGreat.Dm11
