/- The walk of DiskCrash. -/
import Derived.Test.YtjnkennlncdlgaaLy
import Derived.Test.YtjnkennlncdlgaaDs
import Derived.Deep.RegionHeld3
import Derived.Deep.DrawnRows
namespace Go.Proofs.Ytjnkennlncdlgaa.Dc
open Go Go.RowKit Go.Lib Go.Proofs.Ytjnkennlncdlgaa.Dh Go.Proofs.Ytjnkennlncdlgaa.Fm Go.Proofs.Ytjnkennlncdlgaa.Dk Go.Proofs.Ytjnkennlncdlgaa.St Go.Proofs.Ytjnkennlncdlgaa.Sy Go.Proofs.Ytjnkennlncdlgaa.Dn Go.Proofs.Ytjnkennlncdlgaa.Hs Go.Proofs.Ytjnkennlncdlgaa.Fi Go.Proofs.Ytjnkennlncdlgaa.Sm Go.Proofs.Ytjnkennlncdlgaa.Cx Go.Proofs.Ytjnkennlncdlgaa.Ly
theorem heavy_any (w : World) (ao : Option Addr) (cap : Nat) (l : List Sx) (hc : l ≠ [] → ∃ b o, ao = some ⟨b, o, none⟩ ∧ Cells w b o l) (hok : ∀ s ∈ l, s.ok) (hl : l.length ≤ 140737488351232) :
    Calls Try.prog 6 #[.slice ao l.length cap] w fun e w' => HeavyEnd l e ∧ ∃ n, w' = w.drewN n := by
  by_cases h : l = []
  · subst h
    refine (heavy_nil w ao cap).mono ?_
    rintro e w' ⟨rfl, rfl⟩
    exact ⟨⟨false, rfl, fun _ => ⟨by simp, by simp [tot]⟩⟩, 0, rfl⟩
  · obtain ⟨b, o, rfl, hce⟩ := hc h
    exact heavy_some w b o cap l hce hok hl
/-- The cells of a row of steps that came in, in a later world. -/
def Five (w : World) (b o k : Nat) (s : Sx) : Prop :=
  w.cell? ⟨b, o + k * 5, none⟩ = some (.int .i64 s.o) ∧ w.cell? ⟨b, o + k * 5 + 1, none⟩ = some (.string s.x) ∧ w.cell? ⟨b, o + k * 5 + 2, none⟩ = some (.string s.y) ∧ w.cell? ⟨b, o + k * 5 + 3, none⟩ = some (.int .i64 s.n) ∧ w.cell? ⟨b, o + k * 5 + 4, none⟩ = some (.int .i64 s.m)
theorem five_of {w : World} {ao : Option Addr} {l : List Sx} (hc : l ≠ [] → ∃ b o, ao = some ⟨b, o, none⟩ ∧ Cells w b o l) :
    ∀ k (h : k < l.length), ∃ b o, ao = some ⟨b, o, none⟩ ∧ ∀ w', Below w.heap.size w w' → Five w' b o k l[k] := by
  intro k h
  obtain ⟨b, o, ha, hce⟩ := hc (fun h0 => by rw [h0] at h; simp at h)
  exact ⟨b, o, ha, fun w' hb => Ds.cells_keep hce hb k h⟩
section
variable {P : Program} {md : Region.Mode} {ops : Array Oper} {Q : Exit → Act → World → Prop}
theorem take_un {i : Nat} {oi : Oper} {fuel : Nat} {listed : Array Bool} {a : Act} {w : World} (d : Option Tmp) (hi : ops[i]? = some oi) (hd : oi.dst = d) (hs : Region.noSelect ops = true) (hf : Region.free md ops listed i = true)
    (hr : (Region.ready md ops listed).contains i = true) (hQ : ∀ c a w, Q (.panic c) (a.put d undef) w → Q (.panic c) a w) (hw : Region.wanted oi (yielded ops a.tmps) = false)
    (h : wpAny P md ops Q fuel (listed.setIfInBounds i true) (a.put d undef) w) : wpAny P md ops Q (fuel + 1) listed a w := by
  subst hd
  exact wpAny_take hi hs hf hr hQ (Or.inr ⟨hw, rfl⟩) h
theorem take_in {i : Nat} {oi : Oper} {fuel : Nat} {listed : Array Bool} {a : Act} {w : World} (d : Option Tmp) (v : Value) (hi : ops[i]? = some oi) (hd : oi.dst = d) (hs : Region.noSelect ops = true) (hf : Region.free md ops listed i = true)
    (hr : (Region.ready md ops listed).contains i = true) (hQ : ∀ c a w, Q (.panic c) (a.put d v) w → Q (.panic c) a w) (hw : Region.wanted oi (yielded ops a.tmps) = true) (hy : ∀ w, (execOp a.eval oi).run P w = .ok (.value v) w)
    (h : wpAny P md ops Q fuel (listed.setIfInBounds i true) (a.put d v) w) : wpAny P md ops Q (fuel + 1) listed a w := by
  subst hd
  exact wpAny_take hi hs hf hr hQ (Or.inl ⟨hw, hy⟩) h
end
def N0 : St := ⟨131072, [], [], [], -1, false⟩
theorem fine0 : Fine N0 0 := ⟨rfl, rfl, by decide, fun e he => by simp [N0] at he, by decide⟩
/-- A call of the first disk, of the other one, and a Sync: what they leave of both. -/
theorem call_left {w0 w : World} {p q : Nat} {D X : St} {R : List Row} (h : Lay w0 w p q D X R) (s : Sx) (hs : s.ok) (hy : s.y.size ≤ 32768) {k : Nat} (hf : Fine D k) (hk : k ≤ 900) :
    Calls Try.prog 10 #[.pointer (some ⟨p, 0, none⟩), stepV s.o s.x s.y s.n s.m] w fun e w' => e = .returned (.int .i64 (stCall D s).1) ∧ Lay w0 w' p q (stCall D s).2 X R :=
  h.left fun S hS => call_any hS s hs (by omega) (by have := hf.loose; omega)
theorem call_right {w0 w : World} {p q : Nat} {D X : St} {R : List Row} (h : Lay w0 w p q D X R) (s : Sx) (hs : s.ok) (hy : s.y.size ≤ 32768) {k : Nat} (hf : Fine X k) (hk : k ≤ 900) :
    Calls Try.prog 10 #[.pointer (some ⟨q, 0, none⟩), stepV s.o s.x s.y s.n s.m] w fun e w' => e = .returned (.int .i64 (stCall X s).1) ∧ Lay w0 w' p q D (stCall X s).2 R :=
  h.right fun S hS => call_any hS s hs (by omega) (by have := hf.loose; omega)
theorem sync_left {w0 w : World} {p q : Nat} {D X : St} {R : List Row} (h : Lay w0 w p q D X R) {k : Nat} (hf : Fine D k) (hk : k ≤ 900) :
    Calls Try.prog 11 #[.pointer (some ⟨p, 0, none⟩)] w fun e w' => e = .returned (.int .i64 0) ∧ Lay w0 w' p q { D with sure := D.now, loose := [] } X R := by
  have := h.left (f := 11) (args := #[.pointer (some ⟨p, 0, none⟩)]) fun S hS => sync_any hS (by have := hf.loose; omega)
  rw [fine_sync hf] at this
  exact this
theorem sync_right {w0 w : World} {p q : Nat} {D X : St} {R : List Row} (h : Lay w0 w p q D X R) {k : Nat} (hf : Fine X k) (hk : k ≤ 900) :
    Calls Try.prog 11 #[.pointer (some ⟨q, 0, none⟩)] w fun e w' => e = .returned (.int .i64 0) ∧ Lay w0 w' p q D { X with sure := X.now, loose := [] } R :=
  (sync_left h.swap hf hk).mono fun _ _ ⟨h1, h2⟩ => ⟨h1, h2.swap⟩
theorem loose_left {w0 w : World} {p q : Nat} {D X : St} {R : List Row} (h : Lay w0 w p q D X R) (hl : D.loose.length ≤ 900) :
    Calls Try.prog 12 #[.pointer (some ⟨p, 0, none⟩)] w fun e w' => e = .returned (.int .i64 D.loose.length) ∧ w' = w := by
  obtain ⟨S1, S2, g⟩ := h
  exact loose_any g.f1 (by omega)
theorem crash_left {w0 w : World} {p q : Nat} {D X : St} {R : List Row} (h : Lay w0 w p q D X R) (keep t : Int) (hk : -9223372036854775808 ≤ keep ∧ keep ≤ 9223372036854775807) (ht : t ≤ 9223372036854775807) (hl : D.loose.length ≤ 900) :
    Calls Try.prog 13 #[.pointer (some ⟨p, 0, none⟩), .int .i64 keep, .int .i64 t] w fun e w' => e = .returned (.int .i64 0) ∧ Lay w0 w' p q (stCrash D keep t) X R :=
  h.left fun S hS => Ca.crash_any hS keep t hk ht (by omega)
/-- The cells of a row of steps. -/
def cellsS : List Sx → List Value
  | [] => []
  | s :: l => .int .i64 s.o :: .string s.x :: .string s.y :: .int .i64 s.n :: .int .i64 s.m :: cellsS l
theorem cellsS_snoc (s : Sx) : ∀ l, cellsS (l ++ [s]) = cellsS l ++ [.int .i64 s.o, .string s.x, .string s.y, .int .i64 s.n, .int .i64 s.m]
  | [] => rfl
  | g :: l => by simp [cellsS, cellsS_snoc s l]
theorem cellsS_at : ∀ (l : List Sx) (k : Nat) (h : k < l.length), (cellsS l)[k * 5]? = some (.int .i64 l[k].o) ∧ (cellsS l)[k * 5 + 1]? = some (.string l[k].x) ∧ (cellsS l)[k * 5 + 2]? = some (.string l[k].y) ∧ (cellsS l)[k * 5 + 3]? = some (.int .i64 l[k].n) ∧ (cellsS l)[k * 5 + 4]? = some (.int .i64 l[k].m)
  | [], k, h => by simp at h
  | s :: l, 0, _ => ⟨rfl, rfl, rfl, rfl, rfl⟩
  | s :: l, k + 1, h => by
    have := cellsS_at l k (by simpa using h)
    have e : (k + 1) * 5 = k * 5 + 1 + 1 + 1 + 1 + 1 := by omega
    rw [e]
    simpa [cellsS] using this
theorem info31 : (Try.prog.info? 31).map (fun i => (i.zero, i.size, i.bytes)) = some (some (.agg #[.int .i64 0, .string ⟨#[]⟩, .string ⟨#[]⟩, .int .i64 0, .int .i64 0]), 5, 56) := by kernel_rfl
/-- What has been done so far. -/
structure Inv2 (X : St) (more done : List Sx) (k : Nat) : Prop where
  ok : AllOk X done
  fine : Fine (rep X done) (150 + k)
  len : done.length ≤ k
  mem : ∀ s ∈ done, s ∈ more
theorem Inv2.skip {X : St} {more done : List Sx} {k : Nat} (h : Inv2 X more done k) : Inv2 X more done (k + 1) := ⟨h.ok, h.fine.up (by omega), by have := h.len; omega, h.mem⟩
theorem Inv2.done {X : St} {more done : List Sx} {k : Nat} (h : Inv2 X more done k) {s : Sx} (hm : s ∈ more) (h0 : (stCall (rep X done) s).1 = 0) : Inv2 X more (done ++ [s]) (k + 1) :=
  ⟨h.ok.snoc h0, by rw [rep_snoc]; exact fine_call h.fine s, by simp; exact h.len, fun t ht => by
    rcases List.mem_append.1 ht with ht | ht
    · exact h.mem t ht
    · rw [List.mem_singleton.1 ht]; exact hm⟩
/-- What the law on append asks. -/
theorem app_prep {w0 w : World} {p q : Nat} {D X : St} {v : Value} {n : Nat} {xs : List Value} (h : Lay w0 w p q D X [⟨31, 5, v, n, xs⟩]) (hn : n ≤ 900) (s : Sx) :
    (w.alloc (stepO s.o s.x s.y s.n s.m)).ownsRow w0.heap.size 31 5 v n xs ∧
    (∀ j u, [Value.int .i64 s.o, .string s.x, .string s.y, .int .i64 s.n, .int .i64 s.m][j]? = some u → (w.alloc (stepO s.o s.x s.y s.n s.m)).cell? ((⟨w.heap.size, 0, none⟩ : Addr).add j) = some u) ∧
    (∀ u ∈ [Value.int .i64 s.o, .string s.x, .string s.y, .int .i64 s.n, .int .i64 s.m], u.oneCell' = true) ∧ n + 1 ≤ maxLen ∧ (n + 1) * 56 ≤ 140737488355328 ∧ w0.heap.size ≤ (w.alloc (stepO s.o s.x s.y s.n s.m)).heap.size := by
  refine ⟨(h.row (List.mem_singleton.2 rfl)).alloc _, ?_, ?_, by unfold maxLen; omega, by omega, by have := h.below.size; simp; omega⟩
  · intro j u hj
    have hh : (w.alloc (stepO s.o s.x s.y s.n s.m)).heap[w.heap.size]? = some (stepO s.o s.x s.y s.n s.m) := heap_alloc_new w _
    have ha : ((⟨w.heap.size, 0, none⟩ : Addr).add j) = ⟨w.heap.size, j, none⟩ := by unfold Addr.add; split <;> simp_all
    rw [ha]
    unfold World.cell?
    rw [hh]
    simpa using hj
  · intro u hu
    simp at hu
    rcases hu with rfl | rfl | rfl | rfl | rfl <;> rfl
/-- The law's Same of two rows of one content. -/
theorem same_lay {w0 w : World} {p q : Nat} {D X : St} {R : List Row} (h : Lay w0 w p q D X R) {va vb : Value} {l : List (ByteArray × ByteArray)} (ha : Row.mk 69 2 va l.length (cellsF l) ∈ R) (hb : Row.mk 69 2 vb l.length (cellsF l) ∈ R) (hl : l.length ≤ 900) :
    Calls Try.prog 15 #[va, vb] w fun e w' => e = .returned (.bool true) ∧ Lay w0 w' p q D X R := by
  refine (same_rows w l (h.row ha) (h.row hb) (by omega)).mono ?_
  rintro e w' ⟨rfl, n, rfl⟩
  exact ⟨rfl, h.grow (below_drewN w n)⟩
theorem files_le {D : St} {k : Nat} (h : Fine D k) : (files D.now).length ≤ k := by
  rw [files_len, names_len]; exact h.len
theorem tornS_ok {s : Sx} (h : s.ok) (t : Int) : (tornS s t).ok := ⟨h.x, by have := torn_size s.y t; have := h.y; show (Cl.torn s.y t).size ≤ _; omega, h.o, h.n, h.m⟩
theorem final_below {w W W' : World} (k : Below W.heap.size W W') {p q : Nat} {D X : St} {R : List Row} (h : Lay w W p q D X R) : Below w.heap.size w W' := h.below.trans (k.mono h.below.size)
theorem fine_crash {D Y : St} {k : Nat} (keep t : Int) (hc : crashed D keep t = Y.now) (hf : Fine Y k) : Fine (stCrash D keep t) k :=
  ⟨rfl, rfl, by simp [stCrash], fun e he => hf.names e (by rw [← hc]; exact he), by have := hf.len; rw [← hc] at this; exact this⟩
/-- What the end of the law calls, one by one. -/
structure Tail (w W : World) (p q : Nat) (D3 Y D5 D6 : St) (keep torn : Int) (R0 : List Row) (F : List (ByteArray × ByteArray)) : Prop where
  cr : Calls Try.prog 13 #[.pointer (some ⟨p, 0, none⟩), .int .i64 keep, .int .i64 torn] W fun e w' => e = .returned (.int .i64 0) ∧ Lay w w' p q D5 Y R0
  lo : ∀ W R, Lay w W p q D5 Y R → Calls Try.prog 12 #[.pointer (some ⟨p, 0, none⟩)] W fun e w' => e = .returned (.int .i64 0) ∧ w' = W
  fa : ∀ W R, Lay w W p q D5 Y R → Calls Try.prog 14 #[.pointer (some ⟨p, 0, none⟩)] W fun e w' => ∃ v, e = .returned (.tuple #[v, .bool true]) ∧ Lay w w' p q D5 Y (⟨69, 2, v, F.length, cellsF F⟩ :: R)
  fb : ∀ W R, Lay w W p q D5 Y R → Calls Try.prog 14 #[.pointer (some ⟨q, 0, none⟩)] W fun e w' => ∃ v, e = .returned (.tuple #[v, .bool true]) ∧ Lay w w' p q D5 Y (⟨69, 2, v, F.length, cellsF F⟩ :: R)
  cr2 : ∀ W R, Lay w W p q D5 Y R → Calls Try.prog 13 #[.pointer (some ⟨p, 0, none⟩), .int .i64 torn, .int .i64 keep] W fun e w' => e = .returned (.int .i64 0) ∧ Lay w w' p q D6 Y R
  fc : ∀ W R, Lay w W p q D6 Y R → Calls Try.prog 14 #[.pointer (some ⟨p, 0, none⟩)] W fun e w' => ∃ v, e = .returned (.tuple #[v, .bool true]) ∧ Lay w w' p q D6 Y (⟨69, 2, v, F.length, cellsF F⟩ :: R)
  sm : ∀ W D R va vb, Lay w W p q D Y R → Row.mk 69 2 va F.length (cellsF F) ∈ R → Row.mk 69 2 vb F.length (cellsF F) ∈ R →
    Calls Try.prog 15 #[va, vb] W fun e w' => e = .returned (.bool true) ∧ Lay w w' p q D Y R
theorem tail_of {w W : World} {p q : Nat} {D3 Y : St} {keep torn : Int} {R0 : List Row} (h : Lay w W p q D3 Y R0) (hk : -9223372036854775808 ≤ keep ∧ keep ≤ 9223372036854775807) (ht : -9223372036854775808 ≤ torn ∧ torn ≤ 9223372036854775807)
    (hlo : D3.loose.length ≤ 900) (hc : crashed D3 keep torn = Y.now) (hf : Fine Y 800) : ∃ D5 D6 F, Tail w W p q D3 Y D5 D6 keep torn R0 F := by
  have f5 := fine_crash keep torn hc hf
  have n6 : (stCrash (stCrash D3 keep torn) torn keep).now = Y.now := (crash_crash D3 keep torn torn keep).trans hc
  have f6 : Fine (stCrash (stCrash D3 keep torn) torn keep) 800 := fine_crash torn keep n6 hf
  refine ⟨stCrash D3 keep torn, stCrash (stCrash D3 keep torn) torn keep, files Y.now, ⟨crash_left h keep torn hk ht.2 hlo, ?_, ?_, ?_, ?_, ?_, ?_⟩⟩
  · intro W R h
    exact loose_left h (by simp [stCrash])
  · intro W R h
    have := files_left h f5 (by omega)
    rw [show (stCrash D3 keep torn).now = Y.now from hc] at this
    exact this
  · intro W R h
    exact files_right h hf (by omega)
  · intro W R h
    exact crash_left h torn keep ht hk.2 (by simp [stCrash])
  · intro W R h
    have := files_left h f6 (by omega)
    rw [n6] at this
    exact this
  · intro W D R va vb h ha hb
    exact same_lay h ha hb (by have := files_le hf; omega)
set_option maxRecDepth 40000 in
set_option maxHeartbeats 32000000 in
theorem walk (w : World) (ao bo : Option Addr) (cap cap2 : Nat) (l more : List Sx) (keep torn : Int) (hcl : l ≠ [] → ∃ b o, ao = some ⟨b, o, none⟩ ∧ Cells w b o l) (hcm : more ≠ [] → ∃ b o, bo = some ⟨b, o, none⟩ ∧ Cells w b o more)
    (hokl : ∀ s ∈ l, s.ok) (hokm : ∀ s ∈ more, s.ok) (hlenl : l.length ≤ 140737488351232) (hlenm : more.length ≤ 140737488351232) (hkeep : -9223372036854775808 ≤ keep ∧ keep ≤ 9223372036854775807) (htorn : -9223372036854775808 ≤ torn ∧ torn ≤ 9223372036854775807) :
    Calls Try.prog 3 #[.slice ao l.length cap, .slice bo more.length cap2, .int .i64 keep, .int .i64 torn] w fun e w' => e = .returned (.bool true) ∧ Below w.heap.size w w' := by
  have HH1 := Lib.hid (heavy_any w ao cap l hcl hokl hlenl)
  have HH2 : Hid (∀ n, Calls Try.prog 6 #[.slice bo more.length cap2] (w.drewN n) fun e w' => HeavyEnd more e ∧ ∃ n, w' = w.drewN n) := Lib.hid fun n => by
    have hce : more ≠ [] → ∃ b o, bo = some ⟨b, o, none⟩ ∧ Cells (w.drewN n) b o more := hcm
    refine (heavy_any (w.drewN n) bo cap2 more hce hokm hlenm).mono ?_
    rintro e w' ⟨h1, m, rfl⟩
    exact ⟨h1, n + m, World.drewN_drewN ..⟩
  have H5l := Lib.hid (five_of hcl)
  have H5m := Lib.hid (five_of hcm)
  have HOl := Lib.hid hokl
  have HOm := Lib.hid hokm
  have HKp := Lib.hid hkeep
  have HTn := Lib.hid htorn
  have hk1 := hkeep.1
  have hk2 := hkeep.2
  have ht1 := htorn.1
  have ht2 := htorn.2
  clear hcl hcm hokl hokm hkeep htorn
  go_enter Try.func3, Try.ntmps3
  go_wp2_with fail
  refine HH1.out.mono ?_
  rintro e w0 ⟨⟨r, rfl, hr⟩, n0, rfl⟩
  have HHr := Lib.hid hr
  clear hr
  cases r with
  | true =>
    go_wp2_with fail
    refine (Av.alive_any _).mono ?_
    rintro e w2 ⟨rfl, h2⟩
    have H2 := Lib.hid h2
    clear h2
    go_wp2
    go_ret
    exact ⟨rfl, ⟨H2.out.os, H2.out.tape, H2.out.output, H2.out.size, H2.out.block⟩⟩
  | false =>
  obtain ⟨hl, htl⟩ := HHr.out rfl
  clear HHr
  go_wp2_with fail
  refine (HH2.out n0).mono ?_
  rintro e w1 ⟨⟨r, rfl, hr⟩, n1, rfl⟩
  have HHr := Lib.hid hr
  clear hr
  cases r with
  | true =>
    go_wp2_with fail
    refine (Av.alive_any _).mono ?_
    rintro e w2 ⟨rfl, h2⟩
    have H2 := Lib.hid h2
    clear h2
    go_wp2
    go_ret
    exact ⟨rfl, ⟨H2.out.os, H2.out.tape, H2.out.output, H2.out.size, H2.out.block⟩⟩
  | false =>
  obtain ⟨hm, htm⟩ := HHr.out rfl
  clear HHr
  have HTl := Lib.hid htl
  have HTm := Lib.hid htm
  clear htl htm
  go_wp2_with fail
  refine (Nw.new_any _ 131072 (by decide) (by decide)).mono ?_
  rintro e w2 ⟨p, rfl, hb2, hf2⟩
  have HB2 := Lib.hid hb2
  have HF2 := Lib.hid hf2
  clear hb2 hf2
  go_wp2_with fail
  refine (Nw.new_any _ 131072 (by decide) (by decide)).mono ?_
  rintro e w3 ⟨q, rfl, hb3, hf3⟩
  have HLay0 : Hid (Lay w w3 p q N0 N0 []) := Lib.hid (Lay.start (w0 := w) (w1 := w2) ⟨HB2.out.os, HB2.out.tape, HB2.out.output, HB2.out.size, HB2.out.block⟩ HF2.out hb3 hf3)
  clear hb3 hf3 HB2 HF2
  go_wp2
  go_loopw [13, 53, 54, 55, 56, 57, 58, 59, 60, 61, 62, 63, 64, 65, 66, 67, 68, 69, 70, 71, 72, 73, 74, 75, 76, 77, 78] (fun i _ _ _ _ _ _ _ _ _ _ _ _ _ _ _ _ _ _ _ _ _ _ _ _ _ _ wr => ∃ (k : Nat) (D : St), k ≤ l.length ∧ i = .int .i64 k ∧ Hid (Lay w wr p q D D []) ∧ Hid (Fine D k)) (fun i _ _ _ _ _ _ _ _ _ _ _ _ _ _ _ _ _ _ _ _ _ _ _ _ _ _ _ => l.length - (intOf i).toNat)
  case atStart => exact ⟨0, N0, by omega, rfl, HLay0, Lib.hid fine0⟩
  case round =>
  obtain ⟨k, D, hk, rfl, HL, HFn⟩ := hrel
  by_cases hlt : k < l.length
  · obtain ⟨b, o, rfl, h5⟩ := H5l.out k hlt
    obtain ⟨s, hs⟩ : ∃ s, s = l[k] := ⟨_, rfl⟩
    have hmem : s ∈ l := by rw [hs]; exact List.getElem_mem hlt
    have hso := HOl.out s hmem
    have hsy : s.y.size ≤ 32768 := by have := tot_mem s l hmem; have := HTl.out; omega
    rw [← hs] at h5
    have H5 := Lib.hid h5
    have hc0 : Five wr b o k s := h5 wr HL.out.below
    have i0 : (0 : Int) ≤ (k : Int) := by omega
    have i1 : (k : Int) < (l.length : Int) := by omega
    have HCh0 := fun w' => changes_any w' s
    obtain ⟨D', hD'⟩ : ∃ D', D' = (stCall D s).2 := ⟨_, rfl⟩
    obtain ⟨e1, he1⟩ : ∃ e1, e1 = (stCall D s).1 := ⟨_, rfl⟩
    have HC1 : Hid (∀ w', Lay w w' p q D D [] → Calls Try.prog 10 #[.pointer (some ⟨p, 0, none⟩), stepV s.o s.x s.y s.n s.m] w' fun e w'' => e = .returned (.int .i64 e1) ∧ Lay w w'' p q D' D []) :=
      Lib.hid fun w' h => by rw [hD', he1]; exact call_left h s hso hsy HFn.out (by omega)
    have HC2 : Hid (∀ w', Lay w w' p q D' D [] → Calls Try.prog 10 #[.pointer (some ⟨q, 0, none⟩), stepV s.o s.x s.y s.n s.m] w' fun e w'' => e = .returned (.int .i64 e1) ∧ Lay w w'' p q D' D' []) :=
      Lib.hid fun w' h => by
        have := call_right h s hso hsy HFn.out (by omega)
        rw [← hD', ← he1] at this; exact this
    have HF' : Hid (Fine D' (k + 1)) := Lib.hid (by rw [hD']; exact fine_call HFn.out s)
    have hbd := call_bound HFn.out s
    rw [← he1] at hbd
    have hb1 := hbd.1
    have hb2 := hbd.2
    have HMs := Lib.hid hmem
    have HS0 := Lib.hid hs
    unfold Five at hc0
    obtain ⟨q0, q1, q2, q3, q4⟩ := hc0
    clear hs h5 hmem hso hD' he1 hbd
    by_cases hch : 1 ≤ s.o ∧ s.o ≤ 4
    · rw [decide_eq_true hch.1, decide_eq_true hch.2] at HCh0
      have HCh := Lib.hid HCh0
      clear HCh0 hch
      go_wp2_with fail
      go_region_held3 (fun w' => w'.cell? ⟨b, o + k * 5, none⟩ = some (.int .i64 s.o) ∧ w'.cell? ⟨b, o + k * 5 + 1, none⟩ = some (.string s.x) ∧ w'.cell? ⟨b, o + k * 5 + 2, none⟩ = some (.string s.y) ∧ w'.cell? ⟨b, o + k * 5 + 3, none⟩ = some (.int .i64 s.n) ∧ w'.cell? ⟨b, o + k * 5 + 4, none⟩ = some (.int .i64 s.m))
        (first | exact H5.out _ (Lay.below (by assumption : Hid (Lay _ _ _ _ _ _ _)).out) | exact H5.out _ (Lay.below (Lay.drew (by assumption : Hid (Lay _ _ _ _ _ _ _)).out)) | exact H5.out _ (Lay.below (Lay.alloc (Lay.drew (by assumption : Hid (Lay _ _ _ _ _ _ _)).out) _)) | exact H5.out _ (Lay.below (Lay.alloc (by assumption : Hid (Lay _ _ _ _ _ _ _)).out _)))
        (first
          | (go_at_call 9; refine (HCh.out _).mono ?_; rintro e wx ⟨rfl, rfl⟩)
          | (go_at_call 10; with_reducible refine (HC2.out _ (Hid.out (by assumption))).mono ?_; rintro e wx ⟨rfl, hx⟩; have HY := Lib.hid hx; clear hx)
          | (go_at_call 10; with_reducible refine (HC2.out _ (Lay.drew (Hid.out (by assumption)))).mono ?_; rintro e wx ⟨rfl, hx⟩; have HY := Lib.hid hx; clear hx)
          | (go_at_call 10; with_reducible refine (HC1.out _ (Lay.drew (Lay.alloc HL.out _))).mono ?_; rintro e wx ⟨rfl, hx⟩; have HX := Lib.hid hx; clear hx)
          | (go_at_call 10; with_reducible refine (HC1.out _ (Lay.alloc (Lay.drew HL.out) _)).mono ?_; rintro e wx ⟨rfl, hx⟩; have HX := Lib.hid hx; clear hx)
          | (go_at_call 10; with_reducible refine (HC1.out _ (Lay.alloc HL.out _)).mono ?_; rintro e wx ⟨rfl, hx⟩; have HX := Lib.hid hx; clear hx))
      all_goals go_wp2
      refine ⟨⟨k + 1, D', by omega, by go_num, ?_, HF'⟩, by simp [intOf]; omega⟩
      exact (by assumption : Hid (Lay w _ p q D' D' []))
    · have hcd : (decide (1 ≤ s.o) && decide (s.o ≤ 4)) = false := by
        rcases Classical.not_and_iff_not_or_not.1 hch with h | h
        · rw [decide_eq_false h]; rfl
        · rw [decide_eq_false h, Bool.and_false]
      rw [hcd] at HCh0
      have HCh := Lib.hid HCh0
      clear HCh0 hch hcd
      go_wp2_with fail
      refine wp_region_noPanic ?_
      refine wp_region_any (by kernel_rfl) ?_
      try (change wpAny _ _ _ _ _ _ _ (World.drew _))
      refine wpAny_take (i := 0) (v := ?_) rfl (by kernel_rfl) (by kernel_rfl) (by kernel_rfl) (fun _ _ _ h => h) (Or.inl ⟨by rfl, ?_⟩) ?_
      rotate_left
      · intro w
        go_simp
        try with_reducible rfl
      refine wpAny_take (i := 1) (v := ?_) rfl (by kernel_rfl) (by kernel_rfl) (by kernel_rfl) (fun _ _ _ h => h) (Or.inl ⟨by rfl, ?_⟩) ?_
      rotate_left
      · intro w
        go_simp
        try with_reducible rfl
      refine wpAny_ready (rs := [2]) (by kernel_rfl) (by simp) ?_
      refine AllReady.cons rfl (fun K hK => ?_) AllReady.nil
      go_simp
      refine hK _ _ ?_
      clear hK K
      refine wpAny_ready (rs := [3]) (by kernel_rfl) (by simp) ?_
      refine AllReady.cons rfl (fun K hK => ?_) AllReady.nil
      go_simp
      refine hK _ _ ?_
      clear hK K
      refine wpAny_ready (rs := [4]) (by kernel_rfl) (by simp) ?_
      refine AllReady.cons rfl (fun K hK => ?_) AllReady.nil
      go_simp
      go_wp2_with (go_at_call 9; refine (HCh.out _).mono ?_; rintro e wx ⟨rfl, rfl⟩)
      refine take_in (i := 5) (some 64) (.bool false) rfl rfl (by kernel_rfl) (by kernel_rfl) (by kernel_rfl) (fun _ _ _ h => h) (by rfl) ?_ ?_
      · intro w
        go_simp
      simp only [Act.put, List.setIfInBounds_toArray, List.set_cons_zero, List.set_cons_succ]
      refine take_un (i := 6) (some 65) rfl rfl (by kernel_rfl) (by kernel_rfl) (by kernel_rfl) (fun _ _ _ h => h) ?_ ?_
      · go_simp
      simp only [Act.put, List.setIfInBounds_toArray, List.set_cons_zero, List.set_cons_succ]
      refine take_un (i := 7) (some 66) rfl rfl (by kernel_rfl) (by kernel_rfl) (by kernel_rfl) (fun _ _ _ h => h) ?_ ?_
      · go_simp
      simp only [Act.put, List.setIfInBounds_toArray, List.set_cons_zero, List.set_cons_succ]
      refine take_un (i := 8) (some 67) rfl rfl (by kernel_rfl) (by kernel_rfl) (by kernel_rfl) (fun _ _ _ h => h) ?_ ?_
      · go_simp
      simp only [Act.put, List.setIfInBounds_toArray, List.set_cons_zero, List.set_cons_succ]
      refine take_un (i := 9) (some 68) rfl rfl (by kernel_rfl) (by kernel_rfl) (by kernel_rfl) (fun _ _ _ h => h) ?_ ?_
      · go_simp
      simp only [Act.put, List.setIfInBounds_toArray, List.set_cons_zero, List.set_cons_succ]
      refine take_un (i := 10) (some 69) rfl rfl (by kernel_rfl) (by kernel_rfl) (by kernel_rfl) (fun _ _ _ h => h) ?_ ?_
      · go_simp
      simp only [Act.put, List.setIfInBounds_toArray, List.set_cons_zero, List.set_cons_succ]
      refine take_un (i := 11) (some 70) rfl rfl (by kernel_rfl) (by kernel_rfl) (by kernel_rfl) (fun _ _ _ h => h) ?_ ?_
      · go_simp
      simp only [Act.put, List.setIfInBounds_toArray, List.set_cons_zero, List.set_cons_succ]
      refine take_un (i := 12) (some 71) rfl rfl (by kernel_rfl) (by kernel_rfl) (by kernel_rfl) (fun _ _ _ h => h) ?_ ?_
      · go_simp
      simp only [Act.put, List.setIfInBounds_toArray, List.set_cons_zero, List.set_cons_succ]
      refine take_un (i := 13) (some 72) rfl rfl (by kernel_rfl) (by kernel_rfl) (by kernel_rfl) (fun _ _ _ h => h) ?_ ?_
      · go_simp
      simp only [Act.put, List.setIfInBounds_toArray, List.set_cons_zero, List.set_cons_succ]
      refine take_un (i := 14) (some 73) rfl rfl (by kernel_rfl) (by kernel_rfl) (by kernel_rfl) (fun _ _ _ h => h) ?_ ?_
      · go_simp
      simp only [Act.put, List.setIfInBounds_toArray, List.set_cons_zero, List.set_cons_succ]
      refine take_un (i := 15) (some 74) rfl rfl (by kernel_rfl) (by kernel_rfl) (by kernel_rfl) (fun _ _ _ h => h) ?_ ?_
      · go_simp
      simp only [Act.put, List.setIfInBounds_toArray, List.set_cons_zero, List.set_cons_succ]
      refine take_un (i := 16) (some 75) rfl rfl (by kernel_rfl) (by kernel_rfl) (by kernel_rfl) (fun _ _ _ h => h) ?_ ?_
      · go_simp
      simp only [Act.put, List.setIfInBounds_toArray, List.set_cons_zero, List.set_cons_succ]
      refine take_un (i := 17) (some 76) rfl rfl (by kernel_rfl) (by kernel_rfl) (by kernel_rfl) (fun _ _ _ h => h) ?_ ?_
      · go_simp
      simp only [Act.put, List.setIfInBounds_toArray, List.set_cons_zero, List.set_cons_succ]
      refine take_un (i := 18) (some 77) rfl rfl (by kernel_rfl) (by kernel_rfl) (by kernel_rfl) (fun _ _ _ h => h) ?_ ?_
      · go_simp
      simp only [Act.put, List.setIfInBounds_toArray, List.set_cons_zero, List.set_cons_succ]
      refine take_in (i := 19) (some 78) (.bool false) rfl rfl (by kernel_rfl) (by kernel_rfl) (by kernel_rfl) (fun _ _ _ h => h) (by rfl) ?_ ?_
      · intro w
        go_simp
      simp only [Act.put, List.setIfInBounds_toArray, List.set_cons_zero, List.set_cons_succ]
      refine wpAny_done (by kernel_rfl) ?_ _
      refine NoPanic.normal ?_
      go_wp2
      refine ⟨⟨k + 1, D, by omega, by go_num, Lib.hid (Lay.drew (Lay.alloc HL.out _)), Lib.hid (HFn.out.up (by omega))⟩, by simp [intOf]; omega⟩
  · obtain rfl : k = l.length := by omega
    clear hlt
    have HS1 := Lib.hid (sync_left HL.out HFn.out (by omega))
    obtain ⟨X, hX⟩ : ∃ X, X = { D with sure := D.now, loose := [] } := ⟨_, rfl⟩
    rw [← hX] at HS1
    have HS2 : Hid (∀ w', Lay w w' p q X D [] → Calls Try.prog 11 #[.pointer (some ⟨q, 0, none⟩)] w' fun e w'' => e = .returned (.int .i64 0) ∧ Lay w w'' p q X X []) := Lib.hid fun w' h => by
      rw [hX] at h ⊢
      exact sync_right h HFn.out (by omega)
    have HXf : Hid (Fine X 150) := Lib.hid (by rw [hX]; exact ⟨HFn.out.fuse, HFn.out.still, by simp, HFn.out.names, by have := HFn.out.len; show D.now.length ≤ 150; omega⟩)
    have HXl : Hid (X.loose = [] ∧ X.sure = X.now) := Lib.hid (by rw [hX]; exact ⟨rfl, rfl⟩)
    clear hX
    go_wp2_with (first
      | (go_at_call 11; with_reducible refine (HS2.out _ (Hid.out (by assumption))).mono ?_; rintro e wx ⟨rfl, hx⟩; have HY := Lib.hid hx; clear hx)
      | (go_at_call 11; with_reducible refine HS1.out.mono ?_; rintro e wx ⟨rfl, hx⟩; have HX := Lib.hid hx; clear hx))
    clear HS1 HS2 HFn
    obtain ⟨i1, hi1, hz0, hz1, hz2⟩ := info_parts info31
    go_loopw [14, 15, 87, 88, 89, 90, 91, 92, 93, 94, 95, 96, 97, 98, 99, 100, 101, 102, 103, 104, 105, 106, 107, 108, 109, 110, 111, 112, 113] (fun v i _ _ _ _ _ _ _ _ _ _ _ _ _ _ _ _ _ _ _ _ _ _ _ _ _ _ _ wr => ∃ (k : Nat) (done : List Sx), k ≤ more.length ∧ i = .int .i64 k ∧ Hid (Lay w wr p q (rep X done) X [⟨31, 5, v, done.length, cellsS done⟩]) ∧ Hid (Inv2 X more done k)) (fun _ i _ _ _ _ _ _ _ _ _ _ _ _ _ _ _ _ _ _ _ _ _ _ _ _ _ _ _ _ => more.length - (intOf i).toNat)
    case atStart =>
      refine ⟨0, [], by omega, rfl, Lib.hid ?_, Lib.hid ⟨fun i hi => by simp at hi, HXf.out, by simp, fun s hs => by simp at hs⟩⟩
      exact (Lay.push (by assumption : Hid (Lay w _ p q X X [])).out (Below.refl _ _) (World.ownsRow_nil _ _ _ _))
    case round =>
    obtain ⟨k, done, hk, rfl, HL, HI⟩ := hrel
    by_cases hlt : k < more.length
    · obtain ⟨b, o, rfl, h5⟩ := H5m.out k hlt
      obtain ⟨s, hs⟩ : ∃ s, s = more[k] := ⟨_, rfl⟩
      have hmem : s ∈ more := by rw [hs]; exact List.getElem_mem hlt
      have hso := HOm.out s hmem
      have hsy : s.y.size ≤ 32768 := by have := tot_mem s more hmem; have := HTm.out; omega
      rw [← hs] at h5
      have H5 := Lib.hid h5
      have i0 : (0 : Int) ≤ (k : Int) := by omega
      have i1' : (k : Int) < (more.length : Int) := by omega
      have hHa := Lay.alloc HL.out (stepO s.o s.x s.y s.n s.m)
      obtain ⟨q0, q1, q2, q3, q4⟩ := h5 wr HL.out.below
      obtain ⟨d0, d1, d2, d3, d4⟩ := h5 _ hHa.below
      have HCh0 := changes_any wr s
      have hdl := HI.out.len
      obtain ⟨D', hD'⟩ : ∃ D', D' = (stCall (rep X done) s).2 := ⟨_, rfl⟩
      obtain ⟨e1, he1⟩ : ∃ e1, e1 = (stCall (rep X done) s).1 := ⟨_, rfl⟩
      have hC1 := call_left hHa s hso hsy HI.out.fine (by omega)
      have hbd := call_bound HI.out.fine s
      rw [← hD', ← he1] at hC1
      rw [← he1] at hbd
      have HC1 := Lib.hid hC1
      have hb1 := hbd.1
      have hb2 := hbd.2
      have HMs := Lib.hid hmem
      clear hs h5 hso hmem hHa hC1 hbd
      by_cases hch : 1 ≤ s.o ∧ s.o ≤ 4
      · rw [decide_eq_true hch.1, decide_eq_true hch.2] at HCh0
        have HCh := Lib.hid HCh0
        clear HCh0 hch
        by_cases h0 : e1 = 0
        · subst h0
          have HI2 := Lib.hid (HI.out.done HMs.out he1.symm)
          have HDr : Hid (D' = rep X (done ++ [s])) := Lib.hid (by rw [rep_snoc, hD'])
          clear hD' he1 hb1 hb2
          go_wp2_with (first
            | (go_at_call 9; with_reducible refine HCh.out.mono ?_; rintro e wx ⟨rfl, rfl⟩)
            | (go_at_call 10; with_reducible refine HC1.out.mono ?_; rintro e wx ⟨rfl, hx⟩; have hz := H5.out wx (Lay.below hx); unfold Five at hz; have z0 := hz.1; have z1 := hz.2.1; have z2 := hz.2.2.1; have z3 := hz.2.2.2.1; have z4 := hz.2.2.2.2; clear hz; have ht := app_prep hx (by omega) s; have t1 := ht.1; have t2 := ht.2.1; have t3 := ht.2.2.1; have t4 := ht.2.2.2.1; have t5 := ht.2.2.2.2.1; have t6 := ht.2.2.2.2.2; clear ht; have T1 := Lib.hid t1; have T2 := Lib.hid t2; have T3 := Lib.hid t3; have T4 := Lib.hid t4; have T5 := Lib.hid t5; have T6 := Lib.hid t6; have HX := Lib.hid hx; clear hx t1 t2 t3 t4 t5 t6)
            | (at_builtin; refine wpList_append_own_at _ rfl _ _ 22 rfl w.heap.size 31 i1 _ 5 56 Try.underlying22 hi1 hz0 hz1 hz2 rfl (by decide) _ _ _ rfl T1.out ⟨wx.heap.size, 0, none⟩ 1 1 [.int .i64 s.o, .string s.x, .string s.y, .int .i64 s.n, .int .i64 s.m] rfl rfl T2.out T3.out T4.out T5.out T6.out ?_; intro v2 w2 r1 r2 r3 r4; have HV := Lib.hid (And.intro r1 (And.intro r2 r4)); clear r1 r2 r3 r4))
          refine ⟨⟨k + 1, done ++ [s], by omega, by go_num, Lib.hid ?_, HI2⟩, by simp [intOf]; omega⟩
          obtain ⟨r1, r2, r4⟩ := (by assumption : Hid (_ ∧ _ ∧ _)).out
          rw [← HDr.out, cellsS_snoc, List.length_append]
          exact Lay.grown (Lay.alloc (by assumption : Hid (Lay w _ p q D' X _)).out (stepO s.o s.x s.y s.n s.m)) r2 r1 r4
        · have HI2 := Lib.hid HI.out.skip
          have HDr : Hid (D' = rep X done) := Lib.hid (by rw [hD']; exact call_fail HI.out.fine s (by rw [← he1]; exact h0))
          have e0 : (e1 == 0) = false := by simpa using h0
          clear hD' he1 h0
          go_wp2_with (first
            | (go_at_call 9; with_reducible refine HCh.out.mono ?_; rintro e wx ⟨rfl, rfl⟩)
            | (go_at_call 10; with_reducible refine HC1.out.mono ?_; rintro e wx ⟨rfl, hx⟩; have HX := Lib.hid hx; clear hx))
          refine ⟨⟨k + 1, done, by omega, by go_num, ?_, HI2⟩, by simp [intOf]; omega⟩
          rw [← HDr.out]
          exact (by assumption : Hid (Lay w _ p q D' X _))
      · have hcd : (decide (1 ≤ s.o) && decide (s.o ≤ 4)) = false := by
          rcases Classical.not_and_iff_not_or_not.1 hch with h | h
          · rw [decide_eq_false h]; rfl
          · rw [decide_eq_false h, Bool.and_false]
        rw [hcd] at HCh0
        have HCh := Lib.hid HCh0
        clear HCh0 hch hcd hD' he1 hb1 hb2
        go_wp2_with (go_at_call 9; with_reducible refine HCh.out.mono ?_; rintro e wx ⟨rfl, rfl⟩)
        exact ⟨⟨k + 1, done, by omega, by go_num, Lib.hid (Lay.alloc HL.out _), Lib.hid HI.out.skip⟩, by simp [intOf]; omega⟩
    · obtain rfl : k = more.length := by omega
      clear hlt
      obtain ⟨ao3, cap3, hv, hsh⟩ := own_shape (HL.out.row (List.mem_singleton.2 rfl))
      dsimp only at hv hsh
      have hdl := HI.out.len
      have hrep := rep_all HXf.out.fuse HXf.out.still HI.out.ok
      have hlo : (rep X done).loose.length = done.length := by rw [hrep, HXl.out.1]; simp
      have hLo := loose_left HL.out (by omega)
      rw [hlo] at hLo
      have HLo := Lib.hid hLo
      have HSh := Lib.hid hsh
      have HRep := Lib.hid hrep
      have HLoo := Lib.hid hlo
      obtain ⟨D3, hD3⟩ : ∃ D3, D3 = rep X done := ⟨_, rfl⟩
      have HD3 := Lib.hid hD3
      rw [← hD3] at HL HLoo
      subst hv
      clear hLo hsh hrep hlo hD3
      go_wp2_with (go_at_call 12; with_reducible refine HLo.out.mono ?_; rintro e wx ⟨rfl, rfl⟩)
      go_loopw [16, 17, 119, 120, 121, 122, 123, 124, 125, 126, 127, 128, 129, 130, 131, 132, 133, 134, 135, 136, 137, 138, 139, 140, 141, 142, 143, 144, 145, 146, 147, 148, 149, 150, 151, 152, 153, 154, 155, 156, 157, 158, 159, 160, 161, 162] (fun i _ _ _ _ _ _ _ _ _ _ _ _ _ _ _ _ _ _ _ _ _ _ _ _ _ _ _ _ _ _ _ _ _ _ _ _ _ _ _ _ _ _ _ _ _ wr => ∃ (k : Nat) (Y : St), k ≤ done.length ∧ i = .int .i64 k ∧ Hid (Lay w wr p q D3 Y [⟨31, 5, .slice ao3 done.length cap3, done.length, cellsS done⟩]) ∧ Hid (Cx.At X Y done keep torn k)) (fun i _ _ _ _ _ _ _ _ _ _ _ _ _ _ _ _ _ _ _ _ _ _ _ _ _ _ _ _ _ _ _ _ _ _ _ _ _ _ _ _ _ _ _ _ _ _ => done.length - (intOf i).toNat)
      case atStart => exact ⟨0, X, by omega, rfl, HL, Lib.hid (.inl ⟨by omega, rfl⟩)⟩
      case round =>
      obtain ⟨k, Y, hk2, rfl, HL3, HAt⟩ := hrel
      by_cases hlt : k < done.length
      · obtain ⟨g, rfl, hg⟩ := HSh.out (by omega)
        obtain ⟨s, hs⟩ : ∃ s, s = done[k] := ⟨_, rfl⟩
        have hmem : s ∈ done := by rw [hs]; exact List.getElem_mem hlt
        have hso := HOm.out s (HI.out.mem s hmem)
        have hsy : s.y.size ≤ 32768 := by have := tot_mem s more (HI.out.mem s hmem); have := HTm.out; omega
        have hrow := HL3.out.row (List.mem_singleton.2 rfl)
        obtain ⟨x0, x1, x2, x3, x4⟩ := cellsS_at done k hlt
        rw [← hs] at x0 x1 x2 x3 x4
        dsimp only at hrow
        have q0 := own_cell hrow hg _ _ x0
        have q1 := own_cell hrow hg _ _ x1
        have q2 := own_cell hrow hg _ _ x2
        have q3 := own_cell hrow hg _ _ x3
        have q4 := own_cell hrow hg _ _ x4
        have i0 : (0 : Int) ≤ (k : Int) := by omega
        have i1' : (k : Int) < (done.length : Int) := by omega
        have HMs := Lib.hid hmem
        have HSo := Lib.hid hso
        have HS0 := Lib.hid hs
        clear hs hmem hso hrow x0 x1 x2 x3 x4
        by_cases hkk : (k : Int) < keep
        · have hal := at_less HI.out.ok HAt.out hkk hlt
          rw [← HS0.out] at hal
          have HAt2 := Lib.hid hal.2
          have hC := call_right (Lay.alloc HL3.out (stepO s.o s.x s.y s.n s.m)) s HSo.out hsy (fine_at HXf.out HAt.out) (by omega)
          rw [hal.1] at hC
          have HC := Lib.hid hC
          clear hal hC
          go_wp2_with (go_at_call 10; with_reducible refine HC.out.mono ?_; rintro e wx ⟨rfl, hx⟩; have HX := Lib.hid hx; clear hx)
          exact ⟨⟨k + 1, (stCall Y s).2, by omega, by go_num, (by assumption : Hid (Lay w _ p q D3 (stCall Y s).2 _)), HAt2⟩, by simp [intOf]; omega⟩
        · obtain ⟨M, hM⟩ : ∃ M : Int, M = max keep 0 := ⟨_, rfl⟩
          have hMx : (if keep < 0 then 0 else keep) = M := by rw [hM]; split <;> omega
          have hkl : keep ≤ (k : Int) := by omega
          rcases at_more HAt.out hkl hlt with ⟨hk1, hmk⟩ | ⟨hk1, hmk, hYr⟩
          · rw [← hM] at hmk
            have HK1 := Lib.hid hk1
            clear hM hkk hk1
            have hcr : crashed D3 keep torn = Y.now := (crash_at HXl.out.1 HXl.out.2 HXf.out.fuse HXf.out.still HI.out.ok HD3.out HAt.out (.inl HK1.out))
            obtain ⟨D5, D6, F, hT⟩ := tail_of (Lay.alloc HL3.out (stepO s.o s.x s.y s.n s.m)) HKp.out HTn.out (by rw [HLoo.out]; omega) hcr ((fine_at HXf.out HAt.out).up (by omega))
            have TCr := Lib.hid hT.cr
            have TLo := Lib.hid hT.lo
            have TFa := Lib.hid hT.fa
            have TFb := Lib.hid hT.fb
            have TCr2 := Lib.hid hT.cr2
            have TFc := Lib.hid hT.fc
            have TSm := Lib.hid hT.sm
            clear hT hcr
            go_wp2_with (first
              | (go_at_call 13; with_reducible refine TCr.out.mono ?_; rintro e wx ⟨rfl, hx⟩; have HX := Lib.hid hx; clear hx)
              | (go_at_call 13; with_reducible refine (TCr2.out _ _ (Hid.out (by assumption))).mono ?_; rintro e wx ⟨rfl, hx⟩; have HX := Lib.hid hx; clear hx)
              | (go_at_call 12; with_reducible refine (TLo.out _ _ (Hid.out (by assumption))).mono ?_; rintro e wx ⟨rfl, rfl⟩)
              | (go_at_call 14; with_reducible refine (TFa.out _ _ (Hid.out (by assumption))).mono ?_; rintro e wx ⟨v, rfl, hx⟩; have HX := Lib.hid hx; clear hx)
              | (go_at_call 14; with_reducible refine (TFb.out _ _ (Hid.out (by assumption))).mono ?_; rintro e wx ⟨v, rfl, hx⟩; have HX := Lib.hid hx; clear hx)
              | (go_at_call 14; with_reducible refine (TFc.out _ _ (Hid.out (by assumption))).mono ?_; rintro e wx ⟨v, rfl, hx⟩; have HX := Lib.hid hx; clear hx)
              | (go_at_call 15; with_reducible refine (TSm.out _ _ _ _ _ (Hid.out (by assumption)) (by simp) (by simp)).mono ?_; rintro e wx ⟨rfl, hx⟩; have HX := Lib.hid hx; clear hx)
              | (go_at_call 7; with_reducible refine (Av.alive_any _).mono ?_; rintro e wx ⟨rfl, hx⟩; have HAl := Lib.hid hx; clear hx))
            go_ret
            exact ⟨rfl, final_below (Hid.out (by assumption)) (Hid.out (by assumption))⟩
          · rw [← hM] at hmk
            have HK1 := Lib.hid hk1
            have HYr := Lib.hid hYr
            clear hM hkk hk1 hYr
            subst hmk
            by_cases ho : s.o = 1
            · by_cases htt : torn < 1
              · have HNp : Hid (¬ Piece done keep torn) := Lib.hid (no_piece HK1.out hlt (.inr htt))
                have hcr : crashed D3 keep torn = Y.now := (crash_at HXl.out.1 HXl.out.2 HXf.out.fuse HXf.out.still HI.out.ok HD3.out HAt.out (.inr ⟨HK1.out, HNp.out⟩))
                obtain ⟨D5, D6, F, hT⟩ := tail_of (Lay.alloc HL3.out (stepO 1 s.x s.y s.n s.m)) HKp.out HTn.out (by rw [HLoo.out]; omega) hcr ((fine_at HXf.out HAt.out).up (by omega))
                have TCr := Lib.hid hT.cr
                have TLo := Lib.hid hT.lo
                have TFa := Lib.hid hT.fa
                have TFb := Lib.hid hT.fb
                have TCr2 := Lib.hid hT.cr2
                have TFc := Lib.hid hT.fc
                have TSm := Lib.hid hT.sm
                clear hT hcr
                go_wp2_with (first
                  | (go_at_call 13; with_reducible refine TCr.out.mono ?_; rintro e wx ⟨rfl, hx⟩; have HX := Lib.hid hx; clear hx)
                  | (go_at_call 13; with_reducible refine (TCr2.out _ _ (Hid.out (by assumption))).mono ?_; rintro e wx ⟨rfl, hx⟩; have HX := Lib.hid hx; clear hx)
                  | (go_at_call 12; with_reducible refine (TLo.out _ _ (Hid.out (by assumption))).mono ?_; rintro e wx ⟨rfl, rfl⟩)
                  | (go_at_call 14; with_reducible refine (TFa.out _ _ (Hid.out (by assumption))).mono ?_; rintro e wx ⟨v, rfl, hx⟩; have HX := Lib.hid hx; clear hx)
                  | (go_at_call 14; with_reducible refine (TFb.out _ _ (Hid.out (by assumption))).mono ?_; rintro e wx ⟨v, rfl, hx⟩; have HX := Lib.hid hx; clear hx)
                  | (go_at_call 14; with_reducible refine (TFc.out _ _ (Hid.out (by assumption))).mono ?_; rintro e wx ⟨v, rfl, hx⟩; have HX := Lib.hid hx; clear hx)
                  | (go_at_call 15; with_reducible refine (TSm.out _ _ _ _ _ (Hid.out (by assumption)) (by simp) (by simp)).mono ?_; rintro e wx ⟨rfl, hx⟩; have HX := Lib.hid hx; clear hx)
                  | (go_at_call 7; with_reducible refine (Av.alive_any _).mono ?_; rintro e wx ⟨rfl, hx⟩; have HAl := Lib.hid hx; clear hx))
                go_ret
                exact ⟨rfl, final_below (Hid.out (by assumption)) (Hid.out (by assumption))⟩
              · have hat := at_torn HXf.out.fuse HXf.out.still HI.out.ok HK1.out hlt (by rw [← HS0.out]; exact ho) (show 0 < torn by omega)
                rw [← HS0.out, ← HYr.out] at hat
                have HAt2 := Lib.hid hat.2
                have h1t : (1 : Int) ≤ torn := by omega
                have hC := call_right (Lay.alloc HL3.out (stepO 1 s.x (s.y.extract 0 (min torn s.y.size).toNat) s.n s.m)) (tornS s torn) (tornS_ok HSo.out torn) (by have := torn_size s.y torn; show (Cl.torn s.y torn).size ≤ _; omega) (fine_at HXf.out HAt.out) (by omega)
                have e : stepV (tornS s torn).o (tornS s torn).x (tornS s torn).y (tornS s torn).n (tornS s torn).m = stepV 1 s.x (s.y.extract 0 (min torn s.y.size).toNat) s.n s.m := by
                  show stepV s.o s.x (Cl.torn s.y torn) s.n s.m = _
                  rw [ho]; rfl
                rw [hat.1, e] at hC
                have HC := Lib.hid hC
                clear hC e hat
                go_wp2_with (go_at_call 10; with_reducible refine HC.out.mono ?_; rintro e wx ⟨rfl, hx⟩; have HX := Lib.hid hx; clear hx)
                exact ⟨⟨k + 1, (stCall Y (tornS s torn)).2, by omega, by go_num, (by assumption : Hid (Lay w _ p q D3 (stCall Y (tornS s torn)).2 _)), HAt2⟩, by simp [intOf]; omega⟩
            · have HNp : Hid (¬ Piece done keep torn) := Lib.hid (no_piece HK1.out hlt (.inl (by rw [← HS0.out]; exact ho)))
              have on : (s.o == 1) = false := by simpa using ho
              have hcr : crashed D3 keep torn = Y.now := (crash_at HXl.out.1 HXl.out.2 HXf.out.fuse HXf.out.still HI.out.ok HD3.out HAt.out (.inr ⟨HK1.out, HNp.out⟩))
              obtain ⟨D5, D6, F, hT⟩ := tail_of (Lay.alloc HL3.out (stepO s.o s.x s.y s.n s.m)) HKp.out HTn.out (by rw [HLoo.out]; omega) hcr ((fine_at HXf.out HAt.out).up (by omega))
              have TCr := Lib.hid hT.cr
              have TLo := Lib.hid hT.lo
              have TFa := Lib.hid hT.fa
              have TFb := Lib.hid hT.fb
              have TCr2 := Lib.hid hT.cr2
              have TFc := Lib.hid hT.fc
              have TSm := Lib.hid hT.sm
              clear hT hcr
              go_wp2_with (first
                | (go_at_call 13; with_reducible refine TCr.out.mono ?_; rintro e wx ⟨rfl, hx⟩; have HX := Lib.hid hx; clear hx)
                | (go_at_call 13; with_reducible refine (TCr2.out _ _ (Hid.out (by assumption))).mono ?_; rintro e wx ⟨rfl, hx⟩; have HX := Lib.hid hx; clear hx)
                | (go_at_call 12; with_reducible refine (TLo.out _ _ (Hid.out (by assumption))).mono ?_; rintro e wx ⟨rfl, rfl⟩)
                | (go_at_call 14; with_reducible refine (TFa.out _ _ (Hid.out (by assumption))).mono ?_; rintro e wx ⟨v, rfl, hx⟩; have HX := Lib.hid hx; clear hx)
                | (go_at_call 14; with_reducible refine (TFb.out _ _ (Hid.out (by assumption))).mono ?_; rintro e wx ⟨v, rfl, hx⟩; have HX := Lib.hid hx; clear hx)
                | (go_at_call 14; with_reducible refine (TFc.out _ _ (Hid.out (by assumption))).mono ?_; rintro e wx ⟨v, rfl, hx⟩; have HX := Lib.hid hx; clear hx)
                | (go_at_call 15; with_reducible refine (TSm.out _ _ _ _ _ (Hid.out (by assumption)) (by simp) (by simp)).mono ?_; rintro e wx ⟨rfl, hx⟩; have HX := Lib.hid hx; clear hx)
                | (go_at_call 7; with_reducible refine (Av.alive_any _).mono ?_; rintro e wx ⟨rfl, hx⟩; have HAl := Lib.hid hx; clear hx))
              go_ret
              exact ⟨rfl, final_below (Hid.out (by assumption)) (Hid.out (by assumption))⟩
      · obtain rfl : k = done.length := by omega
        clear hlt
        have hcr : crashed D3 keep torn = Y.now := (crash_at HXl.out.1 HXl.out.2 HXf.out.fuse HXf.out.still HI.out.ok HD3.out HAt.out (at_end HAt.out))
        obtain ⟨D5, D6, F, hT⟩ := tail_of HL3.out HKp.out HTn.out (by rw [HLoo.out]; omega) hcr ((fine_at HXf.out HAt.out).up (by omega))
        have TCr := Lib.hid hT.cr
        have TLo := Lib.hid hT.lo
        have TFa := Lib.hid hT.fa
        have TFb := Lib.hid hT.fb
        have TCr2 := Lib.hid hT.cr2
        have TFc := Lib.hid hT.fc
        have TSm := Lib.hid hT.sm
        clear hT hcr
        go_wp2_with (first
          | (go_at_call 13; with_reducible refine TCr.out.mono ?_; rintro e wx ⟨rfl, hx⟩; have HX := Lib.hid hx; clear hx)
          | (go_at_call 13; with_reducible refine (TCr2.out _ _ (Hid.out (by assumption))).mono ?_; rintro e wx ⟨rfl, hx⟩; have HX := Lib.hid hx; clear hx)
          | (go_at_call 12; with_reducible refine (TLo.out _ _ (Hid.out (by assumption))).mono ?_; rintro e wx ⟨rfl, rfl⟩)
          | (go_at_call 14; with_reducible refine (TFa.out _ _ (Hid.out (by assumption))).mono ?_; rintro e wx ⟨v, rfl, hx⟩; have HX := Lib.hid hx; clear hx)
          | (go_at_call 14; with_reducible refine (TFb.out _ _ (Hid.out (by assumption))).mono ?_; rintro e wx ⟨v, rfl, hx⟩; have HX := Lib.hid hx; clear hx)
          | (go_at_call 14; with_reducible refine (TFc.out _ _ (Hid.out (by assumption))).mono ?_; rintro e wx ⟨v, rfl, hx⟩; have HX := Lib.hid hx; clear hx)
          | (go_at_call 15; with_reducible refine (TSm.out _ _ _ _ _ (Hid.out (by assumption)) (by simp) (by simp)).mono ?_; rintro e wx ⟨rfl, hx⟩; have HX := Lib.hid hx; clear hx)
          | (go_at_call 7; with_reducible refine (Av.alive_any _).mono ?_; rintro e wx ⟨rfl, hx⟩; have HAl := Lib.hid hx; clear hx))
        go_ret
        exact ⟨rfl, final_below (Hid.out (by assumption)) (Hid.out (by assumption))⟩
end Go.Proofs.Ytjnkennlncdlgaa.Dc
