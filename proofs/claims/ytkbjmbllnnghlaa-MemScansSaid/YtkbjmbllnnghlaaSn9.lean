/- Mem.Scan: the pairs within bounds, in order, the first of them. -/
import Derived.Test.YtkbjmbllnnghlaaTe9
import Derived.Test.YtkbjmbllnnghlaaMm9
import Derived.Maps.OwnIn
import Derived.WalkMore
import Derived.RangeFuncWrites
import Derived.Deep.OwnRows
namespace Go.Proofs.Ytkbjmbllnnghlaa.Sn9
open Go Go.RowKit Go.Proofs.Ytkbjmbllnnghlaa.Pm9 Go.Proofs.Ytkbjmbllnnghlaa.Wd9 Go.Proofs.Ytkbjmbllnnghlaa.Mt9 Go.Proofs.Ytkbjmbllnnghlaa.Te9
attribute [local go_sem] Oper.semAt_some
theorem infoP : (Try.prog.info? 33).map (fun i => (i.zero, i.size, i.bytes)) = some (some (.agg #[.string ⟨#[]⟩, .string ⟨#[]⟩, .bool false]), 3, 40) := by kernel_rfl
/-- Is a key ahead of the bound, if there is one? -/
def pass (b : ByteArray) (q : Pr) : Bool := decide (b.size = 0) || lt q.k b
theorem scan_done {a b : ByteArray} {n : Int} {l T : List Pr} (hT : T = l.filter fun q => !lt q.k a) (hp : ∀ q ∈ T, pass b q = true) (hn : (T.length : Int) ≤ n) : scan a b n l = T := by
  have e : l.filter (within a b) = T := by
    rw [hT]
    refine List.filter_congr fun q hq => ?_
    unfold within
    cases ha : lt q.k a
    · have := hp q (by rw [hT]; exact List.mem_filter.2 ⟨hq, by rw [ha]; rfl⟩)
      unfold pass at this
      rw [this]; rfl
    · rfl
  unfold scan
  rw [e, List.take_of_length_le (by omega)]
theorem scan_stop {a b : ByteArray} {n : Int} {l L R : List Pr} {x : Pr} (hs : Sorted l) (hT : L ++ [x] ++ R = l.filter fun q => !lt q.k a) (hp : ∀ q ∈ L, pass b q = true) (hn : (L.length : Int) ≤ n) (hx : (L.length : Int) = n ∨ pass b x = false) : scan a b n l = L := by
  have e : l.filter (within a b) = (L ++ [x] ++ R).filter (pass b) := by
    rw [hT, List.filter_filter]
    refine List.filter_congr fun q hq => ?_
    unfold within pass
    rw [Bool.and_comm]
  have hL : L.filter (pass b) = L := List.filter_eq_self.2 hp
  unfold scan
  rw [e, List.append_assoc, List.filter_append, hL]
  rcases hx with hx | hx
  · rw [List.take_append_of_le_length (by omega), List.take_of_length_le (by omega)]
  · have hs2 : Sorted (L ++ [x] ++ R) := by rw [hT]; exact hs.sublist List.filter_sublist
    have hR : ([x] ++ R).filter (pass b) = [] := by
      refine List.filter_eq_nil_iff.2 fun q hq => ?_
      have hb : ¬ b.size = 0 ∧ lt x.k b = false := by
        unfold pass at hx
        simp only [Bool.or_eq_false_iff, decide_eq_false_iff_not] at hx
        exact hx
      rcases List.mem_append.1 hq with hq | hq
      · rw [List.mem_singleton.1 hq, hx]; simp
      · rw [List.append_assoc] at hs2
        have hxq : lt x.k q.k = true := (Sorted.parts hs2).2.2.2 q hq
        unfold pass
        rw [decide_eq_false hb.1, Bool.false_or]
        intro hc
        rw [lt_trans hxq hc] at hb
        exact absurd hb.2 (by simp)
    rw [hR, List.append_nil, List.take_of_length_le (by omega)]
/-- since(k): the tree and the key are boxed, the function value has the boxes. -/
theorem since_any (n : Nat) (a : Option Addr) (k : ByteArray) (w : World) :
    CallsIn Fence.wide n Try.prog 26 #[.pointer a, .string k] w fun e w' => e = .returned (.func (.func 31) #[] #[.pointer (some ⟨w.heap.size, 0, none⟩), .pointer (some ⟨w.heap.size + 1, 0, none⟩)]) ∧
      w' = (w.alloc (.cells #[.pointer a] 42)).alloc (.cells #[.string k] 9) := by
  refine callsIn_of_wp Try.func26 rfl trivial ?_ rfl
  simp only [Try.ntmps26, List.size_toArray, List.length_cons, List.length_nil, Nat.reduceAdd, Nat.reduceSub, Array.replicate_succ, Array.replicate_zero, List.push_toArray, List.append_toArray, List.nil_append, List.cons_append]
  gi_wp2
  go_ret
  exact ⟨rfl, rfl⟩
set_option maxRecDepth 100000 in
set_option maxHeartbeats 2000000 in
theorem since_stops (n : Nat) (hn : 1 ≤ n) (B : Nat) (t : Tr) (k : ByteArray) (w : World) (b1 b2 : Nat) (ht : t.In w) (hB : ∀ i ∈ t.ids, i < B) (hBw : B ≤ w.heap.size) (h1 : b1 < w.heap.size) (h2 : b2 < w.heap.size)
    (c1 : w.cell? ⟨b1, 0, none⟩ = some t.ptr) (c2 : w.cell? ⟨b2, 0, none⟩ = some (.string k)) :
    SeqStopsK Fence.wide n Try.prog 31 #[.pointer (some ⟨b1, 0, none⟩), .pointer (some ⟨b2, 0, none⟩)] encs (Below B) (fun ys => ys = t.tell k) (fun pre => pre <+: t.tell k) (t.tell k).length w := by
  intro l J Jx W hW hJ hJx hY h0
  have d1 := (hW.cell (p := ⟨b1, 0, none⟩) h1).trans c1
  have d2 := (hW.cell (p := ⟨b2, 0, none⟩) h2).trans c2
  have hT := tell_any l B (t.tell k).length k J Jx (fun m pre x W h hl => yieldAt_wide (hY pre x W h hl)) t [] W (In.below ht (fun i hi => Nat.lt_of_lt_of_le (hB i hi) hBw) hW) hB (by simp) h0
  obtain ⟨a, ha⟩ := Tr.ptr_shape t
  rw [ha] at d1 hT
  have HT := Lib.hid hT
  clear hT hY hJ hJx
  refine callsIn_of_wp Try.func31 rfl trivial ?_ rfl
  simp only [Try.ntmps31, List.size_toArray, List.length_cons, List.length_nil, Nat.reduceAdd, Nat.reduceSub, Array.replicate_succ, Array.replicate_zero, List.push_toArray, List.append_toArray, List.nil_append, List.cons_append]
  gi_wp2_with (refine ⟨trivial, ?_⟩; gi_at_call 32; refine (callsIn_wide.2 HT.out).mono ?_; rintro e w1 h3; obtain ⟨r, rfl, h4⟩ := told_bool h3)
  go_end0
  refine ⟨⟨_, rfl⟩, ?_⟩
  rcases h4 with ⟨_, h5, _⟩ | ⟨_, q, hq, h5⟩
  · exact .inl ⟨_, rfl, h5⟩
  · exact .inr ⟨q, hq, h5⟩
def RowP (n0 b0 : Nat) (L : List Pr) (W : World) : Prop := ∃ v, Boxed W b0 22 v ∧ W.ownsRow n0 33 3 v L.length (cellsP L) ∧ True
theorem rowP_own (n0 b0 : Nat) (f : List Pr → List Pr) : Own (fun (pre : List Pr) W => RowP n0 b0 (f pre) W) := holdsRow_own n0 b0 22 33 3 (fun pre => (f pre).length) (fun pre => cellsP (f pre)) (fun _ _ => True)
def I9 (w : World) (b : ByteArray) (most : Int) (pre : List Pr) (W : World) : Prop :=
  ((∀ q ∈ pre, pass b q = true) ∧ (pre.length : Int) ≤ most) ∧ RowP w.heap.size (w.heap.size + 1 + 1) pre W ∧ Boxed W w.heap.size 9 (.string b) ∧ Boxed W (w.heap.size + 1) 3 (.int .i64 most) ∧ Below w.heap.size w W
def Ix9 (w : World) (b : ByteArray) (most : Int) (c : Code) (pre : List Pr) (W : World) : Prop :=
  (c = .exit 0 ∧ ∃ L x, pre = L ++ [x] ∧ (∀ q ∈ L, pass b q = true) ∧ (L.length : Int) ≤ most ∧ ((L.length : Int) = most ∨ pass b x = false)) ∧ RowP w.heap.size (w.heap.size + 1 + 1) pre.dropLast W ∧ Below w.heap.size w W
theorem i9_own (w : World) (b : ByteArray) (most : Int) (B : Nat) (hB : w.heap.size ≤ B) : OwnFrom B (I9 w b most) :=
  OwnFrom.and (ownFrom_pure B _) (OwnFrom.and (Own.from (rowP_own _ _ id) _) (OwnFrom.and (Own.from (boxed_own _ _ (fun _ : List Pr => .string b)) _) (OwnFrom.and (Own.from (boxed_own _ _ (fun _ : List Pr => .int .i64 most)) _) (ownFrom_below (Nat.le_refl _) hB))))
theorem ix9_own (w : World) (b : ByteArray) (most : Int) (c : Code) (B : Nat) (hB : w.heap.size ≤ B) : OwnFrom B (Ix9 w b most c) :=
  OwnFrom.and (ownFrom_pure B _) (OwnFrom.and (Own.from (rowP_own _ _ List.dropLast) _) (ownFrom_below (Nat.le_refl _) hB))
/-- What Scan answers: a row of its own. -/
def ScanTo (w : World) (L : List Pr) (e : Ending) (w' : World) : Prop := ∃ A c, e = .returned (.slice A L.length c) ∧ w'.ownsRow w.heap.size 33 3 (.slice A L.length c) L.length (cellsP L) ∧ Below w.heap.size w w'
theorem row_shape {W : World} {n0 : Nat} {v : Value} {L : List Pr} (h : W.ownsRow n0 33 3 v L.length (cellsP L)) : ∃ A c, v = .slice A L.length c := by
  rcases h.2 with ⟨hv, h0⟩ | ⟨g, cap, cur, hv, _⟩
  · exact ⟨none, 0, by rw [hv, h0]⟩
  · exact ⟨_, _, hv⟩
/-- The variables of a round. -/
def tmps9 (n0 p bp : Nat) (at_ : Option Addr) (a b : ByteArray) (most : Int) (x : Pr) : Array Value :=
  #[.pointer (some ⟨p, 0, none⟩), .string a, .string b, .int .i64 most, undef, undef, .pointer (some ⟨n0, 0, none⟩), .pointer (some ⟨n0 + 1, 0, none⟩), .slice none 0 0, .pointer (some ⟨n0 + 1 + 1, 0, none⟩), .pointer (some ⟨bp, 0, none⟩),
    .pointer (some ⟨p, 0, none⟩), .bool false, .bool false, .int .i64 most, .bool (decide (most < 1)), .bool (decide (most < 1)), .pointer (some ⟨p, 0, none⟩), .pointer (some ⟨p, 0, none⟩), .pointer (some ⟨p, 0, none⟩), .pointer at_, .string a,
    .func (.func 31) #[] #[.pointer (some ⟨n0 + 3, 0, none⟩), .pointer (some ⟨n0 + 3 + 1, 0, none⟩)], .agg #[.string x.k, .string x.v, .bool x.g], undef, undef, undef, undef, undef, undef, undef, undef, undef, undef, undef, undef, undef, undef, undef, undef, undef, undef]
/-- What a round begins with. -/
def Ax9 (n0 p : Nat) (at_ : Option Addr) (a b : ByteArray) (most : Int) (x : Pr) (a' : Act) (W : World) : Prop :=
  ∃ bp, n0 ≤ bp ∧ W.heap[bp]? = some (pairO x) ∧ a' = { tmps := tmps9 n0 p bp at_ a b most x, defers := [] }
theorem ax9_own (n0 p : Nat) (at_ : Option Addr) (a b : ByteArray) (most : Int) (x : Pr) (a' : Act) (B : Nat) : OwnFrom B (fun (_ : Unit) W => Ax9 n0 p at_ a b most x a' W) := by
  rintro _ W W' row ⟨bp, h1, h2, h3⟩ hg hr
  refine ⟨bp, h1, (hg.block bp (lt_of_at h2) fun e => ?_).trans h2, h3⟩
  obtain ⟨_, o, ho, hc⟩ := hr bp e.symm
  rw [h2] at ho; cases ho; cases hc
theorem exit_ok {w W : World} {b : ByteArray} {most : Int} {pre : List Pr} {x : Pr} {B : Nat} {a : Act} (hp : ∀ q ∈ pre, pass b q = true) (hn : (pre.length : Int) ≤ most) (hx : (pre.length : Int) = most ∨ pass b x = false)
    (hrow : RowP w.heap.size (w.heap.size + 1 + 1) pre W) (hB : Below w.heap.size w W) : ownPostG B (Below w.heap.size) (I9 w b most) (Ix9 w b most) (pre ++ [x]) W (.exit 0) a W :=
  ⟨KeepsFrom.refl _ _, ⟨rfl, pre, x, rfl, hp, hn, hx⟩, by rw [List.dropLast_concat]; exact hrow, hB⟩
theorem next_ok {w W w1 : World} {b : ByteArray} {most : Int} {pre : List Pr} {x : Pr} {B : Nat} {a : Act} {A : Option Addr} {c : Nat} {v' : Value} (hv : Boxed W (w.heap.size + 1 + 1) 22 (.slice A pre.length c))
    (hown : W.ownsRow w.heap.size 33 3 (.slice A pre.length c) pre.length (cellsP pre)) (ht : Boxed W w.heap.size 9 (.string b)) (hmo : Boxed W (w.heap.size + 1) 3 (.int .i64 most)) (hB : Below w.heap.size w W)
    (own2 : w1.ownsRow w.heap.size 33 3 v' (pre.length + 1) (cellsP pre ++ cells3 x)) (hgrow : (W.alloc (pairO x)).grownBy w1 (Value.slice A pre.length c).ownBlock) (hp : ∀ q ∈ pre, pass b q = true) (hx : pass b x = true) (hn : (pre.length : Int) < most) :
    ownPostG B (Below w.heap.size) (I9 w b most) (Ix9 w b most) (pre ++ [x]) W .normal a (w1.setCell ⟨w.heap.size + 1 + 1, 0, none⟩ v') := by
  obtain ⟨k1, k2, k3, k4, k5⟩ := hv.appended (by decide) hown hB.size (by omega) own2 hgrow
  have h1 : Boxed w1 w.heap.size 9 (.string b) := (ht.alloc _).kept hgrow (ht.not_row (by decide) hown)
  have h2 : Boxed w1 (w.heap.size + 1) 3 (.int .i64 most) := (hmo.alloc _).kept hgrow (hmo.not_row (by decide) hown)
  have e1 : (pre ++ [x]).length = pre.length + 1 := by simp
  have e2 : cellsP (pre ++ [x]) = cellsP pre ++ cells3 x := by rw [cellsP_append]; show _ ++ (cells3 x ++ []) = _; rw [List.append_nil]
  refine ⟨k4.from _, k5, ⟨fun q hq => ?_, by rw [e1]; omega⟩, ⟨v', k2, by rw [e1, e2]; exact k3, trivial⟩, h1.other (by omega) _, h2.other (by omega) _, hB.trans k5⟩
  rcases List.mem_append.1 hq with hq | hq
  · exact hp q hq
  · rw [List.mem_singleton.1 hq]; exact hx
theorem news3 (W : World) (x : Pr) : ∀ j u, (cells3 x)[j]? = some u → (W.alloc (pairO x)).cell? ((⟨W.heap.size, 0, none⟩ : Addr).add j) = some u := by
  intro j u hj
  have e : (⟨W.heap.size, 0, none⟩ : Addr).add j = ⟨W.heap.size, j, none⟩ := by cases j <;> simp [Addr.add]
  rw [e, cell_of (heap_new W (pairO x)) j]
  rw [← hj]
  exact List.getElem?_toArray ..
theorem one3 (x : Pr) : ∀ u ∈ cells3 x, u.oneCell' = true := by
  intro u hu
  simp only [cells3, List.mem_cons, List.not_mem_nil, or_false] at hu
  rcases hu with rfl | rfl | rfl <;> rfl
theorem scan_end {w W : World} {D : Nat} {L : List Pr} {A : Option Addr} {c : Nat} {T : Array Value} (hown : W.ownsRow w.heap.size 33 3 (.slice A L.length c) L.length (cellsP L)) (hB : Below w.heap.size w W) (hK : W.heap[D]? = some (.deferred (some []))) (hD : w.heap.size ≤ D)
    (t8 : T[8]? = some (.slice A L.length c)) :
    bodyPostM Fence.wide 6 Try.prog Try.f18 (ScanTo w L) .ret { tmps := T, defers := [{ target := Target.collected D, args := #[] }] } W := by
  refine ⟨by simp, .inl ⟨_, _, rfl, run_takeDeferred hK, ?_⟩⟩
  refine ⟨.slice A L.length c, ?_, A, c, rfl, ownsRow_putObj hown _ hK rfl, hB.trans (belowK_b (w := w) (Nat.le_refl _) W D _ _ hD hK rfl rfl)⟩
  simp [results, Try.f18, go_sem, t8]
set_option maxRecDepth 100000 in
set_option maxHeartbeats 4000000 in
theorem scanIn {w : World} {S : Nat → Prop} {p : Nat} {l0 : List Pr} {t : Tr} (h : MemAt w S p l0 t) (hlen : l0.length ≤ 1099511627776) (a b : ByteArray) (most : Int) (hm : 1 ≤ most) :
    CallsIn Fence.wide 6 Try.prog 18 #[.pointer (some ⟨p, 0, none⟩), .string a, .string b, .int .i64 most] w (ScanTo w (scan a b most l0)) := by
  obtain ⟨i0, hi, hz0, hz1, hz2⟩ := info_parts infoP
  obtain ⟨at_, hat⟩ := Tr.ptr_shape t
  have hT := Tr.tell_flat a (t := t) (by rw [h.flat]; exact h.sorted)
  rw [h.flat] at hT
  have hml : ¬ most < 1 := by omega
  refine callsIn_of_wp_marks Try.func18 rfl trivial ?_ rfl
  simp only [Try.ntmps18, List.size_toArray, List.length_cons, List.length_nil, Nat.reduceAdd, Nat.reduceSub, Array.replicate_succ, Array.replicate_zero, List.push_toArray, List.append_toArray, List.nil_append, List.cons_append]
  have H := Lib.hid h
  obtain ⟨W0, hW0⟩ : ∃ W0, ((w.alloc (.cells #[.string b] 9)).alloc (.cells #[.int .i64 most] 3)).alloc (.cells #[.slice none 0 0] 22) = W0 := ⟨_, rfl⟩
  have b0 := ((Boxed.new w 9 (.string b)).alloc (.cells #[.int .i64 most] 3)).alloc (.cells #[.slice none 0 0] 22)
  have b1 := (Boxed.new (w.alloc (.cells #[.string b] 9)) 3 (.int .i64 most)).alloc (.cells #[.slice none 0 0] 22)
  have b2 := Boxed.new ((w.alloc (.cells #[.string b] 9)).alloc (.cells #[.int .i64 most] 3)) 22 (.slice none 0 0)
  simp only [World.size_alloc] at b1 b2
  have hB0 : Below w.heap.size w (((w.alloc (.cells #[.string b] 9)).alloc (.cells #[.int .i64 most] 3)).alloc (.cells #[.slice none 0 0] 22)) :=
    ((((Below.refl w.heap.size w).alloc (Nat.le_refl _) _).alloc (by simp) _).alloc (by simp; omega) _)
  have hs0 : W0.heap.size = w.heap.size + 3 := by rw [← hW0]; simp
  rw [hW0] at b0 b1 b2 hB0
  have h0 := h.keep (w' := W0) fun i _ hl => hB0.block i hl
  have c0 := cell_of h0.mem 0
  rw [hat] at c0
  have HC := Lib.hid (since_any (6 - 1) at_ a W0)
  clear h
  gi_wp2
  refine wpIn_wide.2 (wp_scope_straight ((wpIn_wide (n := 6)).1 ?_))
  gi_wp2
  refine wpIn_label ?_
  gi_wp2_with (refine ⟨trivial, ?_⟩; gi_at_call 26; refine HC.out.mono ?_; rintro e w' ⟨rfl, rfl⟩)
  have k0 := (b0.alloc (.cells #[.pointer at_] 42)).alloc (.cells #[.string a] 9)
  have k1 := (b1.alloc (.cells #[.pointer at_] 42)).alloc (.cells #[.string a] 9)
  have k2 := (b2.alloc (.cells #[.pointer at_] 42)).alloc (.cells #[.string a] 9)
  have k3 := (Boxed.new W0 42 (.pointer at_)).alloc (.cells #[.string a] 9)
  have k4 := Boxed.new (W0.alloc (.cells #[.pointer at_] 42)) 9 (.string a)
  rw [World.size_alloc] at k4
  have hB1 : Below w.heap.size w ((W0.alloc (.cells #[.pointer at_] 42)).alloc (.cells #[.string a] 9)) := (hB0.alloc (by omega) _).alloc (by simp; omega) _
  obtain ⟨W1, hW1⟩ : ∃ W1, ((W0.alloc (.cells #[.pointer at_] 42)).alloc (.cells #[.string a] 9)) = W1 := ⟨_, rfl⟩
  have hs1 : W1.heap.size = w.heap.size + 5 := by rw [← hW1]; simp; omega
  rw [hW1] at hB1 k0 k1 k2 k3 k4 ⊢
  rw [hs0] at k3 k4
  have h1 := H.out.keep (w' := W1) fun i _ hl => hB1.block i hl
  clear hW1 hW0 b0 b1 b2 hB0 h0 c0 HC
  refine wpIn_rangeFunc_ownH rfl (by omega) (gf := 31) (lb := #[.pointer (some ⟨w.heap.size + 3, 0, none⟩), .pointer (some ⟨w.heap.size + 3 + 1, 0, none⟩)]) rfl trivial (enters_of Try.func31 (by kernel_rfl) rfl)
    (since_stops _ (by omega) w.heap.size t a W1 (w.heap.size + 3) (w.heap.size + 3 + 1) h1.tree (fun i hi => H.out.tree.lt i hi) (by omega) (by omega) (by omega) (by rw [hat]; exact k3.cell) k4.cell)
    (fun h k => h.trans k) (fun W l o o' hl h hc hw => belowK_b (w := W1) (by omega) W l o o' hl h hc hw) (Below.refl _ _) (fun _ => rfl)
    (I9 w b most) (Ix9 w b most) (i9_own w b most _ (by omega)) (fun c => ix9_own w b most c _ (by omega))
    ⟨⟨(fun q hq => (by cases hq)), (by show ((0 : Nat) : Int) ≤ most; omega)⟩, ⟨_, k2, World.ownsRow_nil _ _ _ _, trivial⟩, k0, k1, hB1⟩
    (Ax9 w.heap.size p at_ a b most) (fun x a' => ax9_own _ _ _ _ _ _ x a' _) ?assign ?body ?done ?stop
  case assign =>
    rintro l pre x W K ⟨hpn, hrow, ht, hmo, hB⟩ hK
    obtain ⟨v, hv, hown, _⟩ := hrow
    dsimp only [encs]
    have hnew := World.alloc_heap_new W (pairO x)
    gi_wp2
    refine hK _ _ ((KeepsOthers.alloc W _).from _) ((Below.refl _ _).alloc hB.size _) ⟨hpn, ⟨v, hv.alloc _, hown.alloc _, trivial⟩, ht.alloc _, hmo.alloc _, hB.alloc hB.size _⟩ ⟨W.heap.size, hB.size, hnew, ?_⟩
    rfl
  case body =>
    rintro l pre x a' W hl hrec ⟨⟨hp, hn⟩, hrow, ht, hmo, hB⟩ ⟨bp, hbp, hx, rfl⟩ hlt
    have hLn : pre.length < 1099511627776 := by
      have h1 : (t.tell a).length ≤ l0.length := by rw [hT]; exact List.length_filter_le ..
      omega
    obtain ⟨v, hv, hown, _⟩ := id hrow
    obtain ⟨A, c, rfl⟩ := row_shape hown
    have hc0 := hv.cell
    have hc1 := ht.cell
    have hc2 := hmo.cell
    have x0 := cell_of hx 0
    have x1 := cell_of hx 1
    have x2 := cell_of hx 2
    have HX := Lib.hid hx
    clear hx hlt
    dsimp only [tmps9]
    by_cases hq : (pre.length : Int) = most
    · have hq2 : ((pre.length : Int) == most) = true := by simpa using hq
      gi_wp2
      exact exit_ok hp hn (.inl hq) hrow hB
    · have hq2 : ((pre.length : Int) == most) = false := by simpa using hq
      have h63 : pre.length + 1 ≤ maxLen := by unfold maxLen; omega
      have hby : (pre.length + 1) * 40 ≤ 140737488355328 := by omega
      have hbas : w.heap.size ≤ (W.alloc (pairO x)).heap.size := by have := hB.size; simp; omega
      have hlt : (pre.length : Int) < most := by omega
      have HO := Lib.hid (hown.alloc (pairO x))
      have HN := Lib.hid (news3 W x)
      have H63 := Lib.hid h63
      have HBY := Lib.hid hby
      have HBAS := Lib.hid hbas
      have HLT := Lib.hid hlt
      clear h63 hby hbas hlt hq
      by_cases hz : b.size = 0
      · have e1 := Mm9.empty_of hz
        have hps : pass b x = true := by unfold pass; rw [decide_eq_true hz]; rfl
        have HPS := Lib.hid hps
        clear hps hz
        gi_wp2_with (gi_at_builtin; refine wpListIn_append_own_at _ rfl _ _ 22 rfl w.heap.size 33 i0 _ 3 40 Try.underlying22 hi hz0 hz1 hz2 rfl (by decide) _ _ _ rfl HO.out ⟨W.heap.size, 0, none⟩ 1 1 (cells3 x) rfl rfl HN.out (one3 x) H63.out HBY.out HBAS.out ?_; intro v2 w2 r1 r2 r3 r4; obtain ⟨g2, cap2, rfl⟩ := ownsRow_succ r1; have hv2 : Boxed w2 (w.heap.size + 1 + 1) 22 (.slice A pre.length c) := (hv.alloc _).kept r2 (hv.not_row (by decide) hown); have hd0 := hv2.cell; have hd1 := hv2.frozen; have HR := Lib.hid (And.intro r1 r2); clear r1 r2 r3 r4)
        exact next_ok hv hown ht hmo hB HR.out.1 HR.out.2 hp HPS.out HLT.out
      · have e1 := Mm9.not_empty_of hz
        cases hl2 : Op.bytesLess x.k.toList b.toList
        · have hps : pass b x = false := by unfold pass lt; rw [decide_eq_false hz, hl2]; rfl
          have HPS := Lib.hid hps
          clear hps hz
          gi_wp2
          exact exit_ok hp hn (.inr HPS.out) hrow hB
        · have hps : pass b x = true := by unfold pass lt; rw [hl2, Bool.or_true]
          have HPS := Lib.hid hps
          clear hps hz
          gi_wp2_with (gi_at_builtin; refine wpListIn_append_own_at _ rfl _ _ 22 rfl w.heap.size 33 i0 _ 3 40 Try.underlying22 hi hz0 hz1 hz2 rfl (by decide) _ _ _ rfl HO.out ⟨W.heap.size, 0, none⟩ 1 1 (cells3 x) rfl rfl HN.out (one3 x) H63.out HBY.out HBAS.out ?_; intro v2 w2 r1 r2 r3 r4; obtain ⟨g2, cap2, rfl⟩ := ownsRow_succ r1; have hv2 : Boxed w2 (w.heap.size + 1 + 1) 22 (.slice A pre.length c) := (hv.alloc _).kept r2 (hv.not_row (by decide) hown); have hd0 := hv2.cell; have hd1 := hv2.frozen; have HR := Lib.hid (And.intro r1 r2); clear r1 r2 r3 r4)
          exact next_ok hv hown ht hmo hB HR.out.1 HR.out.2 hp HPS.out HLT.out
  case done =>
    rintro D xs W hD hxs ⟨⟨hp, hn⟩, hrow, ht, hmo, hB⟩ hK
    obtain ⟨v, hv, hown, _⟩ := hrow
    obtain ⟨A, c, rfl⟩ := row_shape hown
    have hc0 := hv.cell
    have hsc : scan a b most l0 = xs := by rw [hxs] at hp hn ⊢; exact scan_done hT hp hn
    have HSC := Lib.hid hsc
    clear hsc hxs hT
    gi_wp2
    rw [HSC.out, Exit.noGoto_ret]
    exact scan_end (D := D) hown hB hK (by omega) rfl
  case stop =>
    rintro D c pre W hD ⟨R, hpre⟩ ⟨⟨rfl, L, x, rfl, hp, hn, hx⟩, hrow, hB⟩ hK
    rw [List.dropLast_concat] at hrow
    obtain ⟨v, hv, hown, _⟩ := hrow
    obtain ⟨A, c, rfl⟩ := row_shape hown
    have hc0 := hv.cell
    have hsc : scan a b most l0 = L := scan_stop H.out.sorted (by rw [hpre, hT]) hp hn hx
    have HSC := Lib.hid hsc
    clear hsc hpre
    gi_wp2
    rw [HSC.out, Exit.noGoto_ret]
    exact scan_end (D := D) hown hB hK (by omega) rfl
set_option maxRecDepth 20000 in
set_option maxHeartbeats 2000000 in
theorem scan_none {w : World} (q : Option Addr) (a b : ByteArray) (most : Int) (hm : q = none ∨ most < 1) :
    Calls Try.prog 18 #[.pointer q, .string a, .string b, .int .i64 most] w (ScanTo w []) := by
  have hb := ((Below.refl w.heap.size w).alloc (Nat.le_refl _) (.cells #[.string b] 9)).alloc (by simp) (.cells #[.int .i64 most] 3)
  have HB := Lib.hid hb
  clear hb
  go_enter Try.func18, Try.ntmps18
  cases q with
  | none =>
    clear hm
    go_wp2
    refine wp_scope_straight ?_
    go_wp2
    rw [Exit.noGoto_ret]
    go_ret
    exact ⟨none, 0, rfl, World.ownsRow_nil _ _ _ _, HB.out⟩
  | some ad =>
    have h1 : most < 1 := by rcases hm with hm | hm; cases hm; exact hm
    clear hm
    go_wp2
    refine wp_scope_straight ?_
    go_wp2
    rw [Exit.noGoto_ret]
    go_ret
    exact ⟨none, 0, rfl, World.ownsRow_nil _ _ _ _, HB.out⟩
theorem scan_any {w : World} {S : Nat → Prop} {p : Nat} {l : List Pr} {t : Tr} (h : MemAt w S p l t) (hlen : l.length ≤ 1099511627776) (a b : ByteArray) (most : Int) :
    Calls Try.prog 18 #[.pointer (some ⟨p, 0, none⟩), .string a, .string b, .int .i64 most] w (ScanTo w (scan a b most l)) := by
  by_cases hm : 1 ≤ most
  · exact callsIn_wide.1 (scanIn h hlen a b most hm)
  · have e : scan a b most l = [] := by
      unfold scan
      rw [show most.toNat = 0 by omega]
      rfl
    rw [e]
    exact scan_none _ a b most (.inr (by omega))
end Go.Proofs.Ytkbjmbllnnghlaa.Sn9
