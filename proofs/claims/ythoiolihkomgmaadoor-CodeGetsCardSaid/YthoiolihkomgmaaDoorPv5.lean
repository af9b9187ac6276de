/- The bytes of a value behind others: appendValue. -/
import Derived.Test.YthoiolihkomgmaaDoorCm
import Derived.Test.YthoiolihkomgmaaDoorPu5
import Derived.Deep.DrawnRows
import Derived.Deep.RegionLaw
import Derived.Deep.RegionHeld3
import Derived.WalkLawsBesides
namespace Go.Proofs.YthoiolihkomgmaaDoor.Pv5
open Go Go.RowKit Go.Proofs.YthoiolihkomgmaaDoor.Wm Go.Proofs.YthoiolihkomgmaaDoor.Cm Go.Proofs.YthoiolihkomgmaaDoor.Vm Go.Proofs.YthoiolihkomgmaaDoor.Pu5
theorem step_append_str {ops : Array Oper} {o : Oper} {a : Act} {w : World} {K : Act → World → Prop} {Q : Exit → Act → World → Prop} {E : Prop}
    (hg : o.guard = none) (sl x : Operand) (hop : o.op = Op.call { callee := Callee.builtin Builtin.append, args := #[sl, x], argTypes := #[46, 9] })
    {B : Nat} {v : Value} {l m : List UInt8} (hs : a.eval sl = v) (hx : a.eval x = .string (bs m)) (h : Buf w B v l) (hlen : l.length + m.length ≤ 100000)
    (hK : ∀ v' w', Buf w' B v' (l ++ m) → w.grownBy w' v.ownBlock → Moved w v v' → K (a.put o.dst v') w') :
    (if Region.wanted o (yielded ops a.tmps) then o.wp Tryd.prog a w K Q else E) := by
  obtain ⟨v', w', hr, h2, h3, h4⟩ := run_append_str h m hlen o.type
  rw [if_pos (by simp [Region.wanted, hg])]
  unfold Oper.wp execOp
  simp only [hop, resolve, invoke, builtin, Sem.run_bind, Sem.run_pure, Result.andThen_ok, List.map_toArray, List.map_cons, List.map_nil, hs, hx, hr]
  exact hK _ _ h2 h3 h4
/-- A value of four cells that the call has made stays. -/
def Box (w : World) (b : Nat) (k n : Int) (r : Int) (t : ByteArray) : Prop := w.heap[b]? = some (.cells #[.int .u8 k, .int .i64 n, .int .u64 r, .string t] 24 (0, 0))
theorem Box.cells {w : World} {b : Nat} {k n r : Int} {t : ByteArray} (h : Box w b k n r t) : w.cell? ⟨b, 0, none⟩ = some (.int .u8 k) ∧ w.cell? ⟨b, 1, none⟩ = some (.int .i64 n) ∧ w.cell? ⟨b, 2, none⟩ = some (.int .u64 r) ∧ w.cell? ⟨b, 3, none⟩ = some (.string t) := by
  unfold Box at h
  simp [World.cell?, h]
theorem Box.new (w : World) (k n r : Int) (t : ByteArray) : Box (w.alloc (.cells #[.int .u8 k, .int .i64 n, .int .u64 r, .string t] 24)) w.heap.size k n r t := heap_alloc_new w _
theorem Box.grown {w w1 : World} {b : Nat} {k n r : Int} {t : ByteArray} (h : Box w b k n r t) {u : Value} (hg : w.grownBy w1 u.ownBlock) (hu : u.ownBlock ≠ some b) : Box w1 b k n r t :=
  (hg.block b (lt_of_block h) (fun e => hu e.symm)).trans h
theorem apart {w : World} {u : Value} {B : Nat} {l : List UInt8} (h : Buf w B u l) : u.ownBlock ≠ some w.heap.size := fun e => by have := h.small _ e; omega
theorem Box.apart {w : World} {b : Nat} {k n r : Int} {t : ByteArray} (h : Box w b k n r t) {u v : Value} (hu : u.ownBlock ≠ some b) (hm : Moved w u v) : v.ownBlock ≠ some b := fun e => by
  rcases hm.at _ e with e' | e'
  · exact hu e'
  · have := lt_of_block h; omega
theorem two {w W w1 w2 : World} {o : Obj} {u v1 v2 : Value} (hW : W = w.alloc o) (g1 : W.grownBy w1 u.ownBlock) (m1 : Moved W u v1) (g2 : w1.grownBy w2 v1.ownBlock) (m2 : Moved w1 v1 v2) : w.grownBy w2 u.ownBlock ∧ Moved w u v2 := by
  subst hW
  have b : w.grownBy (w.alloc o) u.ownBlock := grown_of ((Below.refl _ w).alloc (Nat.le_refl _) _) _
  refine ⟨grown_trans b (grown_trans g1 g2 m1.at) (fun x hx => .inl hx), ?_⟩
  rcases m1.trans m2 g1.size with e | ⟨g, e1, e2⟩
  · exact .inl e
  · exact .inr ⟨g, e1, Nat.le_trans b.size e2⟩
theorem undrew {w1 w2 : World} {r : Option Nat} (h : w1.drew.grownBy w2 r) : w1.grownBy w2 r := ⟨h.os, h.tape, h.output, h.size, h.block⟩
theorem three_app (a b c d : List UInt8) : a ++ b ++ c ++ d = a ++ (b ++ (c ++ d)) := by simp
/-- Back to the world ahead of the box. -/
theorem back {w W w2 : World} {o : Obj} {r : Option Nat} (hW : W = w.alloc o) (h : W.grownBy w2 r) : w.grownBy w2 r := by
  subst hW
  exact grown_trans (grown_of ((Below.refl _ w).alloc (Nat.le_refl _) _) r) h (fun x hx => .inl hx)
set_option maxRecDepth 20000 in
theorem v_null {w : World} {B : Nat} {u : Value} {l : List UInt8} (h : Buf w B u l) (hl : l.length ≤ 80000) :
    Calls Tryd.prog 22 #[u, .agg #[.int .u8 0, .int .i64 0, .int .u64 0, .string ⟨#[]⟩]] w (Grew w B u (l ++ putN 0 1)) := by
  have H := Lib.hid (h.alloc (.cells #[.int .u8 0, .int .i64 0, .int .u64 0, .string ⟨#[]⟩] 24)); have HL := Lib.hid hl
  have X := Lib.hid (Box.new w 0 0 0 ⟨#[]⟩)
  have A := Lib.hid (Pv5.apart h)
  clear h hl
  go_enter Tryd.func22, Tryd.ntmps22
  go_wp2_with (go_at_call 24; refine (number_any H.out 0 1 (by omega) (by omega) (by omega) (by have := HL.out; omega)).mono ?_; rintro e w1 ⟨v1, rfl, hb1, hg1, hm1⟩; have H1 := Lib.hid hb1; have G1 := Lib.hid hg1; have M1 := Lib.hid hm1; have X1 := Lib.hid (X.out.grown hg1 A.out); have A1 := Lib.hid (X.out.apart A.out hm1); obtain ⟨c0, c1, c2, c3⟩ := X1.out.cells; clear hb1 hg1 hm1)
  go_ret
  refine ⟨v1, rfl, H1.out, back rfl G1.out, ?_⟩
  rcases M1.out with e | ⟨g, e1, e2⟩
  · exact .inl e
  · exact .inr ⟨g, e1, Nat.le_trans (by simp) e2⟩
set_option maxRecDepth 20000 in
theorem v_bool {w : World} {B : Nat} {u : Value} {l : List UInt8} (h : Buf w B u l) (hl : l.length ≤ 80000) (n : Int) (V : Nat) (hn : IntKind.u64.wrap n = (V : Int)) (hV : V < 256 ^ 1) :
    Calls Tryd.prog 22 #[u, .agg #[.int .u8 1, .int .i64 n, .int .u64 0, .string ⟨#[]⟩]] w (Grew w B u (l ++ (putN 1 1 ++ putN V 1))) := by
  have H := Lib.hid (h.alloc (.cells #[.int .u8 1, .int .i64 n, .int .u64 0, .string ⟨#[]⟩] 24)); have HL := Lib.hid hl
  have X := Lib.hid (Box.new w 1 n 0 ⟨#[]⟩)
  have A := Lib.hid (Pv5.apart h)
  have C1 := number1k 1 1 rfl (by omega)
  have C2 := number1 V hV
  clear h hl hV
  go_enter Tryd.func22, Tryd.ntmps22
  go_wp2_with (first
    | (go_at_call 24; (with_reducible refine (C1.out _ _ _ _ H (by have := HL.out; omega)).mono ?_); clear C1; rintro e w1 ⟨v1, rfl, hb1, hg1, hm1⟩; have H1 := Lib.hid hb1; have G1 := Lib.hid hg1; have M1 := Lib.hid hm1; obtain ⟨c0, c1, c2, c3⟩ := (X.out.grown hg1 A.out).cells; clear hb1 hg1 hm1)
    | (go_at_call 24; (with_reducible refine (C2.out _ _ _ _ H1 (by simp only [List.length_append, putN_length]; have := HL.out; omega)).mono ?_); rintro e w2 ⟨v2, rfl, hb2, hg2, hm2⟩; have H2 := Lib.hid hb2; have G2 := Lib.hid hg2; have M2 := Lib.hid hm2; clear hb2 hg2 hm2))
  go_ret
  exact ⟨v2, rfl, List.append_assoc _ _ _ ▸ H2.out, two rfl G1.out M1.out G2.out M2.out⟩
set_option maxRecDepth 20000 in
theorem v_int {w : World} {B : Nat} {u : Value} {l : List UInt8} (h : Buf w B u l) (hl : l.length ≤ 80000) (n : Int) (V : Nat) (hn : IntKind.u64.wrap n = (V : Int)) (hV : V < 256 ^ 8) :
    Calls Tryd.prog 22 #[u, .agg #[.int .u8 2, .int .i64 n, .int .u64 0, .string ⟨#[]⟩]] w (Grew w B u (l ++ (putN 2 1 ++ putN V 8))) := by
  have H := Lib.hid (h.alloc (.cells #[.int .u8 2, .int .i64 n, .int .u64 0, .string ⟨#[]⟩] 24)); have HL := Lib.hid hl
  have X := Lib.hid (Box.new w 2 n 0 ⟨#[]⟩)
  have A := Lib.hid (Pv5.apart h)
  have C1 := number1k 2 2 rfl (by omega)
  have C2 := number8 V hV
  clear h hl hV
  go_enter Tryd.func22, Tryd.ntmps22
  go_wp2_with (first
    | (go_at_call 24; (with_reducible refine (C1.out _ _ _ _ H (by have := HL.out; omega)).mono ?_); clear C1; rintro e w1 ⟨v1, rfl, hb1, hg1, hm1⟩; have H1 := Lib.hid hb1; have G1 := Lib.hid hg1; have M1 := Lib.hid hm1; obtain ⟨c0, c1, c2, c3⟩ := (X.out.grown hg1 A.out).cells; clear hb1 hg1 hm1)
    | (go_at_call 24; (with_reducible refine (C2.out _ _ _ _ H1 (by simp only [List.length_append, putN_length]; have := HL.out; omega)).mono ?_); rintro e w2 ⟨v2, rfl, hb2, hg2, hm2⟩; have H2 := Lib.hid hb2; have G2 := Lib.hid hg2; have M2 := Lib.hid hm2; clear hb2 hg2 hm2))
  go_ret
  exact ⟨v2, rfl, List.append_assoc _ _ _ ▸ H2.out, two rfl G1.out M1.out G2.out M2.out⟩
set_option maxRecDepth 20000 in
theorem v_real {w : World} {B : Nat} {u : Value} {l : List UInt8} (h : Buf w B u l) (hl : l.length ≤ 80000) (V : Nat) (hV : V < 256 ^ 8) :
    Calls Tryd.prog 22 #[u, .agg #[.int .u8 3, .int .i64 0, .int .u64 (V : Int), .string ⟨#[]⟩]] w (Grew w B u (l ++ (putN 3 1 ++ putN V 8))) := by
  have H := Lib.hid (h.alloc (.cells #[.int .u8 3, .int .i64 0, .int .u64 (V : Int), .string ⟨#[]⟩] 24)); have HL := Lib.hid hl
  have X := Lib.hid (Box.new w 3 0 (V : Int) ⟨#[]⟩)
  have A := Lib.hid (Pv5.apart h)
  have C1 := number1k 3 3 rfl (by omega)
  have C2 := number8 V hV
  clear h hl hV
  go_enter Tryd.func22, Tryd.ntmps22
  go_wp2_with (first
    | (go_at_call 24; (with_reducible refine (C1.out _ _ _ _ H (by have := HL.out; omega)).mono ?_); clear C1; rintro e w1 ⟨v1, rfl, hb1, hg1, hm1⟩; have H1 := Lib.hid hb1; have G1 := Lib.hid hg1; have M1 := Lib.hid hm1; obtain ⟨c0, c1, c2, c3⟩ := (X.out.grown hg1 A.out).cells; clear hb1 hg1 hm1)
    | (go_at_call 24; (with_reducible refine (C2.out _ _ _ _ H1 (by simp only [List.length_append, putN_length]; have := HL.out; omega)).mono ?_); rintro e w2 ⟨v2, rfl, hb2, hg2, hm2⟩; have H2 := Lib.hid hb2; have G2 := Lib.hid hg2; have M2 := Lib.hid hm2; clear hb2 hg2 hm2))
  go_ret
  exact ⟨v2, rfl, List.append_assoc _ _ _ ▸ H2.out, two rfl G1.out M1.out G2.out M2.out⟩
attribute [local go_sem ↓] Go.wp_at_zero Go.wp_at_succ
set_option maxRecDepth 20000 in
theorem v_bytes {w : World} {B : Nat} {u : Value} {l : List UInt8} (h : Buf w B u l) (hl : l.length ≤ 80000) (t : ByteArray) (ht : t.size ≤ 100) :
    Calls Tryd.prog 22 #[u, .agg #[.int .u8 4, .int .i64 0, .int .u64 0, .string t]] w (Grew w B u (l ++ (putN 4 1 ++ (putN t.size 1 ++ t.data.toList)))) := by
  have H := Lib.hid (h.alloc (.cells #[.int .u8 4, .int .i64 0, .int .u64 0, .string t] 24)); have HL := Lib.hid hl; have HT := Lib.hid ht
  have X := Lib.hid (Box.new w 4 0 0 t)
  have A := Lib.hid (Pv5.apart h)
  have C1 := number1k 4 4 rfl (by omega)
  have C2 := number1 t.size (by omega)
  have hw : IntKind.u64.wrap (t.size : Int) = (t.size : Int) := wrap_u64_small _ (by omega)
  clear h hl ht
  go_enter Tryd.func22, Tryd.ntmps22
  go_wp2_with (
    (go_at_call 24; (with_reducible refine (C1.out _ _ _ _ H (by have := HL.out; omega)).mono ?_); clear C1; rintro e w1 ⟨v1, rfl, hb1, hg1, hm1⟩; have H1 := Lib.hid (hb1.keep (Below.refl _ w1).drew); have G1 := Lib.hid hg1; have M1 := Lib.hid hm1; have X1 := Lib.hid (X.out.grown hg1 A.out); have A1 := Lib.hid (X.out.apart A.out hm1); obtain ⟨c0, c1, c2, c3⟩ := X1.out.cells; have XD : Hid (Box w1.drew w.heap.size 4 0 0 t) := X1; clear hb1 hg1 hm1))
  clear c1 c2
  go_region_held3 (fun W => W.cell? ⟨w.heap.size, 3, none⟩ = some (.string t)) (go_keep) (first
    | (go_at_call 24; (with_reducible refine (C2.out _ _ _ _ H1 (by simp only [List.length_append, putN_length]; have := HL.out; omega)).mono ?_); rintro e w2 ⟨v2, rfl, hb2, hg2, hm2⟩; have H2 := Lib.hid hb2; have G2 := Lib.hid hg2; have M2 := Lib.hid hm2; have X2 := Lib.hid (XD.out.grown hg2 A1.out); have A2 := Lib.hid (XD.out.apart A1.out hm2); have c4 := X2.out.cells.2.2.2; clear hb2 hg2 hm2)
    | (refine step_append_str rfl _ _ rfl (m := t.data.toList) rfl rfl H2.out (by simp only [List.length_append, putN_length]; have := HL.out; have := HT.out; have : t.data.toList.length = t.size := Array.length_toList; omega) ?_; intro v3 w3 hb3 hg3 hm3; have H3 := Lib.hid hb3; have G3 := Lib.hid hg3; have M3 := Lib.hid hm3; have c5 := (X2.out.grown hg3 A2.out).cells.2.2.2; clear hb3 hg3 hm3))
  all_goals
    go_wp2
    go_ret
    refine ⟨v3, rfl, three_app _ _ _ _ ▸ H3.out, ?_⟩
    have t2 := two rfl G1.out M1.out (undrew G2.out) M2.out
    exact ⟨grown_trans t2.1 G3.out t2.2.at, t2.2.trans M3.out t2.1.size⟩
set_option maxRecDepth 20000 in
theorem v_string {w : World} {B : Nat} {u : Value} {l : List UInt8} (h : Buf w B u l) (hl : l.length ≤ 80000) (t : ByteArray) (ht : t.size ≤ 100) :
    Calls Tryd.prog 22 #[u, .agg #[.int .u8 5, .int .i64 0, .int .u64 0, .string t]] w (Grew w B u (l ++ (putN 5 1 ++ (putN t.size 1 ++ t.data.toList)))) := by
  have H := Lib.hid (h.alloc (.cells #[.int .u8 5, .int .i64 0, .int .u64 0, .string t] 24)); have HL := Lib.hid hl; have HT := Lib.hid ht
  have X := Lib.hid (Box.new w 5 0 0 t)
  have A := Lib.hid (Pv5.apart h)
  have C1 := number1k 5 5 rfl (by omega)
  have C2 := number1 t.size (by omega)
  have hw : IntKind.u64.wrap (t.size : Int) = (t.size : Int) := wrap_u64_small _ (by omega)
  clear h hl ht
  go_enter Tryd.func22, Tryd.ntmps22
  go_wp2_with (
    (go_at_call 24; (with_reducible refine (C1.out _ _ _ _ H (by have := HL.out; omega)).mono ?_); clear C1; rintro e w1 ⟨v1, rfl, hb1, hg1, hm1⟩; have H1 := Lib.hid (hb1.keep (Below.refl _ w1).drew); have G1 := Lib.hid hg1; have M1 := Lib.hid hm1; have X1 := Lib.hid (X.out.grown hg1 A.out); have A1 := Lib.hid (X.out.apart A.out hm1); obtain ⟨c0, c1, c2, c3⟩ := X1.out.cells; have XD : Hid (Box w1.drew w.heap.size 5 0 0 t) := X1; clear hb1 hg1 hm1))
  clear c1 c2
  go_region_held3 (fun W => W.cell? ⟨w.heap.size, 3, none⟩ = some (.string t)) (go_keep) (first
    | (go_at_call 24; (with_reducible refine (C2.out _ _ _ _ H1 (by simp only [List.length_append, putN_length]; have := HL.out; omega)).mono ?_); rintro e w2 ⟨v2, rfl, hb2, hg2, hm2⟩; have H2 := Lib.hid hb2; have G2 := Lib.hid hg2; have M2 := Lib.hid hm2; have X2 := Lib.hid (XD.out.grown hg2 A1.out); have A2 := Lib.hid (XD.out.apart A1.out hm2); have c4 := X2.out.cells.2.2.2; clear hb2 hg2 hm2)
    | (refine step_append_str rfl _ _ rfl (m := t.data.toList) rfl rfl H2.out (by simp only [List.length_append, putN_length]; have := HL.out; have := HT.out; have : t.data.toList.length = t.size := Array.length_toList; omega) ?_; intro v3 w3 hb3 hg3 hm3; have H3 := Lib.hid hb3; have G3 := Lib.hid hg3; have M3 := Lib.hid hm3; have c5 := (X2.out.grown hg3 A2.out).cells.2.2.2; clear hb3 hg3 hm3))
  all_goals
    go_wp2
    go_ret
    refine ⟨v3, rfl, three_app _ _ _ _ ▸ H3.out, ?_⟩
    have t2 := two rfl G1.out M1.out (undrew G2.out) M2.out
    exact ⟨grown_trans t2.1 G3.out t2.2.at, t2.2.trans M3.out t2.1.size⟩
theorem k64 (k : Nat) (h : k < 18446744073709551616) : u64 (k : Int) = k := by unfold u64; omega
/-- What appendValue appends of a value that may be. -/
theorem value_any {v : V} (hv : Is v) {w : World} {B : Nat} {u : Value} {l : List UInt8} (h : Buf w B u l) (hl : l.length ≤ 80000) (hr : v.r < 18446744073709551616) :
    Calls Tryd.prog 22 #[u, vv v] w (Grew w B u (l ++ put v)) := by
  cases hv with
  | null => exact v_null h hl
  | bool n hn => exact v_bool h hl n (u64 n) (wrap_u64 n) (by rcases hn with rfl | rfl <;> decide)
  | int n => exact v_int h hl n (u64 n) (wrap_u64 n) (u64_lt n)
  | real r hc => exact v_real h hl r hr
  | bytes s hs => exact v_bytes h hl s hs
  | string s hs hu => exact v_string h hl s hs
end Go.Proofs.YthoiolihkomgmaaDoor.Pv5
