/- run's pairs: what it hands back goes through the spots, reads each, and at last says why one can't be read. -/
import Derived.Test.YtmnaamjoikfpbaaGe10
import Derived.Test.YtmnaamjoikfpbaaFb2
namespace Go.Proofs.Ytmnaamjoikfpbaa.It10
open Go Go.RowKit Go.Shelf Go.Proofs Go.Proofs.Ytmnaamjoikfpbaa.Dh Go.Proofs.Ytmnaamjoikfpbaa.St Go.Proofs.Ytmnaamjoikfpbaa.Fl7 Go.Proofs.Ytmnaamjoikfpbaa.Pm9 Go.Proofs.Ytmnaamjoikfpbaa.Mt9 Go.Proofs.Ytmnaamjoikfpbaa.Mg9 Go.Proofs.Ytmnaamjoikfpbaa.Fd10 Go.Proofs.Ytmnaamjoikfpbaa.So10 Go.Proofs.Ytmnaamjoikfpbaa.On10 Go.Proofs.Ytmnaamjoikfpbaa.Pc10 Go.Proofs.Ytmnaamjoikfpbaa.Re10
attribute [local go_sem] Oper.semAt_some
/-- What is handed over of m spots from i on. -/
def seqR (Bt : List UInt8) (L : List Pr) : Nat → Nat → List (Pr × Int)
  | _, 0 => []
  | i, m + 1 => got Bt L i :: (if fine Bt L i then seqR Bt L (i + 1) m else [])
theorem seqR_ok {Bt : List UInt8} {L : List Pr} {i m : Nat} (h : fine Bt L i = true) : seqR Bt L i (m + 1) = got Bt L i :: seqR Bt L (i + 1) m := by rw [seqR, h]; rfl
theorem seqR_bad {Bt : List UInt8} {L : List Pr} {i m : Nat} (h : fine Bt L i = false) : seqR Bt L i (m + 1) = [got Bt L i] := by rw [seqR, h]; rfl
theorem seqR_len (Bt : List UInt8) (L : List Pr) : ∀ (m i : Nat), (seqR Bt L i m).length ≤ m
  | 0, _ => Nat.le_refl _
  | m + 1, i => by
    rw [seqR, List.length_cons]
    split
    · have := seqR_len Bt L m (i + 1); omega
    · simp
/-- What is handed over, as it is handed over. -/
def encs (x : Pr × Int) : Array Value := #[.agg #[.string x.1.k, .string x.1.v, .bool x.1.g], .int .i64 x.2]
/-- What a round leaves as it was: all below n0, and the box of the run. -/
def Kp (n0 b2 q : Nat) (W W' : World) : Prop := Below n0 W W' ∧ (Boxed W b2 35 (.pointer (some ⟨q, 0, none⟩)) → Boxed W' b2 35 (.pointer (some ⟨q, 0, none⟩)))
theorem kp_trans {n0 b2 q : Nat} {A B C : World} (h : Kp n0 b2 q A B) (k : Kp n0 b2 q B C) : Kp n0 b2 q A C := ⟨h.1.trans k.1, fun x => k.2 (h.2 x)⟩
theorem box_keep {W W' : World} {B : Nat} {t : TypeId} {v : Value} (h : Boxed W B t v) (hb : Below W.heap.size W W') : Boxed W' B t v := h.kept (Ft7.grown_of_below hb) (by simp)
/-- pairs(spots): the row and the run are boxed, the function value has the boxes. -/
theorem pairs_any (n : Nat) (q : Nat) (v : Value) (A : Option Addr) (m c : Nat) (hv : v = .slice A m c) (w : World) :
    CallsIn Fence.wide n Try.prog 38 #[.pointer (some ⟨q, 0, none⟩), v] w fun e w' => e = .returned (.func (.func 57) #[] #[.pointer (some ⟨w.heap.size + 1, 0, none⟩), .pointer (some ⟨w.heap.size, 0, none⟩)]) ∧
      w' = (w.alloc (.cells #[.pointer (some ⟨q, 0, none⟩)] 35)).alloc (.cells #[v] 77) := by
  subst hv
  refine callsIn_of_wp Try.func38 rfl trivial ?_ rfl
  simp only [Try.ntmps38, List.size_toArray, List.length_cons, List.length_nil, Nat.reduceAdd, Nat.reduceSub, Array.replicate_succ, Array.replicate_zero, List.push_toArray, List.append_toArray, List.nil_append, List.cons_append]
  gi_wp2
  go_ret
  exact ⟨rfl, rfl⟩
set_option maxRecDepth 100000 in
set_option maxHeartbeats 4000000 in
theorem pairs1_in (n : Nat) (hn : 1 ≤ n) (l b1 b2 n0 : Nat) {S : Nat → Prop} {B q p : Nat} {nm : ByteArray} {L : List Pr} {g c : Nat} {D : St} {Bt : List UInt8} (A' : Option Addr) (c' s m : Nat) (hA : m ≠ 0 → A' = some ⟨g, s * 3, none⟩) (hsm : s + m ≤ L.length) (hlen : L.length ≤ 1000000)
    (hL : (rb L).length ≤ 16777216) (hmay : ∀ x ∈ L, may x = true) (J Jx : List (Pr × Int) → World → Prop) (B0 : Nat) (hJ : AbidesFrom B0 J)
    (hY : ∀ pre x W, J pre W → pre.length < (seqR Bt L s m).length → YieldAt Fence.wide (n - 1) Try.prog l (encs x) W fun e W' =>
      (e = .returned (.bool true) ∧ J (pre ++ [x]) W' ∧ Kp n0 b2 q W W') ∨ (e = .returned (.bool false) ∧ Jx (pre ++ [x]) W'))
    (W : World) (hn0 : n0 ≤ W.heap.size) (hsrc : ∀ V, Below n0 W V → RunAt V B q p nm L (some ⟨g, 0, none⟩) c ∧ FileAt V S p D nm Bt) (h1 : W.cell? ⟨b1, 0, none⟩ = some (.slice A' m c')) (h2 : Boxed W b2 35 (.pointer (some ⟨q, 0, none⟩))) (h0 : J [] W) :
    CallsIn Fence.wide n Try.prog 57 #[.func (.yield l) #[] #[], .pointer (some ⟨b1, 0, none⟩), .pointer (some ⟨b2, 0, none⟩)] W fun e W' => (∃ v, e = .returned v) ∧
      ((∃ ys, ys = seqR Bt L s m ∧ J ys W') ∨ (∃ pre, pre <+: seqR Bt L s m ∧ Jx pre W')) := by
  have HY := Lib.hid hY
  have HSR := Lib.hid hsrc
  have HM := Lib.hid hmay
  have HLn := Lib.hid hL
  have HL0 := Lib.hid hlen
  have H0 := Lib.hid h0
  have H2 := Lib.hid h2
  have HA := Lib.hid hA
  clear hY hsrc hmay hL h0 h2 hA
  refine callsIn_of_wp Try.func57 rfl trivial ?_ rfl
  simp only [Try.ntmps57, List.size_toArray, List.length_cons, List.length_nil, Nat.reduceAdd, Nat.reduceSub, Array.replicate_succ, Array.replicate_zero, List.push_toArray, List.append_toArray, List.nil_append, List.cons_append]
  gi_wp2
  gi_loopw [5, 6, 7, 10, 11, 12, 13, 14, 15, 16, 17, 18, 19, 20, 21, 22, 23, 24, 25, 26, 27, 28, 29] (fun _ _ _ i _ _ _ _ _ _ _ _ _ _ _ _ _ _ _ _ _ _ _ wr => ∃ (pre : List (Pr × Int)) (k : Nat), k ≤ m ∧ i = .int .i64 k ∧ Hid (seqR Bt L s m = pre ++ seqR Bt L (s + k) (m - k)) ∧ Hid (J pre wr) ∧ Hid (Below n0 W wr ∧ Boxed wr b2 35 (.pointer (some ⟨q, 0, none⟩))))
    (fun _ _ _ i _ _ _ _ _ _ _ _ _ _ _ _ _ _ _ _ _ _ _ _ => m - (intOf i).toNat)
  case atStart => exact ⟨[], 0, by omega, rfl, Lib.hid rfl, H0, Lib.hid ⟨Below.refl _ _, H2.out⟩⟩
  case round =>
    obtain ⟨pre, k, hk, rfl, hx, hJs, hB⟩ := hrel
    by_cases hlt : k < m
    · have hil : s + k < L.length := by omega
      obtain rfl := HA.out (by omega)
      have hbr := hB.out.1
      have hbx := hB.out.2
      have hw0 : n0 ≤ wr.heap.size := by have := hbr.size; omega
      obtain ⟨hrun, hfil⟩ := HSR.out wr hbr
      obtain ⟨bb, oo, he, _, p0, p1, p2⟩ := spot_at hrun.row hil
      cases he
      have haddr : ∀ j, (⟨g, 0 + (s + k) * 3 + j, none⟩ : Addr) = ⟨g, s * 3 + k * 3 + j, none⟩ := fun j => by congr 1; omega
      have p0' : wr.cell? ⟨g, s * 3 + k * 3, none⟩ = some (.string L[s + k].k) := by have := haddr 0; simp only [Nat.add_zero] at this; rw [← this]; exact p0
      have p1' : wr.cell? ⟨g, s * 3 + k * 3 + 1, none⟩ = some (.int .i64 (plc L (s + k) : Nat)) := by rw [← haddr 1]; exact p1
      have p2' : wr.cell? ⟨g, s * 3 + k * 3 + 2, none⟩ = some (.string (bs (fr (tx L[s + k])))) := by rw [← haddr 2]; exact p2
      obtain ⟨Wb, hWb⟩ : ∃ Wb, Wb = wr.alloc (.cells #[.string L[s + k].k, .int .i64 (plc L (s + k) : Nat), .string (bs (fr (tx L[s + k])))] 84) := ⟨_, rfl⟩
      have hbb : Below n0 W Wb := by rw [hWb]; exact hbr.alloc hw0 _
      obtain ⟨hrun2, hfil2⟩ := HSR.out Wb hbb
      have hRd := read_any hrun2 hfil2 HLn.out (s + k) hil (HM.out _ (List.getElem_mem hil))
      have hbx2 : Boxed Wb b2 35 (.pointer (some ⟨q, 0, none⟩)) := by rw [hWb]; exact hbx.alloc _
      have c2 := hbx2.cell
      have hJb : J pre Wb := by rw [hWb]; exact hJ pre wr _ none hJs.out (World.grownBy_alloc wr _ none) (fun r h => by cases h)
      have hseq : seqR Bt L (s + k) (m - k) = got Bt L (s + k) :: (if fine Bt L (s + k) then seqR Bt L (s + (k + 1)) (m - (k + 1)) else []) := by
        rw [show m - k = (m - (k + 1)) + 1 by omega, seqR, Nat.add_assoc]
      have hpl : pre.length < (seqR Bt L s m).length := by rw [hx.out, List.length_append, hseq]; simp
      obtain ⟨xk, hxk⟩ : ∃ xk, xk = L[s + k].k := ⟨_, rfl⟩
      obtain ⟨O, hO⟩ : ∃ O : Int, O = (plc L (s + k) : Nat) := ⟨_, rfl⟩
      obtain ⟨f, hf⟩ : ∃ f, f = bs (fr (tx L[s + k])) := ⟨_, rfl⟩
      rw [← hxk] at p0' hRd hWb
      rw [← hO] at p1' hRd hWb
      rw [← hf] at p2' hRd hWb
      obtain ⟨y, hy⟩ : ∃ y, y = got Bt L (s + k) := ⟨_, rfl⟩
      have hyf : fine Bt L (s + k) = true → y.2 = 0 := fun h => by rw [hy, got_fine hil h]
      have hyb : fine Bt L (s + k) = false → y.2 = 71 := fun h => by rw [hy, got_bad h]
      rw [← hy] at hRd hseq
      obtain ⟨⟨yk, yv, yg⟩, er⟩ := y
      dsimp only at hRd hyf hyb
      have HC := Lib.hid hRd
      have HSQ := Lib.hid hseq
      have HYF := Lib.hid hyf
      have HYB := Lib.hid hyb
      have HPL := Lib.hid hpl
      have HWb := Lib.hid hWb
      have HJb := Lib.hid hJb
      have HBb := Lib.hid (And.intro hbb hbx2)
      have HW0 := Lib.hid hw0
      rw [hWb] at c2
      clear p0 p1 p2 hrun hfil hrun2 hfil2 hbr hbx hbb hbx2 hJb hseq hpl hxk hO hf hy hyf hyb hRd hil hWb hw0 haddr hB hJs
      gi_wp2_with (refine ⟨trivial, ?_⟩; gi_at_call 36; rw [← HWb.out]; refine (callsIn_wide.2 HC.out).mono ?_; rintro e w1 ⟨rfl, hb1⟩)
      have hb3 : Below Wb.heap.size Wb (w1.alloc (.cells #[.string yk, .string yv, .bool yg] 39)) := hb1.alloc hb1.size _
      have hJ1 : J pre w1 := hJ pre Wb w1 none HJb.out (Ft7.grown_of_below hb1) (fun r h => by cases h)
      have hJ3 : J pre (w1.alloc (.cells #[.string yk, .string yv, .bool yg] 39)) := hJ pre w1 _ none hJ1 (World.grownBy_alloc w1 _ none) (fun r h => by cases h)
      have hwb : n0 ≤ Wb.heap.size := by have := HBb.out.1.size; omega
      have HB3 := Lib.hid (And.intro (HBb.out.1.trans (hb3.mono hwb)) (box_keep HBb.out.2 hb3))
      obtain ⟨fn, tmps, assign, body, hy, hR⟩ := HY.out pre ⟨⟨yk, yv, yg⟩, er⟩ _ hJ3 HPL.out
      dsimp only [encs] at hy
      have HR := Lib.hid hR
      clear hb1 hb3 hJ1 hJ3 hwb hR
      rw [hy]
      gi_wp2
      refine HR.out.mono ?_
      rintro e W4 (⟨rfl, hJ4, hK4⟩ | ⟨rfl, hJx4⟩)
      · have hB4 : Below n0 W W4 ∧ Boxed W4 b2 35 (.pointer (some ⟨q, 0, none⟩)) := ⟨HB3.out.1.trans hK4.1, hK4.2 HB3.out.2⟩
        have HB4 := Lib.hid hB4
        have HJ4 := Lib.hid hJ4
        cases hf : fine Bt L (s + k)
        · have he := HYB.out hf
          have hne : (er != 0) = true := by rw [he]; rfl
          have hfin : seqR Bt L s m = pre ++ [((⟨yk, yv, yg⟩ : Pr), er)] := by rw [hx.out, HSQ.out, hf]; rfl
          have HFN := Lib.hid hfin
          clear he hf hfin hx hB4 hJ4 hK4
          gi_wp2
          refine bodyPost_ret (results_none rfl _ _ _) rfl ?_
          exact ⟨⟨_, rfl⟩, .inl ⟨_, HFN.out.symm, HJ4.out⟩⟩
        · have he := HYF.out hf
          have hne : (er != 0) = false := by rw [he]; rfl
          have hfin : seqR Bt L s m = (pre ++ [((⟨yk, yv, yg⟩ : Pr), er)]) ++ seqR Bt L (s + (k + 1)) (m - (k + 1)) := by rw [hx.out, HSQ.out, hf, List.append_assoc]; rfl
          have HFN := Lib.hid hfin
          clear he hf hfin hx hB4 hJ4 hK4
          gi_wp2
          exact ⟨⟨pre ++ [(⟨yk, yv, yg⟩, er)], k + 1, by omega, by go_num, HFN, HJ4, HB4⟩, by simp [intOf]; omega⟩
      · have hpre : pre ++ [((⟨yk, yv, yg⟩ : Pr), er)] <+: seqR Bt L s m := by
          rw [hx.out, HSQ.out]
          exact ⟨if fine Bt L (s + k) then seqR Bt L (s + (k + 1)) (m - (k + 1)) else [], by rw [List.append_assoc]; rfl⟩
        have HP := Lib.hid hpre
        have HX4 := Lib.hid hJx4
        clear hpre hx hJx4
        gi_wp2
        refine bodyPost_ret (results_none rfl _ _ _) rfl ?_
        exact ⟨⟨_, rfl⟩, .inr ⟨_, HP.out, HX4.out⟩⟩
    · obtain rfl : k = m := by omega
      have hfin : seqR Bt L s k = pre := by rw [hx.out, Nat.sub_self, seqR, List.append_nil]
      have HFN := Lib.hid hfin
      clear hfin hx
      gi_wp2
      go_end0
      exact ⟨⟨_, rfl⟩, .inl ⟨pre, HFN.out.symm, hJs.out⟩⟩
/-- What pairs hands back, as the law of a range over a function asks for it. -/
theorem pairs_stops (n : Nat) (hn : 1 ≤ n) (b1 b2 n0 : Nat) {S : Nat → Prop} {B q p : Nat} {nm : ByteArray} {L : List Pr} {g c : Nat} {D : St} {Bt : List UInt8} (A' : Option Addr) (c' s m : Nat) (hA : m ≠ 0 → A' = some ⟨g, s * 3, none⟩) (hsm : s + m ≤ L.length) (hlen : L.length ≤ 1000000)
    (hL : (rb L).length ≤ 16777216) (hmay : ∀ x ∈ L, may x = true) (w : World) (hn0 : n0 ≤ w.heap.size) (hsrc : ∀ V, Below n0 w V → RunAt V B q p nm L (some ⟨g, 0, none⟩) c ∧ FileAt V S p D nm Bt) (hb1 : b1 < w.heap.size)
    (h1 : w.cell? ⟨b1, 0, none⟩ = some (.slice A' m c')) (h2 : Boxed w b2 35 (.pointer (some ⟨q, 0, none⟩))) :
    SeqStopsK Fence.wide n Try.prog 57 #[.pointer (some ⟨b1, 0, none⟩), .pointer (some ⟨b2, 0, none⟩)] encs (Kp n0 b2 q) (fun ys => ys = seqR Bt L s m) (fun pre => pre <+: seqR Bt L s m) (seqR Bt L s m).length w := fun l J Jx W hW hJ _ hY h0 =>
  pairs1_in n hn l b1 b2 n0 A' c' s m hA hsm hlen hL hmay J Jx W.heap.size hJ hY W (by have := hW.size; omega) (fun V hV => hsrc V ((hW.mono hn0).trans hV)) ((hW.cell (p := ⟨b1, 0, none⟩) hb1).trans h1) (box_keep h2 hW) h0
end Go.Proofs.Ytmnaamjoikfpbaa.It10
