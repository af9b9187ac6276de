/- The contracts of code.Put and code.PutRow. -/
import Derived.Test.YthoiolihkomgmaaDoorPv5
import Derived.Test.YthoiolihkomgmaaDoorVc
import Derived.Test.YthoiolihkomgmaaDoorVz
namespace Go.Proofs.YthoiolihkomgmaaDoor.Pw5
open Go Go.RowKit Go.Proofs.YthoiolihkomgmaaDoor.Wm Go.Proofs.YthoiolihkomgmaaDoor.Cm Go.Proofs.YthoiolihkomgmaaDoor.Vm Go.Proofs.YthoiolihkomgmaaDoor.Vr Go.Proofs.YthoiolihkomgmaaDoor.Vs Go.Proofs.YthoiolihkomgmaaDoor.Vc Go.Proofs.YthoiolihkomgmaaDoor.Pu5 Go.Proofs.YthoiolihkomgmaaDoor.Pv5
theorem _root_.Go.Proofs.YthoiolihkomgmaaDoor.Pu5.Buf.text {w : World} {B : Nat} {v : Value} {l : List UInt8} (h : Buf w B v l) (hl : l ≠ []) :
    (convert 46 9 v).run Tryd.prog w = .ok (.string (bs l)) w := by
  obtain ⟨h1, _⟩ := h
  rcases h1.2 with ⟨rfl, h0⟩ | ⟨g, cap, cur, rfl, _⟩
  · exact absurd (List.eq_nil_of_length_eq_zero h0) hl
  · refine run_convert_bytes_back w _ _ _ ⟨g, 0, none⟩ cap l WPut.undL WPut.undE WPut.undS (fun j hj => ?_)
    refine h1.cells (g := g) rfl j _ ?_
    simp [Lib.strCells, bs, hj]
theorem put_ne (v : V) : put v ≠ [] := fun e => by
  have := congrArg List.length e
  simp [put, putN_length] at this
theorem none_below {w w1 : World} (h : w.grownBy w1 none) : Below w.heap.size w w1 := ⟨h.os, h.tape, h.output, h.size, fun k hk => h.block k hk (by simp)⟩
def putS (v : V) : List UInt8 := if may v = true then put v else []
set_option maxRecDepth 20000 in
theorem put_any (v : V) (w : World) (hT : Tabs w) (hm : v.s.size ≤ 140737488351232) (hr : v.r < 18446744073709551616) :
    Calls Tryd.prog 10 #[vv v] w fun e w' => e = .returned (.tuple #[.string (bs (putS v)), .int .i64 (erg (may v))]) ∧ Below w.heap.size w w' := by
  have HC : Hid (∀ W, Tabs W → Calls Tryd.prog 21 #[vv v] W fun e w' => e = .returned (.int .i64 (erg (may v))) ∧ Below W.heap.size W w') := Lib.hid fun W h => check_any v W h hm
  have HT : Hid (Tabs (w.alloc (.cells #[.int .u8 v.k, .int .i64 v.n, .int .u64 (v.r : Int), .string v.s] 24))) := Lib.hid (hT.keep ((Below.refl _ _).alloc (Nat.le_refl _) _))
  have X := Lib.hid (Box.new w v.k v.n v.r v.s)
  have hA : Below w.heap.size w (w.alloc (.cells #[.int .u8 v.k, .int .i64 v.n, .int .u64 (v.r : Int), .string v.s] 24)) := (Below.refl _ _).alloc (Nat.le_refl _) _
  have HA := Lib.hid hA
  clear hT hA
  unfold putS
  cases hb : may v
  · rw [hb] at HC
    clear hb
    unfold vv at HC ⊢
    go_enter Tryd.func10, Tryd.ntmps10
    go_wp2_with fail
    refine (HC.out _ HT.out).mono ?_
    rintro e w1 ⟨rfl, hb1⟩
    have HB := Lib.hid hb1
    clear hb1
    go_wp2
    go_ret2
    exact ⟨rfl, HA.out.trans (HB.out.mono (by simp))⟩
  · have hv := (may_is v).1 hb
    rw [hb] at HC
    have HP : Hid (∀ (W : World), Calls Tryd.prog 22 #[.slice none 0 0, vv v] W (Grew W W.heap.size (.slice none 0 0) ([] ++ put v))) := Lib.hid fun W => value_any hv (Buf.nil W) (by simp) hr
    clear hb
    have hne := put_ne v
    obtain ⟨pv, hpv⟩ : ∃ pv, pv = put v := ⟨_, rfl⟩
    rw [if_pos rfl]
    rw [← hpv] at HP hne ⊢
    have HN := Lib.hid hne
    clear hpv hne hv
    obtain ⟨k, n, r, s⟩ := v
    unfold vv at HC HP ⊢
    dsimp only at HC HP HT X HA ⊢
    go_enter Tryd.func10, Tryd.ntmps10
    go_wp2_with fail
    refine (HC.out _ HT.out).mono ?_
    rintro e w1 ⟨rfl, hb1⟩
    have HB := Lib.hid hb1
    have X1 := Lib.hid ((hb1.block w.heap.size (by simp)).trans X.out)
    obtain ⟨c0, c1, c2, c3⟩ := (show Box w1 w.heap.size k n r s from X1.out).cells
    clear hb1
    go_wp2_with fail
    with_reducible refine (HP.out _).mono ?_
    rintro e w2 ⟨v2, rfl, hb2, hg2, hm2⟩
    have hx := hb2.text HN.out
    have HG := Lib.hid (none_below hg2)
    clear hb2 hg2 hm2
    go_wp2
    go_ret2
    exact ⟨rfl, (HA.out.trans (HB.out.mono (by simp))).trans (HG.out.mono (by have := HA.out.size; have := HB.out.size; omega))⟩
theorem putAll_snoc (l : List V) (k : Nat) (h : k < l.length) : putAll (l.take (k + 1)) = putAll (l.take k) ++ put l[k] := by
  rw [List.take_succ_eq_append_getElem h, putAll_append]
  simp [putAll]
def putRowS (l : List V) : List UInt8 := if mayRow l = true then putRow l else []
theorem putRow_ne (l : List V) : putRow l ≠ [] := fun e => by
  have := congrArg List.length e
  simp [putRow, putN_length] at this
def Len (l : List V) (N : Nat) : Prop := N = l.length ∧ 1 ≤ N ∧ N ≤ 8 ∧ ∀ v ∈ l, Is v
theorem Len.short {l : List V} {N : Nat} (h : Len l N) (k : Nat) : (putN N 1 ++ putAll (l.take k)).length ≤ 80000 := by
  obtain ⟨h1, _, h3, h4⟩ := h
  have h5 := putAll_len (l := l.take k) (fun v hv => h4 v (List.mem_of_mem_take hv))
  have h6 : (l.take k).length ≤ 8 := by rw [List.length_take]; omega
  simp only [List.length_append, putN_length]
  omega
set_option maxRecDepth 20000 in
set_option maxHeartbeats 1000000 in
theorem putRow_any (w : World) (A : Option Addr) (c : Nat) (l : List V) (hl : Reads w A l) (hlen : l.length ≤ 140737488351232) (hs : Texts l) (hr : ∀ v ∈ l, v.r < 18446744073709551616) (hT : Tabs w) :
    Calls Tryd.prog 11 #[.slice A l.length c] w fun e w' => e = .returned (.tuple #[.string (bs (putRowS l)), .int .i64 (erg (mayRow l))]) ∧ Below w.heap.size w w' := by
  have HC : Hid (Calls Tryd.prog 23 #[.slice A l.length c] w fun e w' => e = .returned (.int .i64 (erg (mayRow l))) ∧ Below w.heap.size w w') := Lib.hid (row_any w A c l hl hlen hs hT)
  have HL := Lib.hid hl
  have HR := Lib.hid hr
  clear hl hs hT hr
  unfold putRowS
  cases hb : mayRow l
  · rw [hb] at HC
    clear hb
    go_enter Tryd.func11, Tryd.ntmps11
    go_wp2_with fail
    refine HC.out.mono ?_
    rintro e w1 ⟨rfl, hb1⟩
    have HB := Lib.hid hb1
    clear hb1
    go_wp2
    go_ret2
    exact ⟨rfl, HB.out⟩
  · rw [hb] at HC
    obtain ⟨h1, h2, h3⟩ := row_is hb
    clear hb
    rw [if_pos rfl]
    obtain ⟨N, hN⟩ : ∃ N, N = l.length := ⟨_, rfl⟩
    rw [← hN] at HC h1 h2 hlen ⊢
    have HN : Hid (Len l N) := Lib.hid ⟨hN, h1, h2, h3⟩
    have HQ : Hid (∀ W, Calls Tryd.prog 24 #[.slice none 0 0, .int .u64 (N : Int), .int .i64 1] W (Grew W W.heap.size (.slice none 0 0) ([] ++ putN N 1))) := Lib.hid fun W => (number1 N (by omega)).out W _ _ _ (Lib.hid (Buf.nil W)) (by simp)
    have hw : IntKind.u64.wrap (N : Int) = (N : Int) := wrap_u64_small _ (by omega)
    clear hN h3
    go_enter Tryd.func11, Tryd.ntmps11
    go_wp2_with fail
    refine HC.out.mono ?_
    rintro e w1 ⟨rfl, hb1⟩
    have HB := Lib.hid hb1
    clear hb1
    go_wp2_with fail
    with_reducible refine (HQ.out _).mono ?_
    rintro e w2 ⟨v2, rfl, hb2, hg2, hm2⟩
    have HG := Lib.hid (none_below hg2)
    have H2 := Lib.hid hb2
    clear hb2 hg2 hm2 hw
    go_wp2
    go_loopw [5, 7, 19, 20, 21, 22, 23, 24, 25, 26] (fun row _ i _ _ _ _ _ _ _ wr => ∃ k : Nat, k ≤ N ∧ i = .int .i64 k ∧ Hid (Buf wr w1.heap.size row (putN N 1 ++ putAll (l.take k))) ∧ Hid (Below w1.heap.size w1 wr)) (fun _ _ i _ _ _ _ _ _ _ _ => N - (intOf i).toNat)
    case atStart => exact ⟨0, by omega, rfl, Lib.hid (by simpa [putAll] using H2.out), Lib.hid HG.out⟩
    case round =>
      obtain ⟨k, hk, rfl, hbuf, hbel⟩ := hrel
      by_cases hlt : k < N
      · have hkl : k < l.length := by have := HN.out.1; omega
        have hba : Below w.heap.size w wr := HB.out.trans (hbel.out.mono HB.out.size)
        obtain ⟨b, o, rfl, p0, p1, p2, p3⟩ := (HL.out.keep hba).at_ hkl
        have hsn := putAll_snoc l k hkl
        have HV : Hid (∀ (W : World) (B : Nat) (u : Value) (m : List UInt8), Hid (Buf W B u m) → m.length ≤ 80000 → Calls Tryd.prog 22 #[u, vv l[k]] W (Grew W B u (m ++ put l[k]))) :=
          Lib.hid fun W B u m h hm => value_any (HN.out.2.2.2 _ (List.getElem_mem hkl)) h.out hm (HR.out _ (List.getElem_mem hkl))
        obtain ⟨x, hx⟩ : ∃ x, x = l[k] := ⟨_, rfl⟩
        rw [← hx] at p0 p1 p2 p3 HV hsn
        have HS := Lib.hid hsn
        have HA := Lib.hid hba
        clear hx hkl hsn hba
        obtain ⟨k0, n0, r0, s0⟩ := x
        unfold vv at HV
        dsimp only at p0 p1 p2 p3 HV
        have HBA := Lib.hid (hbuf.out.alloc (.cells #[.int .u8 k0, .int .i64 n0, .int .u64 (r0 : Int), .string s0] 24))
        go_wp2_with fail
        with_reducible refine (HV.out _ _ _ _ HBA (HN.out.short k)).mono ?_
        rintro e w3 ⟨v3, rfl, hb3, hg3, hm3⟩
        have H3 := Lib.hid hb3; have G3 := Lib.hid hg3
        clear hb3 hg3 hm3
        go_wp2
        go_round
        case rel =>
          refine ⟨k + 1, by omega, by go_num, Lib.hid ?_, Lib.hid ((hbel.out.alloc hbuf.out.2 _).grown G3.out HBA.out.2 HBA.out.own)⟩
          rw [HS.out, ← List.append_assoc]
          exact H3.out
        case measure => simp [intOf]; omega
      · have hkN : k = N := by omega
        have hx := hbuf.out.text (fun e => by have := congrArg List.length e; simp [putN_length] at this)
        rw [show putN N 1 ++ putAll (l.take k) = putRow l from by rw [hkN, HN.out.1, List.take_of_length_le (Nat.le_refl _)]; rfl] at hx
        go_wp2
        go_ret2
        exact ⟨rfl, HB.out.trans (hbel.out.mono HB.out.size)⟩
end Go.Proofs.YthoiolihkomgmaaDoor.Pw5
