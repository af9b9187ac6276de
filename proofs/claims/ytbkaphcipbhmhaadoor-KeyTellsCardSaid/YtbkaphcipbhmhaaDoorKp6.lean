/- The contract of key.Put. -/
import Derived.Test.YtbkaphcipbhmhaaDoorKv6
namespace Go.Proofs.YtbkaphcipbhmhaaDoor.Kp6
open Go Go.RowKit Go.Proofs.YtbkaphcipbhmhaaDoor.Wm Go.Proofs.YtbkaphcipbhmhaaDoor.Cm Go.Proofs.YtbkaphcipbhmhaaDoor.Vm Go.Proofs.YtbkaphcipbhmhaaDoor.Vr Go.Proofs.YtbkaphcipbhmhaaDoor.Vs Go.Proofs.YtbkaphcipbhmhaaDoor.Vc Go.Proofs.YtbkaphcipbhmhaaDoor.Kl6 Go.Proofs.YtbkaphcipbhmhaaDoor.Km6 Go.Proofs.YtbkaphcipbhmhaaDoor.Bu6 Go.Proofs.YtbkaphcipbhmhaaDoor.Kn6 Go.Proofs.YtbkaphcipbhmhaaDoor.Kv6
def kputS (l : List V) : List UInt8 := if mayK l = true then kputAll l else []
theorem mayK_long {l : List V} (h : 8 < l.length) : mayK l = false := by unfold mayK; rw [decide_eq_false (by omega), Bool.false_and]
theorem mayK_short {l : List V} (h : l.length ≤ 8) : mayK l = l.all may := by unfold mayK; rw [decide_eq_true h, Bool.true_and]
theorem all_step {l : List V} {k : Nat} (hk : k < l.length) : (l.drop k).all may = (may l[k] && (l.drop (k + 1)).all may) := allMay_step hk
def AllOk (l : List V) : Prop := ∀ v ∈ l, v.ok
/-- The first k values may be. -/
structure Upto (l : List V) (k : Nat) : Prop where
  rest : (l.drop k).all may = l.all may
  is : ∀ v ∈ l.take k, Is v
theorem Upto.zero (l : List V) : Upto l 0 := ⟨by simp, fun v hv => by simp at hv⟩
theorem Upto.step {l : List V} {k : Nat} (h : Upto l k) (hk : k < l.length) (hm : may l[k] = true) : Upto l (k + 1) := by
  refine ⟨?_, fun v hv => ?_⟩
  · rw [← h.rest, all_step hk, hm, Bool.true_and]
  · rw [List.take_succ_eq_append_getElem hk] at hv
    rcases List.mem_append.1 hv with hv | hv
    · exact h.is v hv
    · rw [List.mem_singleton.1 hv]; exact (may_is _).1 hm
theorem Upto.no {l : List V} {k : Nat} (h : Upto l k) (hk : k < l.length) (hm : may l[k] = false) : l.all may = false := by
  rw [← h.rest, all_step hk, hm, Bool.false_and]
theorem Upto.all {l : List V} (h : Upto l l.length) : l.all may = true := by rw [← h.rest]; simp
theorem Upto.short {l : List V} {k : Nat} (h : Upto l k) (hl : l.length ≤ 8) : (kputAll (l.take k)).length ≤ 70000 := by
  have h1 := kputAll_len h.is
  have h2 : (l.take k).length ≤ 8 := by rw [List.length_take]; omega
  omega
theorem Mid.alloc {w w' : World} {B : Nat} {u v : Value} {l : List UInt8} (h : Mid w B u v l w') (o : Obj) : Mid w B u v l (w'.alloc o) :=
  h.trans ⟨h.1.alloc o, grown_of ((Below.refl _ _).alloc (Nat.le_refl _) _) _, .inl rfl⟩
theorem Mid.keep {w w' w2 : World} {B : Nat} {u v : Value} {l : List UInt8} (h : Mid w B u v l w') (hb : Below w'.heap.size w' w2) : Mid w B u v l w2 :=
  h.trans ⟨h.1.keep hb, grown_of hb _, .inl rfl⟩
set_option maxRecDepth 20000 in
set_option maxHeartbeats 1000000 in
theorem put_any (w : World) (A : Option Addr) (c : Nat) (l : List V) (hl : Reads w A l) (hlen : l.length ≤ 140737488351232) (hk : AllOk l) (hT : Tabs w) :
    Calls Tryd.prog 10 #[.slice A l.length c] w fun e w' => e = .returned (.tuple #[.string (bs (kputS l)), .int .i64 (erg (mayK l))]) ∧ Below w.heap.size w w' := by
  have HR := Lib.hid hl
  have HK := Lib.hid hk
  have HT := Lib.hid hT
  clear hl hk hT
  obtain ⟨R, hRR⟩ : ∃ R, R = bs (kputS l) := ⟨_, rfl⟩
  obtain ⟨E, hEE⟩ : ∃ E, E = erg (mayK l) := ⟨_, rfl⟩
  rw [← hRR, ← hEE]
  have HRes : Hid (∀ r, mayK l = r → R = bs (if r = true then kputAll l else []) ∧ E = erg r) := Lib.hid fun r h => by rw [hRR, hEE, ← h]; exact ⟨rfl, rfl⟩
  clear hRR hEE
  obtain ⟨N, hN⟩ : ∃ N, N = l.length := ⟨_, rfl⟩
  rw [← hN] at hlen ⊢
  have HN := Lib.hid hN
  clear hN
  by_cases h8 : 8 < N
  · obtain ⟨rfl, rfl⟩ := HRes.out false (mayK_long (by rw [← HN.out]; exact h8))
    have h8' : (8 : Int) < (N : Int) := by omega
    go_enter Tryd.func10, Tryd.ntmps10
    go_wp2
    go_ret2
    exact ⟨rfl, Below.refl _ _⟩
  · have HM := Lib.hid (mayK_short (l := l) (by rw [← HN.out]; omega))
    have h8' : ¬ ((8 : Int) < (N : Int)) := by omega
    go_enter Tryd.func10, Tryd.ntmps10
    go_wp2
    go_loopw [4, 6, 7, 13] (fun key _ _ i wr => ∃ k : Nat, k ≤ N ∧ i = .int .i64 (k : Int) ∧ Hid (Mid w w.heap.size (.slice none 0 0) key (kputAll (l.take k)) wr) ∧ Hid (Upto l k)) (fun _ _ _ i _ => N - (intOf i).toNat)
    case atStart => exact ⟨0, by omega, rfl, Lib.hid (Mid.refl (Buf.nil w)), Lib.hid (Upto.zero l)⟩
    case round =>
      obtain ⟨k, hk, rfl, hm, hu⟩ := hrel
      by_cases hlt : k < N
      · have hkl : k < l.length := by rw [← HN.out]; exact hlt
        have hbel := Lib.hid (hm.out.below rfl)
        obtain ⟨b, o, rfl, p0, p1, p2, p3⟩ := (HR.out.keep hbel.out).at_ hkl
        have hok := HK.out _ (List.getElem_mem hkl)
        have HC : Hid (∀ W, Hid (Tabs W) → Calls Tryd.prog 20 #[vv l[k]] W fun e w' => e = .returned (.int .i64 (erg (may l[k]))) ∧ Below W.heap.size W w') := Lib.hid fun W h => check_any _ W h.out hok.s
        have HV : Hid (may l[k] = true → ∀ (W : World) (u : Value) (m : List UInt8), Hid (Buf W w.heap.size u m) → m.length ≤ 70000 → Calls Tryd.prog 21 #[u, vv l[k]] W (Grew W w.heap.size u (m ++ kput l[k]))) :=
          Lib.hid fun hmay W u m h hm => value_any ((may_is _).1 hmay) hok h.out hm
        have HS := Lib.hid (kputAll_snoc l k hkl)
        have HY := Lib.hid (fun h => hu.out.step hkl h)
        have HNo := Lib.hid (fun h => hu.out.no hkl h)
        obtain ⟨x, hx⟩ : ∃ x, x = l[k] := ⟨_, rfl⟩
        rw [← hx] at p0 p1 p2 p3 HC HV HS HY HNo
        clear hx hkl hok
        obtain ⟨k0, n0, r0, s0⟩ := x
        unfold vv at HC HV
        dsimp only at p0 p1 p2 p3 HC HV
        have hal : Below wr.heap.size wr (wr.alloc (.cells #[.int .u8 k0, .int .i64 n0, .int .u64 (r0 : Int), .string s0] 38)) := (Below.refl _ _).alloc (Nat.le_refl _) _
        have HA := Lib.hid hal
        have X := Lib.hid (Box.new wr k0 n0 (r0 : Int) s0)
        have HTr := Lib.hid ((HT.out.keep hbel.out).keep hal)
        have HBA := Lib.hid (Mid.alloc hm.out (.cells #[.int .u8 k0, .int .i64 n0, .int .u64 (r0 : Int), .string s0] 38))
        clear hal
        cases hmay : may ⟨k0, n0, r0, s0⟩
        · rw [hmay] at HC
          have HF := Lib.hid (HNo.out hmay)
          clear hmay
          go_wp2_with fail
          with_reducible refine (HC.out _ HTr).mono ?_
          rintro e w1 ⟨rfl, hb1⟩
          have HB := Lib.hid hb1
          clear hb1
          go_wp2
          go_ret2
          obtain ⟨rfl, rfl⟩ := HRes.out false (by rw [HM.out, HF.out])
          exact ⟨rfl, hbel.out.trans ((HA.out.trans (HB.out.mono HA.out.size)).mono hbel.out.size)⟩
        · rw [hmay] at HC
          have HV2 := Lib.hid (HV.out hmay)
          have HU2 := Lib.hid (HY.out hmay)
          clear hmay HV HY HNo
          go_wp2_with fail
          with_reducible refine (HC.out _ HTr).mono ?_
          rintro e w1 ⟨rfl, hb1⟩
          obtain ⟨c0, c1, c2, c3⟩ := (show Box w1 wr.heap.size k0 n0 r0 s0 from (hb1.block _ (lt_of_block X.out)).trans X.out).cells
          have HB1 := Lib.hid (Mid.keep HBA.out hb1)
          have HB2 := Lib.hid HB1.out.1
          clear hb1
          go_wp2_with fail
          with_reducible refine (HV2.out _ _ _ HB2 (hu.out.short (by have := HN.out; omega))).mono ?_
          rintro e w2 ⟨v2, rfl, hm2⟩
          have HM2 := Lib.hid (HB1.out.trans hm2)
          clear hm2
          go_wp2
          go_round
          case rel => exact ⟨k + 1, by omega, by go_num, Lib.hid (by rw [HS.out]; exact HM2.out), HU2⟩
          case measure => simp [intOf]; omega
      · have hkN : k = N := by omega
        have hall : mayK l = true := by rw [HM.out]; have := hu.out; rw [hkN, HN.out] at this; exact this.all
        have hx := hm.out.1.str
        rw [hkN, HN.out, List.take_of_length_le (Nat.le_refl _)] at hx
        have HZ := Lib.hid (hm.out.below rfl)
        have HA := Lib.hid hall
        clear hall
        go_wp2
        go_ret2
        obtain ⟨e1, e2⟩ := HRes.out true HA.out
        exact ⟨by rw [e1, e2]; rfl, HZ.out⟩
end Go.Proofs.YtbkaphcipbhmhaaDoor.Kp6
