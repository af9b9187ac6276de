/- The contract of disk.Read. -/
import Derived.Test.YtbjemekkpmbhhaaCa
import Derived.Maps.OwnOps
namespace Go.Proofs.Ytbjemekkpmbhhaa.Rd
open Go Go.RowKit Go.Lib Go.Proofs.Ytbjemekkpmbhhaa.Mp Go.Proofs.Ytbjemekkpmbhhaa.Dh Go.Proofs.Ytbjemekkpmbhhaa.Ext Go.Proofs.Ytbjemekkpmbhhaa.Fm Go.Proofs.Ytbjemekkpmbhhaa.Dk Go.Proofs.Ytbjemekkpmbhhaa.Cl Go.Proofs.Ytbjemekkpmbhhaa.Bu Go.Proofs.Ytbjemekkpmbhhaa.Ch Go.Proofs.Ytbjemekkpmbhhaa.Nm Go.Proofs.Ytbjemekkpmbhhaa.St Go.Proofs.Ytbjemekkpmbhhaa.Ap Go.Proofs.Ytbjemekkpmbhhaa.Tr
def ret (l : List UInt8) (e : Int) : Ending := .returned (.tuple #[.string ⟨l.toArray⟩, .int .i64 e])
theorem ret_nil (e : Int) : ret [] e = .returned (.tuple #[.string ⟨#[]⟩, .int .i64 e]) := rfl
/-- A piece of a row of bytes as a string. -/
theorem piece {w : World} {S : Nat → Prop} {b L cp : Nat} {t : List UInt8} (h : TextAt w S (.slice (some ⟨b, 0, none⟩) L cp) t) (o m c : Nat) :
    m ≤ t.length - o → (convert 66 9 (.slice (some ⟨b, o, none⟩) m c)).run Try.prog w = .ok (.string ⟨((t.drop o).take m).toArray⟩) w := by
  intro hm
  have hl : ((t.drop o).take m).length = m := by simp; omega
  have := run_convert_bytes_back (P := Try.prog) w 66 9 5 ⟨b, o, none⟩ c ((t.drop o).take m) undL undE undS (fun j hj => by
    rw [hl] at hj
    have h1 := h.cells (o + j) (.int .u8 (t[o + j]'(by omega)).toNat) (by rw [u8s, List.getElem?_map, List.getElem?_eq_getElem (by omega)]; rfl)
    have e1 : Addr.add ⟨b, 0, none⟩ (o + j) = ⟨b, o + j, none⟩ := by
      cases hoj : o + j <;> simp [Addr.add]
    have e2 : Addr.add ⟨b, o, none⟩ j = ⟨b, o + j, none⟩ := by
      cases j <;> simp [Addr.add]
    rw [e1] at h1
    rw [e2, h1]
    simp)
  rw [hl] at this
  exact this
theorem wpList_look (w : World) {ops : Array Oper} {rest : List Oper} {o : Oper} {a : Act} {Q : Exit → Act → World → Prop} (hg : o.guard = none) (m x : Operand)
    (hop : o.op = Op.lookup 43 m x true) (mb : Nat) (k : ByteArray) (v : Value) (b : Bool) (hm : a.eval m = .map (some mb)) (hx : a.eval x = .string k)
    (hrun : (Instr.lookup 43 (.map (some mb)) (.string k) true).run Try.prog w = .ok (.tuple #[v, .bool b]) w)
    (hK : wpList Try.prog ops Q rest (a.put o.dst (.tuple #[v, .bool b])) w) : wpList Try.prog ops Q (o :: rest) a w := by
  refine wpList_plain hg fun K' hK' => ?_
  unfold Oper.wp
  simp [execOp, hop, hm, hx, hrun, Result.andThen]
  exact hK' _ _ hK
set_option maxRecDepth 20000 in
set_option maxHeartbeats 2000000 in
theorem read_any {S : Nat → Prop} {w : World} {p : Nat} {D : St} (h : Full w S p D) (k : ByteArray) (o n : Int) (hk : k.size ≤ maxLen) (ho : o ≤ 9223372036854775807) (hn : n ≤ 9223372036854775807) :
    Calls Try.prog 20 #[.pointer (some ⟨p, 0, none⟩), .string k, .int .i64 o, .int .i64 n] w fun e w' => e = ret (stRead D k o n).1 (stRead D k o n).2 ∧ To S w w' p D := by
  have ht := To.alloc h (cap1 (.string k))
  have hnew := heap_new w (cap1 (.string k))
  obtain ⟨W, hW⟩ : ∃ W, W = w.alloc (cap1 (.string k)) := ⟨_, rfl⟩
  rw [← hW] at ht hnew
  obtain ⟨d, g1, g2, g3, g4, g5, g6, g7, g8⟩ := ht.2
  have HTo := Lib.hid ht
  unfold stRead
  by_cases hst : D.still = true
  · rw [if_pos hst, ret_nil]
    have HR := Lib.hid (ready_still g1 (g7.trans hst) (.slice (some ⟨w.heap.size, 0, none⟩) 1 1))
    rw [hW] at HR HTo
    clear hst g1 g2 g3 g4 g5 g6 g7 g8 ht hW h hnew
    go_enter Try.func20, Try.ntmps20
    go_wp2_with (go_at_call 38; refine HR.out.mono ?_; rintro e w1 ⟨rfl, rfl⟩)
    go_ret2
    exact ⟨rfl, HTo.out⟩
  have hst' : d.still = false := by rw [g7]; simpa using hst
  rw [if_neg hst]
  have HR0 := ready_names g1 hst' [k] w.heap.size 1 (fun i hi => by
    have : i = 0 := by simpa using hi
    subst this; rw [cell_of hnew]; rfl) (by simpa using hk) (by simp)
  rw [single] at HR0
  by_cases hnm : nameOk k = false
  · rw [if_pos hnm, ret_nil]
    rw [hnm] at HR0
    have HR := Lib.hid HR0
    rw [hW] at HR HTo
    clear hst hst' HR0 g1 g2 g3 g4 g5 g6 g7 g8 ht hW h hnew hnm
    go_enter Try.func20, Try.ntmps20
    go_wp2_with (go_at_call 38; refine HR.out.mono ?_; rintro e w1 ⟨rfl, rfl⟩)
    go_ret2
    exact ⟨rfl, HTo.out⟩
  rw [if_neg hnm]
  have hn' : nameOk k = true := by simpa using hnm
  rw [hn'] at HR0
  have HR := Lib.hid HR0
  have c1 : W.cell? ⟨p, 1, none⟩ = some (.map (some d.m1)) := DskAt.c g1 1
  have HDk := Lib.hid g1
  have HNow := Lib.hid g4
  have HW := Lib.hid hW
  rw [hW] at HR c1 HTo
  clear hst hst' HR0 g1 g2 g3 g4 g5 g6 g7 g8 ht hW h hnew hnm hn'
  by_cases hneg : o < 0 ∨ n < 0
  · rw [if_pos hneg, ret_nil]
    by_cases ho0 : o < 0
    · clear hneg
      go_enter Try.func20, Try.ntmps20
      go_wp2_with (go_at_call 38; refine HR.out.mono ?_; rintro e w1 ⟨rfl, rfl⟩)
      go_ret2
      exact ⟨rfl, HTo.out⟩
    · have hn0 : n < 0 := by omega
      clear hneg
      go_enter Try.func20, Try.ntmps20
      go_wp2_with (go_at_call 38; refine HR.out.mono ?_; rintro e w1 ⟨rfl, rfl⟩)
      go_ret2
      exact ⟨rfl, HTo.out⟩
  rw [if_neg hneg]
  have ho0 : ¬ o < 0 := by omega
  have hn0 : ¬ n < 0 := by omega
  clear hneg
  rcases hg : get D.now k with _ | t
  · have hlook := look_none HDk.out k (by rw [HNow.out]; exact hg) 0
    change (Instr.lookup _ _ _ _).run _ W = .ok _ W at hlook
    rw [HW.out] at hlook
    clear hg
    have HLk := Lib.hid hlook
    clear hlook
    show Calls _ _ _ _ fun e w' => e = ret [] 3 ∧ _
    rw [ret_nil]
    go_enter Try.func20, Try.ntmps20
    go_wp2_with (first | (go_at_call 38; refine HR.out.mono ?_; rintro e w1 ⟨rfl, rfl⟩) | (at_lookup; refine wpList_look _ rfl _ _ rfl d.m1 k _ _ rfl rfl HLk.out ?_))
    go_ret2
    exact ⟨rfl, HTo.out⟩
  · obtain ⟨v, htx, hlook⟩ := look_some HDk.out k t (by rw [HNow.out]; exact hg)
    have hlook := hlook 0
    change (Instr.lookup _ _ _ _).run _ W = .ok _ W at hlook
    clear hg
    show Calls _ _ _ _ fun e w' => e = ret ((t.drop o.toNat).take n.toNat) 0 ∧ _
    have HTX := Lib.hid htx
    have hsh : (v = .slice none 0 0 ∧ t = []) ∨ ∃ b cp, v = .slice (some ⟨b, 0, none⟩) t.length cp ∧ t.length ≤ cp ∧ cp ≤ 9223372036854775807 := by
      rcases htx with ⟨h, h'⟩ | ⟨b, cap, cs, h, _, h1, _, h2, _⟩
      · exact .inl ⟨h, h'⟩
      · exact .inr ⟨b, cap, h, h1, by unfold maxLen at h2; exact h2⟩
    clear htx
    rcases hsh with ⟨rfl, rfl⟩ | ⟨b, cp, rfl, hcp, hcm⟩
    · rw [List.drop_nil, List.take_nil, ret_nil]
      rw [HW.out] at hlook
      have HLk := Lib.hid hlook
      clear hlook
      have hconv : ∀ (W : World), (convert 66 9 (.slice none 0 0)).run Try.prog W = .ok (.string ⟨#[]⟩) W := fun W => by kernel_rfl
      have hm1 : (if 0 < o then 0 else o) = 0 := by split <;> omega
      have hm2 : (if 0 < n then 0 else n) = 0 := by split <;> omega
      go_enter Try.func20, Try.ntmps20
      go_wp2_with (first | (go_at_call 38; refine HR.out.mono ?_; rintro e w1 ⟨rfl, rfl⟩) | (at_lookup; refine wpList_look _ rfl _ _ rfl d.m1 k _ _ rfl rfl HLk.out ?_))
      all_goals
        go_ret2
        exact ⟨rfl, HTo.out⟩
    · rw [HW.out] at hlook
      have HLk := Lib.hid hlook
      clear hlook
      obtain ⟨o', hoe⟩ : ∃ o' : Int, o' = if (t.length : Int) < o then (t.length : Int) else o := ⟨_, rfl⟩
      have ho1 : 0 ≤ o' ∧ o' ≤ t.length := by rw [hoe]; split <;> omega
      obtain ⟨n', hne⟩ : ∃ n' : Int, n' = if ((t.length - o'.toNat : Nat) : Int) < n then ((t.length - o'.toNat : Nat) : Int) else n := ⟨_, rfl⟩
      have hn1 : 0 ≤ n' ∧ n' ≤ ((t.length - o'.toNat : Nat) : Int) := by rw [hne]; split <;> omega
      have hres : (t.drop o.toNat).take n.toNat = (t.drop o'.toNat).take n'.toNat := by
        by_cases hlo : (t.length : Int) < o
        · rw [if_pos hlo] at hoe
          rw [List.drop_of_length_le (by omega), List.drop_of_length_le (l := t) (i := o'.toNat) (by omega)]
          simp
        · rw [if_neg hlo] at hoe
          rw [hoe]
          by_cases hln : ((t.length - o'.toNat : Nat) : Int) < n
          · rw [if_pos hln] at hne
            rw [List.take_of_length_le (by rw [List.length_drop]; omega), List.take_of_length_le (by rw [List.length_drop]; omega)]
          · rw [if_neg hln] at hne
            rw [hne]
      have hconv : ∀ c : Nat, (convert 66 9 (.slice (some ⟨b, o'.toNat, none⟩) n'.toNat c)).run Try.prog (w.alloc (cap1 (.string k))) = .ok (.string ⟨((t.drop o'.toNat).take n'.toNat).toArray⟩) (w.alloc (cap1 (.string k))) := fun c => by
        have hx := HTX.out
        rw [HW.out] at hx
        exact piece hx o'.toNat n'.toNat c (by omega)
      have e1 := hoe.symm
      have e2 := hne.symm
      have p1 := ho1.1
      have p2 := ho1.2
      have p3 := hn1.1
      have p4 := hn1.2
      rw [hres]
      by_cases hoc : cp = o'.toNat
      · have hz : n'.toNat = 0 := by omega
        have hconv0 : ∀ c : Nat, (convert 66 9 (.slice (some ⟨b, 0, none⟩) n'.toNat c)).run Try.prog (w.alloc (cap1 (.string k))) = .ok (.string ⟨((t.drop o'.toNat).take n'.toNat).toArray⟩) (w.alloc (cap1 (.string k))) := fun c => by
          have hx := HTX.out
          rw [HW.out] at hx
          have := piece hx 0 n'.toNat c (by omega)
          rw [this, hz]; simp
        clear hoe hne ho1 hn1 hres hz
        go_enter Try.func20, Try.ntmps20
        go_wp2_with (first | (go_at_call 38; refine HR.out.mono ?_; rintro e w1 ⟨rfl, rfl⟩) | (at_lookup; refine wpList_look _ rfl _ _ rfl d.m1 k _ _ rfl rfl HLk.out ?_))
        all_goals
          go_ret2
          exact ⟨rfl, HTo.out⟩
      · have hoc2 : ¬ cp - o'.toNat = 0 := by omega
        clear hoe hne ho1 hn1 hres
        go_enter Try.func20, Try.ntmps20
        go_wp2_with (first | (go_at_call 38; refine HR.out.mono ?_; rintro e w1 ⟨rfl, rfl⟩) | (at_lookup; refine wpList_look _ rfl _ _ rfl d.m1 k _ _ rfl rfl HLk.out ?_))
        all_goals
          go_ret2
          exact ⟨rfl, HTo.out⟩
end Go.Proofs.Ytbjemekkpmbhhaa.Rd
