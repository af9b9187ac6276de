/- The reader's row. -/
import Derived.Test.YthoiolihkomgmaaDoorRw5a
import Derived.Test.YthoiolihkomgmaaDoorRw5b
import Derived.Test.YthoiolihkomgmaaDoorVh
namespace Go.Proofs.YthoiolihkomgmaaDoor.Rx5
open Go Go.RowKit Go.Proofs Go.Proofs.YthoiolihkomgmaaDoor.Wm Go.Proofs.YthoiolihkomgmaaDoor.Vm Go.Proofs.YthoiolihkomgmaaDoor.Vr Go.Proofs.YthoiolihkomgmaaDoor.Vs Go.Proofs.YthoiolihkomgmaaDoor.Vc Go.Proofs.YthoiolihkomgmaaDoor.Vh Go.Proofs.YthoiolihkomgmaaDoor.Cm Go.Proofs.YthoiolihkomgmaaDoor.Sh5 Go.Proofs.YthoiolihkomgmaaDoor.Rd5 Go.Proofs.YthoiolihkomgmaaDoor.Tx5 Go.Proofs.YthoiolihkomgmaaDoor.Pv5 Go.Proofs.YthoiolihkomgmaaDoor.Rv5
theorem value_any {w : World} {B : Nat} {l : List UInt8} (h : Rd w B l) (hl : l.length ≤ 90000) (hT : Tabs w) (hB : 1 < B) :
    Calls Tryd.prog 29 #[.pointer (some ⟨B, 0, none⟩)] w (Outc B w (Cm.value l) vv) := by
  cases l with
  | nil =>
    have h' : Rd (w.alloc (.cells #[.int .u8 0, .int .i64 0, .int .u64 0, .string ⟨#[]⟩] 24)) B [] := h.keep ((Below.refl _ _).alloc (Nat.le_refl _) _)
    have HN := Lib.hid (number_one h' (by simp))
    clear h h'
    go_enter Tryd.func29, Tryd.ntmps29
    go_wp2_with fail
    with_reducible refine HN.out.mono ?_
    rintro e w1 ⟨rfl, ho⟩
    exact ⟨rfl, rfl, (only_alloc w _).trans ho⟩
  | cons c r =>
    simp only [List.length_cons] at hl
    show Calls _ _ _ _ (Outc B w (rest c.toNat r) vv)
    unfold rest
    by_cases h1 : c.toNat = 1
    · rw [if_pos h1]; exact v_bool h (by omega) hT hB h1
    rw [if_neg h1]
    by_cases h2 : c.toNat = 2
    · rw [if_pos h2]; exact v_int h (by omega) hT hB h2
    rw [if_neg h2]
    by_cases h3 : c.toNat = 3
    · rw [if_pos h3]; exact v_real h (by omega) hT hB h3
    rw [if_neg h3]
    by_cases h4 : c.toNat = 4
    · rw [if_pos h4]; exact v_bytes h (by omega) hT hB h4
    rw [if_neg h4]
    by_cases h5 : c.toNat = 5
    · rw [if_pos h5]; exact v_string h (by omega) hT hB h5
    rw [if_neg h5]
    exact v_other h (by omega) hT hB ⟨by omega, by omega, by omega, by omega, by omega⟩
/-- A row of the call's own in block b. -/
def Slab (w : World) (b : Nat) (l : List V) : Prop := w.heap[b]? = some (.cells (cellsV l).toArray 24 (0, 0))
def zv : V := ⟨0, 0, 0, ⟨#[]⟩⟩
theorem cellsV_set : ∀ (l : List V) (k : Nat) (v : V), k < l.length → ((((cellsV l).set (k * 4) (.int .u8 v.k)).set (k * 4 + 1) (.int .i64 v.n)).set (k * 4 + 2) (.int .u64 (v.r : Int))).set (k * 4 + 3) (.string v.s) = cellsV (l.set k v)
  | [], k, v, h => by simp at h
  | a :: l, 0, v, h => by simp [cellsV]
  | a :: l, k + 1, v, h => by
    have ih := cellsV_set l k v (by simpa using h)
    have e : (k + 1) * 4 = k * 4 + 4 := by omega
    rw [e, List.set_cons_succ]
    simp only [cellsV]
    rw [← ih]
    simp
theorem Slab.at_ {w : World} {b : Nat} {l : List V} (h : Slab w b l) (k : Nat) (hk : k < l.length) : Four w b (k * 4) l[k] := by
  obtain ⟨a0, a1, a2, a3⟩ := cellsV_at l k hk
  unfold Slab at h
  refine ⟨?_, ?_, ?_, ?_⟩ <;> simp [World.cell?, h, a0, a1, a2, a3]
theorem Slab.soft {w : World} {b : Nat} {l : List V} (h : Slab w b l) (o : Nat) : w.frozen? ⟨b, o, none⟩ = false := by
  unfold Slab at h
  simp [World.frozen?, h]
theorem Slab.set {w : World} {b : Nat} {l : List V} (h : Slab w b l) (k : Nat) (v : V) (hk : k < l.length) :
    Slab ((((w.setCell ⟨b, k * 4, none⟩ (.int .u8 v.k)).setCell ⟨b, k * 4 + 1, none⟩ (.int .i64 v.n)).setCell ⟨b, k * 4 + 2, none⟩ (.int .u64 (v.r : Int))).setCell ⟨b, k * 4 + 3, none⟩ (.string v.s)) b (l.set k v) := by
  unfold Slab at h ⊢
  rw [heap_setCell_same _ _ _ _ _ _ (heap_setCell_same _ _ _ _ _ _ (heap_setCell_same _ _ _ _ _ _ (heap_setCell_same _ _ _ _ _ _ h)))]
  rw [← cellsV_set l k v hk]
  simp
theorem Slab.below {w w1 : World} {b : Nat} {l : List V} (h : Slab w b l) (hb : Below w.heap.size w w1) : Slab w1 b l := (hb.block b (lt_of_block h)).trans h
theorem Slab.only {w w1 : World} {B b : Nat} {l : List V} (h : Slab w b l) (ho : Only B w w1) (hB : b ≠ B) : Slab w1 b l := (ho.block b (lt_of_block h) (fun e => hB (Option.some.inj e))).trans h
theorem Slab.reads {w : World} {b : Nat} {l : List V} (h : Slab w b l) : Reads w (some ⟨b, 0, none⟩) l := fun _ => ⟨b, 0, rfl, lt_of_block h, fun k hk => by rw [Nat.zero_add]; exact h.at_ k hk⟩
def pre (m : List V) : Got (List V) → Got (List V)
  | .ok l r => .ok (m ++ l) r
  | .bad c => .bad c
theorem many_ok {n : Nat} {m : List V} {s r : List UInt8} {v : V} (h : Cm.value s = .ok v r) : pre m (many (n + 1) s) = pre (m ++ [v]) (many n r) := by
  simp only [many, h]
  cases many n r <;> simp [pre]
theorem many_bad {n : Nat} {m : List V} {s : List UInt8} {c : Int} (h : Cm.value s = .bad c) : pre m (many (n + 1) s) = .bad c := by
  simp only [many, h, pre]
def RowOut (B : Nat) (w : World) (g : Got (List V)) (e : Ending) (w' : World) : Prop :=
  match g with
  | .ok l r => ∃ b c, e = .returned (.slice (some ⟨b, 0, none⟩) l.length c) ∧ w.heap.size ≤ b ∧ Reads w' (some ⟨b, 0, none⟩) l ∧ Rd w' B r ∧ Only B w w'
  | .bad c => e = .panicked (gave c) ∧ Only B w w'
theorem stored_at {w w2 : World} {B b o : Nat} {l : List UInt8} {x0 x1 x2 x3 : Value} (ho : Only B w w2) (hr : Rd w2 B l) (ha : w.heap.size ≤ b) (hn : b ≠ B) :
    Rd ((((w2.setCell ⟨b, o, none⟩ x0).setCell ⟨b, o + 1, none⟩ x1).setCell ⟨b, o + 2, none⟩ x2).setCell ⟨b, o + 3, none⟩ x3) B l ∧ Only B w ((((w2.setCell ⟨b, o, none⟩ x0).setCell ⟨b, o + 1, none⟩ x1).setCell ⟨b, o + 2, none⟩ x2).setCell ⟨b, o + 3, none⟩ x3) :=
  ⟨(((hr.other hn _).other hn _).other hn _).other hn _, (((ho.new ha _).new ha _).new ha _).new ha _⟩
theorem infoV : (Tryd.prog.info? 24).map (fun i => (i.zero, i.size, i.bytes)) = some (some (.agg #[.int .u8 0, .int .i64 0, .int .u64 0, .string ⟨#[]⟩]), 4, 40) := by kernel_rfl
theorem made : ∀ N : Fin 9, madeCells (Value.agg #[.int .u8 0, .int .i64 0, .int .u64 0, .string ⟨#[]⟩]).cells (N.val * 4) = (cellsV (List.replicate N.val zv)).toArray := fun N => match N with
  | 0 => by kernel_rfl
  | 1 => by kernel_rfl
  | 2 => by kernel_rfl
  | 3 => by kernel_rfl
  | 4 => by kernel_rfl
  | 5 => by kernel_rfl
  | 6 => by kernel_rfl
  | 7 => by kernel_rfl
  | 8 => by kernel_rfl
theorem run_made (N : Nat) (h : N ≤ 8) (W : World) : (Instr.makeSlice 25 (.int .u64 (N : Int)) (.int .u64 (N : Int))).run Tryd.prog W = .ok (.slice (some ⟨W.heap.size, 0, none⟩) N N) (W.alloc (.cells (cellsV (List.replicate N zv)).toArray 24)) := by
  obtain ⟨i0, hi, hz0, hz1, hz2⟩ := info_parts infoV
  have hm := made ⟨N, by omega⟩
  simp only at hm
  rw [run_make W _ _ i0 _ Tryd.underlying25 hi hz0 .u64 .u64 (N : Int) (N : Int) (by omega) (by omega) (by rw [hz2]; omega) (by omega)]
  rw [hz1, Int.toNat_natCast, hm]
theorem rep_set (m : List V) (v : V) (j : Nat) : (m ++ List.replicate (j + 1) zv).set m.length v = (m ++ [v]) ++ List.replicate j zv := by
  rw [List.set_append_right _ _ (Nat.le_refl _), Nat.sub_self, List.replicate_succ]
  simp
/-- How far the row is read. -/
structure Mid (w wr : World) (B b N : Nat) (g : Got (List V)) (m : List V) (rk : List UInt8) : Prop where
  rd : Rd wr B rk
  slab : Slab wr b (m ++ List.replicate (N - m.length) zv)
  only : Only B w wr
  eq : pre m (many (N - m.length) rk) = g
  short : rk.length ≤ 90000
theorem value_rest {s r : List UInt8} {v : V} (h : Cm.value s = .ok v r) : r.length ≤ s.length := by
  cases s with
  | nil => cases h
  | cons k t =>
    have hc : ∀ (u : V) (x : List UInt8), checked u x = .ok v r → r = x := fun u x hx => by
      unfold checked at hx
      split at hx
      · cases hx; rfl
      · cases hx
    show r.length ≤ t.length + 1
    have h' : rest k.toNat t = .ok v r := h
    unfold rest at h'
    have hn : ∀ n u, num n t = .ok u r → r.length ≤ t.length := fun n u hu => (num_lt hu).2
    split at h'
    · cases hq : num 1 t with
      | ok u x => rw [hq] at h'; have := hc _ _ h'; subst this; have := hn _ _ hq; omega
      | bad c => rw [hq] at h'; cases h'
    split at h'
    · cases hq : num 8 t with
      | ok u x => rw [hq] at h'; have := hc _ _ h'; subst this; have := hn _ _ hq; omega
      | bad c => rw [hq] at h'; cases h'
    split at h'
    · cases hq : num 8 t with
      | ok u x => rw [hq] at h'; have := hc _ _ h'; subst this; have := hn _ _ hq; omega
      | bad c => rw [hq] at h'; cases h'
    split at h'
    · cases hq : text (fun _ _ => true) t with
      | ok u x => rw [hq] at h'; have := hc _ _ h'; subst this; have := (text_len hq).2; omega
      | bad c => rw [hq] at h'; cases h'
    split at h'
    · cases hq : text begins t with
      | ok u x => rw [hq] at h'; have := hc _ _ h'; subst this; have := (text_len hq).2; omega
      | bad c => rw [hq] at h'; cases h'
    have := hc _ _ h'; subst this; omega
set_option maxRecDepth 20000 in
set_option maxHeartbeats 1000000 in
theorem row_any {w : World} {B : Nat} {l : List UInt8} (h : Rd w B l) (hl : l.length ≤ 80000) (hT : Tabs w) (hB : 1 < B) :
    Calls Tryd.prog 34 #[.pointer (some ⟨B, 0, none⟩)] w (RowOut B w (Cm.row l)) := by
  have hBw := h.lt
  cases l with
  | nil =>
    have HN := Lib.hid (number_one h (by simp))
    clear h
    go_enter Tryd.func34, Tryd.ntmps34
    go_wp2_with fail
    with_reducible refine HN.out.mono ?_
    rintro e w1 ⟨rfl, ho⟩
    exact ⟨rfl, rfl, ho⟩
  | cons c r =>
    have HN : Hid (Calls Tryd.prog 40 #[.pointer (some ⟨B, 0, none⟩), .int .i64 1] w fun e w' => e = .returned (.int .u64 (c.toNat : Int)) ∧ Rd w' B r ∧ Only B w w') :=
      Lib.hid ((number_ok 1 h (by omega) (by omega) (by simp) (by omega)).mono fun e w' ⟨a, d, o⟩ => ⟨by rw [a, num1], d, o⟩)
    have hc := c.toNat_lt
    have HG := Lib.hid (fun W => give_up 7 W)
    have HT := Lib.hid hT
    have HW := Lib.hid hBw
    simp only [List.length_cons] at hl
    show Calls _ _ _ _ (RowOut B w (if 1 ≤ c.toNat ∧ c.toNat ≤ 8 then many c.toNat r else .bad 7))
    obtain ⟨N, hN⟩ : ∃ N, N = c.toNat := ⟨_, rfl⟩
    rw [← hN] at hc HN ⊢
    clear hN h hT hBw
    by_cases h1 : N < 1
    · rw [if_neg (by omega)]
      have hz1 : ((N : Int) < 1) := by omega
      go_enter Tryd.func34, Tryd.ntmps34
      go_wp2_with fail
      with_reducible refine HN.out.mono ?_
      rintro e w1 ⟨rfl, hr1, ho1⟩
      have HO1 := Lib.hid ho1
      clear hr1 ho1
      go_wp2_with fail
      with_reducible refine (HG.out _).mono ?_
      rintro e w2 ⟨rfl, rfl⟩
      exact ⟨rfl, rfl, HO1.out⟩
    by_cases h8 : 8 < N
    · rw [if_neg (by omega)]
      have hz1 : ¬ ((N : Int) < 1) := by omega
      have hz8 : ((8 : Int) < (N : Int)) := by omega
      go_enter Tryd.func34, Tryd.ntmps34
      go_wp2_with fail
      with_reducible refine HN.out.mono ?_
      rintro e w1 ⟨rfl, hr1, ho1⟩
      have HO1 := Lib.hid ho1
      clear hr1 ho1
      go_wp2_with fail
      with_reducible refine (HG.out _).mono ?_
      rintro e w2 ⟨rfl, rfl⟩
      exact ⟨rfl, rfl, HO1.out⟩
    · rw [if_pos (by omega)]
      have hz1 : ¬ ((N : Int) < 1) := by omega
      have hz8 : ¬ ((8 : Int) < (N : Int)) := by omega
      have hmk := fun W => run_made N (by omega) W
      have HM : Hid (pre [] (many N r) = many N r) := Lib.hid (by cases many N r <;> rfl)
      obtain ⟨g, hg⟩ : ∃ g, g = many N r := ⟨_, rfl⟩
      rw [← hg] at HM ⊢
      have HGG := Lib.hid hg
      clear hg
      go_enter Tryd.func34, Tryd.ntmps34
      go_wp2_with fail
      with_reducible refine HN.out.mono ?_
      rintro e w1 ⟨rfl, hr1, ho1⟩
      have HO1 := Lib.hid ho1; have HR1 := Lib.hid hr1
      have HM1 : Hid (Mid w (w1.alloc (.cells (cellsV (List.replicate N zv)).toArray 24)) B w1.heap.size N g [] r) :=
        Lib.hid ⟨hr1.keep ((Below.refl _ _).alloc (Nat.le_refl _) _), heap_alloc_new w1 _, ho1.trans (only_alloc w1 _), by show pre [] (many N r) = g; have h := HM.out; rw [HGG.out] at h ⊢; exact h, by omega⟩
      clear hr1 ho1
      go_wp2_with fail
      clear hmk
      go_loopw [5, 19, 20, 21, 22, 23, 24, 25, 26, 27] (fun _ i _ _ _ _ _ _ _ _ wr => ∃ (m : List V) (rk : List UInt8), m.length ≤ N ∧ i = .int .i64 (m.length : Int) ∧ Hid (Mid w wr B w1.heap.size N g m rk)) (fun _ i _ _ _ _ _ _ _ _ _ => N - (intOf i).toNat)
      case atStart => exact ⟨[], r, by simp, rfl, HM1⟩
      case round =>
        obtain ⟨m, rk, hmN, rfl, hmid⟩ := hrel
        have HTr := Lib.hid (only_tabs HT.out hmid.out.only hB)
        have hbB : w1.heap.size ≠ B := by have := HO1.out.size; have := HW.out; omega
        have hbw : w.heap.size ≤ w1.heap.size := HO1.out.size
        obtain ⟨k, hk⟩ : ∃ k, k = m.length := ⟨_, rfl⟩
        rw [← hk] at hmN ⊢
        have HK := Lib.hid hk
        by_cases hlt : k < N
        · have HV := Lib.hid (value_any hmid.out.rd hmid.out.short HTr.out hB)
          have heq := hmid.out.eq
          rw [show N - m.length = (N - (k + 1)) + 1 by omega] at heq
          clear hk
          cases hv : Cm.value rk with
          | bad d =>
            rw [hv] at HV
            rw [many_bad hv] at heq
            have HE := Lib.hid heq
            clear hv heq
            go_wp2_with fail
            with_reducible refine HV.out.mono ?_
            rintro e w2 ⟨rfl, ho2⟩
            exact ⟨rfl, HE.out ▸ (show RowOut B w (.bad d) (.panicked (gave d)) w2 from ⟨rfl, hmid.out.only.trans ho2⟩)⟩
          | ok v r' =>
            rw [hv] at HV
            rw [many_ok hv] at heq
            have hsh := value_rest hv
            have HE := Lib.hid heq
            have HSh := Lib.hid hsh
            clear hv heq hsh
            have hslab := hmid.out.slab
            rw [show N - m.length = (N - (k + 1)) + 1 by have := HK.out; omega] at hslab
            have HSl := Lib.hid hslab
            clear hslab
            obtain ⟨k0, n0, r0, s0⟩ := v
            have HV2 : Hid (Calls Tryd.prog 29 #[.pointer (some ⟨B, 0, none⟩)] wr fun e w' => e = .returned (.agg #[.int .u8 k0, .int .i64 n0, .int .u64 (r0 : Int), .string s0]) ∧ Rd w' B r' ∧ Only B wr w') := HV
            clear HV
            go_wp2_with fail
            with_reducible refine HV2.out.mono ?_
            rintro e w2 ⟨rfl, hr2, ho2⟩
            have hs2 := HSl.out.only ho2 hbB
            have hkl : k < (m ++ List.replicate (N - (k + 1) + 1) zv).length := by rw [List.length_append, List.length_replicate]; have := HK.out; omega
            obtain ⟨c0, c1, c2, c3⟩ := hs2.at_ k hkl
            have hsf := hs2.soft
            have hst := hs2.set k ⟨k0, n0, r0, s0⟩ hkl
            rw [show (m ++ List.replicate (N - (k + 1) + 1) zv).set k ⟨k0, n0, r0, s0⟩ = (m ++ [⟨k0, n0, r0, s0⟩]) ++ List.replicate (N - (k + 1)) zv by rw [HK.out]; exact rep_set _ _ _] at hst
            have HST := Lib.hid hst
            have HRS := Lib.hid (stored_at (b := w1.heap.size) (o := k * 4) (x0 := .int .u8 k0) (x1 := .int .i64 n0) (x2 := .int .u64 (r0 : Int)) (x3 := .string s0) (hmid.out.only.trans ho2) hr2 hbw hbB)
            obtain ⟨old, hold⟩ : ∃ x, x = (m ++ List.replicate (N - (k + 1) + 1) zv)[k]'hkl := ⟨_, rfl⟩
            rw [← hold] at c0 c1 c2 c3
            clear hold hs2 hkl hst hr2 ho2
            go_wp2
            go_round
            case rel =>
              refine ⟨m ++ [⟨k0, n0, r0, s0⟩], r', by rw [List.length_append, ← HK.out]; simp; omega, by rw [List.length_append, ← HK.out]; go_num, Lib.hid ⟨HRS.out.1, ?_, HRS.out.2, ?_, by have := HSh.out; have := hmid.out.short; omega⟩⟩
              · rw [List.length_append, ← HK.out]; exact HST.out
              · rw [List.length_append, ← HK.out]; exact HE.out
            case measure => simp [intOf]; omega
        · have hkN : k = N := by omega
          have heq := hmid.out.eq
          have hslab := hmid.out.slab
          rw [show N - m.length = 0 by omega] at heq hslab
          rw [List.replicate_zero, List.append_nil] at hslab
          have hg2 : g = .ok m rk := by rw [← heq]; simp [many, pre]
          have HG2 := Lib.hid hg2; have HSl := Lib.hid hslab
          clear heq hslab hg2 hk
          go_wp2
          go_ret
          rw [HG2.out]
          exact ⟨w1.heap.size, N, congrArg (fun n => Ending.returned (.slice (some ⟨w1.heap.size, 0, none⟩) n N)) (show N = m.length by rw [← HK.out, hkN]), hbw, HSl.out.reads, hmid.out.rd, hmid.out.only⟩
end Go.Proofs.YthoiolihkomgmaaDoor.Rx5
