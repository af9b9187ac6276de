/- The contract of the document's GetRow: it reads as the program does. -/
import Derived.Test.YthoiolihkomgmaaDoorGe5
import Derived.Test.YthoiolihkomgmaaDoorVh
import Derived.Maps.AppendAt
namespace Go.Proofs.YthoiolihkomgmaaDoor.Gr5
open Go Go.RowKit Go.Proofs Go.Proofs.YthoiolihkomgmaaDoor.Wm Go.Proofs.YthoiolihkomgmaaDoor.Vm Go.Proofs.YthoiolihkomgmaaDoor.Vr Go.Proofs.YthoiolihkomgmaaDoor.Ve Go.Proofs.YthoiolihkomgmaaDoor.Vs Go.Proofs.YthoiolihkomgmaaDoor.Vc Go.Proofs.YthoiolihkomgmaaDoor.Vk Go.Proofs.YthoiolihkomgmaaDoor.Vf Go.Proofs.YthoiolihkomgmaaDoor.Vh Go.Proofs.YthoiolihkomgmaaDoor.Cm Go.Proofs.YthoiolihkomgmaaDoor.Cb5 Go.Proofs.YthoiolihkomgmaaDoor.Cg5 Go.Proofs.YthoiolihkomgmaaDoor.Pv5 Go.Proofs.YthoiolihkomgmaaDoor.Rv5 Go.Proofs.YthoiolihkomgmaaDoor.Rs5 Go.Proofs.YthoiolihkomgmaaDoor.Rx5 Go.Proofs.YthoiolihkomgmaaDoor.Bg5 Go.Proofs.YthoiolihkomgmaaDoor.Ge5
def RefRow (w : World) (s : List UInt8) (g : Got (List V)) (e : Ending) (w' : World) : Prop :=
  match g with
  | .ok l r => ∃ A c, e = .returned (.tuple #[.slice A l.length c, .int .i64 ((s.length : Int) - (r.length : Int)), .int .i64 0]) ∧ Reads w' A l ∧ Below w.heap.size w w'
  | .bad c => e = .returned (.tuple #[.slice none 0 0, .int .i64 0, .int .i64 c]) ∧ Below w.heap.size w w'
/-- What the call owns stays owned. -/
theorem own_keep {w w' : World} {B e s : Nat} {v : Value} {n : Nat} {xs : List Value} (h : w.ownsRow B e s v n xs) (hb : Below w.heap.size w w') : w'.ownsRow B e s v n xs := by
  obtain ⟨h1, h2⟩ := h
  refine ⟨h1, ?_⟩
  rcases h2 with h2 | ⟨g, cap, cur, a, b, c, d⟩
  · exact .inl h2
  · exact .inr ⟨g, cap, cur, a, b, (hb.block g (lt_of_block c)).trans c, d⟩
theorem cellsV_snoc : ∀ (l : List V) (v : V), cellsV (l ++ [v]) = cellsV l ++ [.int .u8 v.k, .int .i64 v.n, .int .u64 (v.r : Int), .string v.s]
  | [], v => rfl
  | a :: l, v => by simp [cellsV, cellsV_snoc l v]
theorem news4 (w : World) (k n r : Int) (s : ByteArray) : ∀ (j : Nat) (u : Value), [Value.int .u8 k, .int .i64 n, .int .u64 r, .string s][j]? = some u → (w.alloc (.cells #[.int .u8 k, .int .i64 n, .int .u64 r, .string s] 24)).cell? ((⟨w.heap.size, 0, none⟩ : Addr).add j) = some u := by
  intro j u hj
  rw [WPut.addr_add, cell_of_row _ _ _ _ _ _ (heap_alloc_new w _)]
  match j, hj with
  | 0, hj => exact hj
  | 1, hj => exact hj
  | 2, hj => exact hj
  | 3, hj => exact hj
  | _ + 4, hj => simp at hj
theorem value_bad67 {x : List UInt8} {d : Int} (h : Cm.value x = .bad d) : d = 6 ∨ d = 7 := by
  have hnum : ∀ m x d, num m x = .bad d → d = 6 ∨ d = 7 := fun m x d hd => by
    unfold num at hd
    split at hd <;> cases hd
    exact .inl rfl
  have htext : ∀ b x d, text b x = .bad d → d = 6 ∨ d = 7 := fun b x d hd => by
    cases x with
    | nil => cases hd; exact .inl rfl
    | cons k x =>
      unfold text at hd
      simp only at hd
      split at hd
      · cases hd; exact .inr rfl
      split at hd
      · split at hd <;> cases hd
        · exact .inl rfl
        · exact .inr rfl
      · cases hd
  have hch : ∀ u x d, checked u x = .bad d → d = 6 ∨ d = 7 := fun u x d hd => by
    unfold checked at hd
    split at hd <;> cases hd
    exact .inr rfl
  have hval : ∀ x d, Cm.value x = .bad d → d = 6 ∨ d = 7 := fun x d hd => by
    cases x with
    | nil => cases hd; exact .inl rfl
    | cons k x =>
      have h' : rest k.toNat x = .bad d := hd
      unfold rest at h'
      split at h'
      · cases hq : num 1 x with
        | bad e => rw [hq] at h'; cases h'; exact hnum _ _ _ hq
        | ok n y => rw [hq] at h'; exact hch _ _ _ h'
      split at h'
      · cases hq : num 8 x with
        | bad e => rw [hq] at h'; cases h'; exact hnum _ _ _ hq
        | ok n y => rw [hq] at h'; exact hch _ _ _ h'
      split at h'
      · cases hq : num 8 x with
        | bad e => rw [hq] at h'; cases h'; exact hnum _ _ _ hq
        | ok n y => rw [hq] at h'; exact hch _ _ _ h'
      split at h'
      · cases hq : text (fun _ _ => true) x with
        | bad e => rw [hq] at h'; cases h'; exact htext _ _ _ hq
        | ok n y => rw [hq] at h'; exact hch _ _ _ h'
      split at h'
      · cases hq : text begins x with
        | bad e => rw [hq] at h'; cases h'; exact htext _ _ _ hq
        | ok n y => rw [hq] at h'; exact hch _ _ _ h'
      exact hch _ _ _ h'
  exact hval x d h
/-- How far the row is read. -/
structure Mid (w wr : World) (v : Value) (l : List UInt8) (N : Nat) (g : Got (List V)) (m : List V) (rk : List UInt8) (P : Nat) : Prop where
  own : wr.ownsRow w.heap.size 24 4 v m.length (cellsV m)
  below : Below w.heap.size w wr
  eq : pre m (many (N - m.length) rk) = g
  at_ : l.drop P = rk
  le : P ≤ l.length
theorem shape_own {w : World} {B : Nat} {v : Value} {l : List V} (h : w.ownsRow B 24 4 v l.length (cellsV l)) : ∃ A c, v = .slice A l.length c := by
  obtain ⟨A, c, e, _⟩ := Vh.Reads.own h
  exact ⟨A, c, e⟩
set_option maxRecDepth 20000 in
set_option maxHeartbeats 2000000 in
theorem refgetRow_any (l : List UInt8) (w : World) (hT : Tabs w) (hl : l.length ≤ 80000) :
    Calls Tryd.prog 20 #[.string (bs l)] w (RefRow w l (Cm.row l)) := by
  cases l with
  | nil =>
    show Calls _ _ #[.string ⟨#[]⟩] w _
    go_enter Tryd.func20, Tryd.ntmps20
    go_wp2
    refine bodyPost_ret (v := .tuple #[.slice none 0 0, .int .i64 0, .int .i64 6]) (by simp [results, Tryd.results20, go_sem]) rfl ⟨rfl, Below.refl _ _⟩
  | cons c t =>
    have hd := hd_of (c :: t)
    have hn : (bs (c :: t)).size = t.length + 1 := hd.size
    have hp : 0 < (bs (c :: t)).size := by omega
    have hx0 : (bs (c :: t))[0]'hp = c := hd.b0 hp
    have hc := c.toNat_lt
    have hw : IntKind.i64.wrap (c.toNat : Int) = (c.toNat : Int) := by rw [wrap_i64 (by omega)]; unfold toI; rw [if_pos (by omega)]
    have T0 := Lib.hid hT
    show Calls _ _ _ _ (RefRow w (c :: t) (if 1 ≤ c.toNat ∧ c.toNat ≤ 8 then many c.toNat t else .bad 7))
    obtain ⟨N, hN⟩ : ∃ N, N = c.toNat := ⟨_, rfl⟩
    have hcN : (c.toNat : Int) = (N : Int) := by rw [hN]
    rw [hcN] at hw
    rw [← hN] at hc ⊢
    obtain ⟨S, hS⟩ : ∃ S, S = bs (c :: t) := ⟨_, rfl⟩
    have HS := Lib.hid hS
    have hlen : (c :: t).length = t.length + 1 := rfl
    obtain ⟨l, hll⟩ : ∃ l, l = c :: t := ⟨_, rfl⟩
    rw [← hll] at hl HS hlen ⊢
    have HLL := Lib.hid hll
    have hxS : ∀ h : 0 < S.size, S[0]'h = c := by rw [hS]; intro h; exact hx0
    have hnS : S.size = t.length + 1 := by rw [hS]; exact hn
    have hpS : 0 < S.size := by omega
    have hx := hxS hpS
    rw [← HS.out]
    clear hd hn hp hx0 hT hS hll hN hxS
    by_cases h1 : N < 1
    · rw [if_neg (by omega)]
      have hz1 : (N : Int) < 1 := by omega
      go_enter Tryd.func20, Tryd.ntmps20
      go_wp2
      refine bodyPost_ret (v := .tuple #[.slice none 0 0, .int .i64 0, .int .i64 7]) (by simp [results, Tryd.results20, go_sem]) rfl ⟨rfl, Below.refl _ _⟩
    by_cases h8 : 8 < N
    · rw [if_neg (by omega)]
      have hz1 : ¬ (N : Int) < 1 := by omega
      have hz8 : (8 : Int) < (N : Int) := by omega
      go_enter Tryd.func20, Tryd.ntmps20
      go_wp2
      refine bodyPost_ret (v := .tuple #[.slice none 0 0, .int .i64 0, .int .i64 7]) (by simp [results, Tryd.results20, go_sem]) rfl ⟨rfl, Below.refl _ _⟩
    rw [if_pos (by omega)]
    have hz1 : ¬ (N : Int) < 1 := by omega
    have hz8 : ¬ (8 : Int) < (N : Int) := by omega
    obtain ⟨i0, hi, hz0, hzz1, hz2⟩ := info_parts Vh.infoV
    obtain ⟨g, hg⟩ : ∃ g, g = many N t := ⟨_, rfl⟩
    have HM : Hid (Mid w w (.slice none 0 0) l N g [] t 1) := Lib.hid ⟨⟨rfl, .inl ⟨rfl, rfl⟩⟩, Below.refl _ _, by rw [hg]; show pre [] (many N t) = _; cases many N t <;> rfl, by rw [HLL.out]; rfl, by omega⟩
    rw [← hg]
    clear hg
    go_enter Tryd.func20, Tryd.ntmps20
    go_wp2
    go_loopw [5, 7, 8, 9, 10, 11, 24, 25, 26, 27, 28, 29, 30, 31, 32, 33, 34, 35, 36, 37, 38, 40, 41, 42, 43, 44, 45, 46] (fun p v i _ _ _ _ _ _ _ _ _ _ _ _ _ _ _ _ _ _ _ _ _ _ _ _ _ wr => ∃ (m : List V) (rk : List UInt8) (P : Nat), m.length ≤ N ∧ i = .int .i64 (m.length : Int) ∧ p = .int .i64 (P : Int) ∧ Hid (Mid w wr v l N g m rk P)) (fun _ _ i _ _ _ _ _ _ _ _ _ _ _ _ _ _ _ _ _ _ _ _ _ _ _ _ _ _ => N - (intOf i).toNat)
    case atStart => exact ⟨[], t, 1, by simp, rfl, rfl, HM⟩
    case round =>
      obtain ⟨m, rk, P, hmN, rfl, rfl, hmid⟩ := hrel
      have HTr := Lib.hid (T0.out.keep hmid.out.below)
      obtain ⟨k, hk⟩ : ∃ k, k = m.length := ⟨_, rfl⟩
      rw [← hk] at hmN ⊢
      have HK := Lib.hid hk
      obtain ⟨A7, c7, rfl⟩ := shape_own hmid.out.own
      by_cases hlt : k < N
      · have hP : P ≤ t.length + 1 := by have := hmid.out.le; omega
        have hPz : (P : Int) ≤ (t.length : Int) + 1 := by omega
        have hPz0 : (0 : Int) ≤ (P : Int) := by omega
        obtain ⟨R, hR⟩ : ∃ R, R = bs rk := ⟨_, rfl⟩
        have hex : S.extract P (t.length + 1) = R := by rw [HS.out, hR, ← hmid.out.at_, ← hlen]; exact bs_drop l P
        have hrl : rk.length + P = t.length + 1 := by rw [← hmid.out.at_, List.length_drop, ← hlen]; have := hmid.out.le; omega
        have FG := Lib.hid (refget_any rk wr HTr.out (by omega))
        rw [← hR] at FG
        have heq := hmid.out.eq
        rw [show N - m.length = (N - (k + 1)) + 1 by omega] at heq
        cases hv : Cm.value rk with
        | bad d =>
          rw [hv] at FG
          rw [many_bad hv] at heq
          have HE := Lib.hid heq
          have hdz : d = 6 ∨ d = 7 := value_bad67 hv
          have hdb : ((d : Int) != 0) = true := by rcases hdz with rfl | rfl <;> rfl
          have hdb2 : ¬ d = 0 := by omega
          clear hv heq hR hk hdz
          go_wp2_with fail
          with_reducible refine FG.out.mono ?_
          rintro e w2 ⟨rfl, hb2⟩
          have HB2 := Lib.hid hb2
          clear hb2
          unfold vv
          go_wp2
          refine bodyPost_ret (v := .tuple #[.slice none 0 0, .int .i64 0, .int .i64 d]) (by simp [results, Tryd.results20, go_sem]) rfl ?_
          exact HE.out ▸ (show RefRow w l (.bad d) (.returned (.tuple #[.slice none 0 0, .int .i64 0, .int .i64 d])) _ from ⟨rfl, (hmid.out.below.trans (HB2.out.mono hmid.out.below.size)).alloc (by have := hmid.out.below.size; have := HB2.out.size; omega) _⟩)
        | ok v r' =>
          rw [hv] at FG
          rw [many_ok hv] at heq
          have HE := Lib.hid heq
          obtain ⟨hb1, _, _⟩ := value_back hv
          have hrr := value_rest hv
          obtain ⟨d, hd⟩ : ∃ d, d = rk.length - r'.length := ⟨_, rfl⟩
          have hdz : (rk.length : Int) - (r'.length : Int) = (d : Int) := by omega
          have hdr : rk.drop d = r' := by
            have hdl : d = (put v).length := by rw [hd, hb1, List.length_append]; omega
            rw [hdl, hb1, List.drop_left]
          have HAt : Hid (l.drop (P + d) = r') := Lib.hid (by rw [← hdr, ← hmid.out.at_, List.drop_drop])
          have HLe : Hid (P + d ≤ l.length) := Lib.hid (by rw [hlen]; omega)
          obtain ⟨k0, n0, r0, s0⟩ := v
          have FG2 : Hid (Calls Tryd.prog 18 #[.string R] wr fun e w' => e = .returned (.tuple #[.agg #[.int .u8 k0, .int .i64 n0, .int .u64 (r0 : Int), .string s0], .int .i64 (d : Int), .int .i64 0]) ∧ Below wr.heap.size wr w') := by
            have h : Hid (Calls Tryd.prog 18 #[.string R] wr fun e w' => e = .returned (.tuple #[vv ⟨k0, n0, r0, s0⟩, .int .i64 ((rk.length : Int) - (r'.length : Int)), .int .i64 0]) ∧ Below wr.heap.size wr w') := FG
            rw [hdz] at h
            exact h
          have h63 : Hid (m.length + 1 ≤ maxLen) := Lib.hid (by unfold maxLen; omega)
          have hby : Hid ((m.length + 1) * 40 ≤ 140737488355328) := Lib.hid (by omega)
          have hone : Hid (∀ u ∈ [Value.int .u8 k0, .int .i64 n0, .int .u64 (r0 : Int), .string s0], u.oneCell' = true) := Lib.hid (by intro u hu; simp at hu; rcases hu with rfl | rfl | rfl | rfl <;> rfl)
          have HPd : Hid ((P : Int) + (d : Int) ≤ 90000) := Lib.hid (by have := HLe.out; omega)
          clear hv heq hR hk FG hb1 hrr hd hdz hdr
          go_wp2_with fail
          with_reducible refine FG2.out.mono ?_
          rintro e w2 ⟨rfl, hb2⟩
          have HB2 := Lib.hid hb2
          have hnw := news4 (w2.alloc (.cells #[.int .u8 k0, .int .i64 n0, .int .u64 (r0 : Int), .string s0] 24)) k0 n0 (r0 : Int) s0
          rw [show (w2.alloc (.cells #[.int .u8 k0, .int .i64 n0, .int .u64 (r0 : Int), .string s0] 24)).heap.size = w2.heap.size + 1 from Array.size_push ..] at hnw
          have HNW := Lib.hid hnw
          have HO := Lib.hid (((own_keep hmid.out.own hb2).alloc (.cells #[.int .u8 k0, .int .i64 n0, .int .u64 (r0 : Int), .string s0] 24)).alloc (.cells #[.int .u8 k0, .int .i64 n0, .int .u64 (r0 : Int), .string s0] 24))
          have HBw := Lib.hid (hmid.out.below.trans (hb2.mono hmid.out.below.size))
          have hbas : Hid (w.heap.size ≤ ((w2.alloc (.cells #[.int .u8 k0, .int .i64 n0, .int .u64 (r0 : Int), .string s0] 24)).alloc (.cells #[.int .u8 k0, .int .i64 n0, .int .u64 (r0 : Int), .string s0] 24)).heap.size) := Lib.hid (by have := HBw.out.size; simp; omega)
          have hP9 := HPd.out
          clear hb2 hnw
          go_wp2_with (at_builtin; refine wpList_append_own_at _ rfl _ _ 25 rfl w.heap.size 24 i0 _ 4 40 Tryd.underlying25 hi hz0 hzz1 hz2 rfl (by decide) _ _ _ rfl HO.out ⟨w2.heap.size + 1, 0, none⟩ 1 1 [.int .u8 k0, .int .i64 n0, .int .u64 (r0 : Int), .string s0] rfl rfl HNW.out hone.out h63.out hby.out hbas.out ?_; intro v3 w3 q1 q2 q3 q4; have HV := Lib.hid (And.intro q1 q2); clear q1 q2 q3 q4)
          have hlm : (m ++ [(⟨k0, n0, r0, s0⟩ : V)]).length = k + 1 := by rw [List.length_append, ← HK.out]; rfl
          refine ⟨⟨m ++ [⟨k0, n0, r0, s0⟩], r', P + d, by omega, by rw [hlm]; go_num, by go_num, Lib.hid ⟨?_, ?_, ?_, HAt.out, HLe.out⟩⟩, by simp [intOf]; omega⟩
          · rw [List.length_append, cellsV_snoc]
            exact HV.out.1
          · have hown2 := own_keep hmid.out.own HB2.out
            exact ((HBw.out.alloc HBw.out.size _).alloc (by have := HBw.out.size; simp; omega) _).grown HV.out.2 hbas.out (fun x hx => (hown2.lt x hx).1)
          · rw [hlm]; exact HE.out
      · have hkN : k = N := by omega
        have heq := hmid.out.eq
        rw [show N - m.length = 0 by omega] at heq
        have hg2 : g = .ok m rk := by rw [← heq]; simp [many, pre]
        have HG2 := Lib.hid hg2
        have hPn : (P : Int) = (l.length : Int) - (rk.length : Int) := by rw [← hmid.out.at_, List.length_drop]; have := hmid.out.le; omega
        have HPn := Lib.hid hPn
        obtain ⟨A9, c9, e9, hrd⟩ := Vh.Reads.own hmid.out.own
        have HRD := Lib.hid hrd
        have HE9 := Lib.hid e9
        clear heq hg2 hk hPn e9 hrd
        go_wp2
        refine bodyPost_ret (v := .tuple #[.slice A7 m.length c7, .int .i64 (P : Int), .int .i64 0]) (by simp [results, Tryd.results20, go_sem]) rfl ?_
        rw [HG2.out]
        exact ⟨A9, c9, by rw [HE9.out, HPn.out], HRD.out, hmid.out.below⟩
end Go.Proofs.YthoiolihkomgmaaDoor.Gr5
