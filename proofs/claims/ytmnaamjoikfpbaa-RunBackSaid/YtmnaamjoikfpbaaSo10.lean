/- The contract of run.spotsOf at a run's bytes and texts; rows of spots. -/
import Derived.Test.YtmnaamjoikfpbaaPo10
import Derived.Test.YtmnaamjoikfpbaaBo10
namespace Go.Proofs.Ytmnaamjoikfpbaa.So10
open Go Go.RowKit Go.Proofs.Ytmnaamjoikfpbaa.Wm Go.Proofs.Ytmnaamjoikfpbaa.Fl7 Go.Proofs.Ytmnaamjoikfpbaa.Rs7 Go.Proofs.Ytmnaamjoikfpbaa.Pm9 Go.Proofs.Ytmnaamjoikfpbaa.Wd9 Go.Proofs.Ytmnaamjoikfpbaa.Mt9 Go.Proofs.Ytmnaamjoikfpbaa.Rd9 Go.Proofs.Ytmnaamjoikfpbaa.Fd10 Go.Proofs.Ytmnaamjoikfpbaa.By10
theorem infoT : (Try.prog.info? 84).map (fun i => (i.zero, i.size, i.bytes)) = some (some (.agg #[.string ⟨#[]⟩, .int .i64 0, .string ⟨#[]⟩]), 3, 40) := by kernel_rfl
def cellsT1 (s : Spot) : List Value := [.string s.k, .int .i64 (s.o : Int), .string s.f]
def cellsT (l : List Spot) : List Value := l.flatMap cellsT1
theorem cellsT_len : ∀ l : List Spot, (cellsT l).length = 3 * l.length
  | [] => rfl
  | p :: l => by
    show (cellsT1 p ++ cellsT l).length = _
    rw [List.length_append, cellsT_len l]
    show 3 + _ = 3 * (l.length + 1)
    omega
theorem cellsT_append (l m : List Spot) : cellsT (l ++ m) = cellsT l ++ cellsT m := List.flatMap_append ..
theorem cellsT_get (l : List Spot) (k j : Nat) (hk : k < l.length) (hj : j < 3) : (cellsT l)[3 * k + j]? = (cellsT1 l[k])[j]? := by
  induction l generalizing k with
  | nil => simp at hk
  | cons p l ih =>
    show (cellsT1 p ++ cellsT l)[3 * k + j]? = _
    cases k with
    | zero => rw [List.getElem?_append_left (by show 3 * 0 + j < 3; omega)]; simp
    | succ k =>
      rw [List.getElem?_append_right (by show 3 ≤ 3 * (k + 1) + j; omega)]
      have e : 3 * (k + 1) + j - (cellsT1 p).length = 3 * k + j := by show 3 * (k + 1) + j - 3 = _; omega
      rw [e, ih k (by simpa using hk)]
      rfl
/-- The slice at A reads as these spots. -/
def ReadsT (w : World) (A : Option Addr) (l : List Spot) : Prop :=
  l ≠ [] → ∃ b o, A = some ⟨b, o, none⟩ ∧ b < w.heap.size ∧ ∀ k (h : k < l.length), w.cell? ⟨b, o + k * 3, none⟩ = some (.string l[k].k) ∧ w.cell? ⟨b, o + k * 3 + 1, none⟩ = some (.int .i64 (l[k].o : Int)) ∧ w.cell? ⟨b, o + k * 3 + 2, none⟩ = some (.string l[k].f)
theorem ReadsT.keep {w w' : World} {A : Option Addr} {l : List Spot} (h : ReadsT w A l) (hk : ∀ b, (∃ o, A = some ⟨b, o, none⟩) → b < w.heap.size → w'.heap[b]? = w.heap[b]?) : ReadsT w' A l := fun hl => by
  obtain ⟨b, o, rfl, hlt, hc⟩ := h hl
  have hb := hk b ⟨o, rfl⟩ hlt
  have e : ∀ i, w'.cell? ⟨b, i, none⟩ = w.cell? ⟨b, i, none⟩ := fun i => by simp [World.cell?, hb]
  refine ⟨b, o, rfl, ?_, fun k h => ?_⟩
  · have : w.heap[b]? = some w.heap[b] := Array.getElem?_eq_getElem hlt
    rw [← hb] at this
    exact lt_of_at this
  · obtain ⟨c0, c1, c2⟩ := hc k h
    exact ⟨(e _).trans c0, (e _).trans c1, (e _).trans c2⟩
def RowT (n0 : Nat) (l : List Spot) (v : Value) (W : World) : Prop := W.ownsRow n0 84 3 v l.length (cellsT l)
theorem RowT.keep {n0 : Nat} {l : List Spot} {v : Value} {W W' : World} (h : RowT n0 l v W) (hb : Below W.heap.size W W') : RowT n0 l v W' :=
  World.ownsRow.kept h (⟨hb.os, hb.tape, hb.output, hb.size, fun k hk _ => hb.block k hk⟩ : W.grownBy W' none) (by cases v.ownBlock <;> simp)
theorem RowT.own_lt {n0 : Nat} {l : List Spot} {v : Value} {W : World} (h : RowT n0 l v W) : ∀ x, v.ownBlock = some x → n0 ≤ x := fun x hx => (World.ownsRow.lt h x hx).1
theorem rowT_shape {W : World} {n0 : Nat} {v : Value} {l : List Spot} (h : RowT n0 l v W) : ∃ A c, v = .slice A l.length c := by
  rcases h.2 with ⟨hv, h0⟩ | ⟨g, cap, cur, hv, _⟩
  · exact ⟨none, 0, by rw [hv, h0]⟩
  · exact ⟨_, _, hv⟩
theorem tapp_ok {n0 : Nat} {w W w2 : World} {l : List Spot} {t : Spot} {v v2 : Value} (hown : RowT n0 l v W) (hB : Below n0 w W) (hn : n0 ≤ W.heap.size)
    (r1 : w2.ownsRow n0 84 3 v2 (l.length + 1) (cellsT l ++ cellsT1 t)) {o : Obj} (r2 : (W.alloc o).grownBy w2 v.ownBlock) : ∃ A2 c2, v2 = .slice A2 (l.length + 1) c2 ∧ RowT n0 (l ++ [t]) v2 w2 ∧ Below n0 w w2 := by
  have e1 : (l ++ [t]).length = l.length + 1 := by simp
  have e2 : cellsT (l ++ [t]) = cellsT l ++ cellsT1 t := by rw [cellsT_append]; show _ ++ (cellsT1 t ++ []) = _; rw [List.append_nil]
  have hr : RowT n0 (l ++ [t]) v2 w2 := by unfold RowT; rw [e1, e2]; exact r1
  obtain ⟨A2, c2, h2⟩ := rowT_shape hr
  exact ⟨A2, c2, by rw [h2, e1], hr, (hB.alloc hn _).grown r2 (by simp; omega) hown.own_lt⟩
theorem newsT (W : World) (s : Spot) : ∀ j u, (cellsT1 s)[j]? = some u → (W.alloc (.cells #[.string s.k, .int .i64 (s.o : Int), .string s.f] 84)).cell? ((⟨W.heap.size, 0, none⟩ : Addr).add j) = some u := by
  intro j u hj
  have e : (⟨W.heap.size, 0, none⟩ : Addr).add j = ⟨W.heap.size, j, none⟩ := by cases j <;> simp [Addr.add]
  rw [e, cell_of (heap_new W (.cells #[.string s.k, .int .i64 (s.o : Int), .string s.f] 84)) j]
  rw [← hj]
  exact List.getElem?_toArray ..
theorem oneT (s : Spot) : ∀ u ∈ cellsT1 s, u.oneCell' = true := by
  intro u hu
  simp only [cellsT1, List.mem_cons, List.not_mem_nil, or_false] at hu
  rcases hu with rfl | rfl | rfl <;> rfl
theorem readsT_of_own {W : World} {n0 : Nat} {A : Option Addr} {n c : Nat} {l : List Spot} (h : RowT n0 l (.slice A n c) W) : ReadsT W A l := fun hne => by
  have hl : 0 < l.length := List.length_pos_iff.2 hne
  rcases h.2 with ⟨hv, h0⟩ | ⟨g, cap, cur, hv, hb, hg, hrest⟩
  · omega
  · have hA : A = some ⟨g, 0, none⟩ := by injection hv
    have hcells := World.ownsRow.cells h (g := g) (by rw [hv]; rfl)
    refine ⟨g, 0, hA, (Array.getElem?_eq_some_iff.1 hg).1, fun k hk => ?_⟩
    have one : ∀ j u, j < 3 → (cellsT1 l[k])[j]? = some u → W.cell? ⟨g, 0 + k * 3 + j, none⟩ = some u := fun j u hj hu => by
      have h1 := hcells (3 * k + j) u (by rw [cellsT_get l k j hk hj]; exact hu)
      have e : (⟨g, 0, none⟩ : Addr).add (3 * k + j) = ⟨g, 0 + k * 3 + j, none⟩ := by unfold Addr.add; split <;> simp_all; omega
      rwa [e] at h1
    exact ⟨one 0 _ (by omega) rfl, one 1 _ (by omega) rfl, one 2 _ (by omega) rfl⟩
/-- A row of spots doesn't lie where a pair does. -/
theorem own_ne {W : World} {n0 : Nat} {v : Value} {l : List Spot} {b : Nat} {x : Pr} (h : RowT n0 l v W) (hb : W.heap[b]? = some (pairO x)) : ¬ some b = v.ownBlock := fun e => by
  rcases h.2 with ⟨rfl, _⟩ | ⟨g, cap, cur, rfl, _, hg, _⟩
  · cases e
  · obtain rfl : b = g := by simpa [Value.ownBlock] using e
    rw [hb] at hg
    cases hg
/-- The key ahead of pair k. -/
def lastK (L : List Pr) : Nat → ByteArray
  | 0 => ⟨#[]⟩
  | k + 1 => (L.getD k ⟨⟨#[]⟩, ⟨#[]⟩, false⟩).k
theorem lastK_succ {L : List Pr} {k : Nat} (h : k < L.length) : lastK L (k + 1) = L[k].k := by simp [lastK, List.getD, List.getElem?_eq_getElem h]
theorem lastK_lt {L : List Pr} (hs : Sorted L) (hm : ∀ x ∈ L, may x = true) {k : Nat} (h : k < L.length) : lt (lastK L k) L[k].k = true := by
  cases k with
  | zero =>
    have := (may_bound (hm _ (List.getElem_mem h))).1
    unfold lastK lt
    have e : (ByteArray.toList ⟨#[]⟩) = [] := by rw [ByteArray.toList_eq]
    rw [e, ByteArray.toList_eq]
    have hl : L[0].k.data.toList.length = L[0].k.size := by simp
    cases hk : L[0].k.data.toList with
    | nil => rw [hk] at hl; simp at hl; omega
    | cons a l => rfl
  | succ k =>
    rw [lastK_succ (show k < L.length by omega)]
    exact List.pairwise_iff_getElem.1 hs _ _ (by omega) h (by omega)
theorem fr_tail (t : List UInt8) : (bs (fr t)).extract 12 (bs (fr t)).size = bs t := by
  rw [← bs_of ((bs (fr t)).extract 12 (bs (fr t)).size), Ff7.ex_list, bs_list, bs_size, List.take_length]
  have := fr_drop12 t []
  rw [List.append_nil, List.append_nil] at this
  rw [this]
theorem rb_cut (L : List Pr) (i : Nat) (h : i < L.length) : (bs (rb L)).extract (plc L i) (plc L i + 12 + (tx L[i]).length) = bs (fr (tx L[i])) ∧ plc L i + 12 + (tx L[i]).length ≤ (rb L).length := by
  obtain ⟨A, B, e, hA⟩ := rb_parts L i h
  have hf := (fine_iff h).1 (fine_rb L i h)
  constructor
  · rw [← bs_of ((bs (rb L)).extract _ _), Ff7.ex_list, bs_list]
    rw [fr_len, List.take_drop] at hf
    rw [Nat.add_assoc]
    rw [hf]
  · have := congrArg List.length e
    rw [List.length_append, List.length_append, fr_len, hA] at this
    omega
theorem spots_take {L : List Pr} {k : Nat} (h : k < L.length) : spots 20 (L.take (k + 1)) = spots 20 (L.take k) ++ [⟨L[k].k, plc L k, bs (fr (tx L[k]))⟩] := by
  rw [List.take_succ_eq_append_getElem h, spots_append]
  rfl
set_option maxRecDepth 20000 in
set_option maxHeartbeats 4000000 in
theorem spots_any (w : World) (A : Option Addr) (c : Nat) (L : List Pr) (hl : Rds w A ((texts L).map bs)) (hlen : L.length ≤ 1000000) (hcap : L.length + 1 ≤ c ∧ c ≤ maxLen) (hs : Sorted L) (hm : ∀ x ∈ L, may x = true) :
    Calls Try.prog 33 #[.string (bs (rb L)), .slice A (L.length + 1) c] w fun e w' => (∃ g c', e = .returned (.tuple #[.slice (some ⟨g, 0, none⟩) L.length c', .bool true]) ∧ RowT w.heap.size (spots 20 L) (.slice (some ⟨g, 0, none⟩) L.length c') w') ∧ Below w.heap.size w w' := by
  obtain ⟨i0, hi, hz0, hz1, hz2⟩ := info_parts infoT
  obtain ⟨N, hN⟩ : ∃ N, N = L.length := ⟨_, rfl⟩
  have hne : (texts L).map bs ≠ [] := by unfold texts; simp
  obtain ⟨b, o, rfl, hbl, hcs⟩ := hl hne
  have h0 := hcs 0 (by unfold texts; simp)
  simp only [texts, List.map_cons, List.getElem_cons_zero] at h0
  have hck : ∀ k (h : k < L.length), w.cell? ⟨b, o + (k + 1), none⟩ = some (.string (bs (tx L[k]))) := fun k h => by
    have := hcs (k + 1) (by unfold texts; simp; omega)
    simpa [texts] using this
  rw [← hN] at h0 hlen hcap ⊢
  obtain ⟨hcap1, hcap2⟩ := hcap
  unfold maxLen at hcap2
  obtain ⟨hd, hhd⟩ : ∃ hd, hd = bs (putN N 8) := ⟨_, rfl⟩
  have hhs : hd.size = 8 := by rw [hhd, bs_size, putN_length]
  have hCt : ∀ W, Calls Try.prog 49 #[.int .i64 (N : Int)] W fun e w' => e = .returned (.string hd) ∧ Below W.heap.size W w' := fun W => by rw [hhd]; exact count_any N W (by omega)
  rw [← hhd] at h0
  obtain ⟨F, hF⟩ : ∃ F, F = bs (rb L) := ⟨_, rfl⟩
  have hFz : F.size ≤ 1099511627776 := by
    rw [hF, bs_size, rb_len]
    have := Bo10.size_may L hm
    omega
  rw [← hF]
  have hN1 : ¬ ((N : Int) + 1 = 0) := by omega
  have hN2 : ((N : Int) + 1 == 0) = false := by simp; omega
  have hwN : IntKind.i64.wrap (N : Int) = (N : Int) := by rw [IntKind.wrap_i64]; omega
  have HCT := Lib.hid hCt
  have HC := Lib.hid hck
  have HN := Lib.hid hN
  have HF := Lib.hid hF
  have HS := Lib.hid hs
  have HM := Lib.hid hm
  have h00 : w.cell? ⟨b, o, none⟩ = some (.string hd) := h0
  have H0 : Hid (∀ W, Below w.heap.size w W → W.cell? ⟨b, o, none⟩ = some (.string hd)) := Lib.hid fun W hW => (hW.cell (p := ⟨b, o, none⟩) hbl).trans h00
  have HBL := Lib.hid hbl
  have HX0 : Hid (Below w.heap.size w w.drew) := Lib.hid (Below.refl _ _).drew
  clear hck hhd hN hF hs hm h0 hne hcs hCt hbl hl
  go_enter Try.func33, Try.ntmps33
  go_wp2
  go_region_held3 (fun V => V.cell? ⟨b, o, none⟩ = some (.string hd)) (first | exact H0.out _ (Hid.out (by assumption)) | go_keep) (first
      | ((with_reducible refine (HCT.out _).mono ?_); rintro e V1 ⟨rfl, hb1⟩; have HX1 := chain (by assumption) hb1; clear hb1))
  have hn1 := HX1.out.size
  obtain ⟨w1, hmk, hown, hgr⟩ := run_make_own (P := Try.prog) V1 w.heap.size 77 84 i0 (.agg #[.string ⟨#[]⟩, .int .i64 0, .string ⟨#[]⟩]) 3 Try.underlying77 hi hz0 hz1 .i64 .i64 N (by rw [hz2]; omega) (by unfold maxLen; omega) hn1
  have hb1 := HX1.out.trans ((Bo10.below_grown hgr).mono hn1)
  have HB1 := Lib.hid hb1
  have HO1 : Hid (RowT w.heap.size [] (.slice (some ⟨V1.heap.size, 0, none⟩) 0 N) w1) := Lib.hid hown
  have g0 := H0.out _ hb1
  clear hb1 hown hgr
  by_cases hc1 : c - 1 = 0
  · obtain rfl : c = 1 := by omega
    obtain rfl : N = 0 := by omega
    have hL : spots 20 L = [] := by
      have : L = [] := List.length_eq_zero_iff.1 HN.out.symm
      rw [this]; rfl
    have HE := Lib.hid hL
    rw [show ((0 : Nat) : Int) = 0 from rfl] at hmk
    clear hL hc1 hN1 hN2 hwN HCT
    go_wp2
    go_loopw [6, 7, 8, 10, 11, 12, 13, 39, 40, 41, 42, 43, 44, 45, 46, 47, 48, 49, 50, 51, 52, 53, 54, 55, 56, 57, 58, 59, 60, 61, 62, 63, 64, 65, 66, 67, 68, 69, 70, 71, 72, 73, 74, 75, 76, 77, 78, 79] (fun v _ _ _ _ _ _ i _ _ _ _ _ _ _ _ _ _ _ _ _ _ _ _ _ _ _ _ _ _ _ _ _ _ _ _ _ _ _ _ _ _ _ _ _ _ _ _ wr => i = .int .i64 0 ∧ v = .slice (some ⟨V1.heap.size, 0, none⟩) 0 0 ∧ Hid (wr = w1)) (fun _ _ _ _ _ _ _ _ _ _ _ _ _ _ _ _ _ _ _ _ _ _ _ _ _ _ _ _ _ _ _ _ _ _ _ _ _ _ _ _ _ _ _ _ _ _ _ _ _ => 0)
    case atStart => exact ⟨rfl, rfl, Lib.hid rfl⟩
    case round =>
      obtain ⟨rfl, rfl, hw⟩ := hrel
      go_wp2
      go_ret2
      refine ⟨⟨_, _, rfl, ?_⟩, ?_⟩
      · rw [HE.out, hw.out]; exact HO1.out
      · rw [hw.out]; exact HB1.out
  go_wp2
  go_loopw [6, 7, 8, 10, 11, 12, 13, 39, 40, 41, 42, 43, 44, 45, 46, 47, 48, 49, 50, 51, 52, 53, 54, 55, 56, 57, 58, 59, 60, 61, 62, 63, 64, 65, 66, 67, 68, 69, 70, 71, 72, 73, 74, 75, 76, 77, 78, 79] (fun v q s _ _ _ _ i _ _ _ _ _ _ _ _ _ _ _ _ _ _ _ _ _ _ _ _ _ _ _ _ _ _ _ _ _ _ _ _ _ _ _ _ _ _ _ _ wr => ∃ (k : Nat) (g : Nat) (c' : Nat), k ≤ N ∧ i = .int .i64 k ∧ v = .slice (some ⟨g, 0, none⟩) k c' ∧ q = .int .i64 (plc L k : Nat) ∧ s = .string (lastK L k) ∧ Hid (RowT w.heap.size (spots 20 (L.take k)) (.slice (some ⟨g, 0, none⟩) k c') wr) ∧ Hid (Below w.heap.size w wr)) (fun _ _ _ _ _ _ _ i _ _ _ _ _ _ _ _ _ _ _ _ _ _ _ _ _ _ _ _ _ _ _ _ _ _ _ _ _ _ _ _ _ _ _ _ _ _ _ _ _ => N - (intOf i).toNat)
  case atStart => exact ⟨0, _, _, by omega, rfl, rfl, rfl, rfl, HO1, HB1⟩
  case round =>
    obtain ⟨k, g, c', hk, rfl, rfl, rfl, rfl, hrow, hB⟩ := hrel
    by_cases hlt : k < N
    · have hil : k < L.length := by rw [← HN.out]; exact hlt
      have hcell : wr.cell? ⟨b, o + 1 + k, none⟩ = some (.string (bs (tx L[k]))) := by
        rw [show o + 1 + k = o + (k + 1) by omega]
        exact (hB.out.cell (p := ⟨b, o + (k + 1), none⟩) HBL.out).trans (HC.out k hil)
      have hmx := HM.out _ (List.getElem_mem hil)
      obtain ⟨hcut, hle⟩ := rb_cut L k hil
      have htail := fr_tail (tx L[k])
      have hlast := lastK_lt HS.out HM.out hil
      have hleq := Ck10.le_lt L[k].k (lastK L k)
      rw [hlast] at hleq
      have hls := lastK_succ hil
      have hst := spots_take hil
      have hpn := plc_next L k hil
      rw [fr_len] at hpn
      have hPc := fun W => Po10.pair_any W L[k] hmx
      have htl := tx_len L[k]
      have hfl : (bs (fr (tx L[k]))).size = 12 + (tx L[k]).length := by rw [bs_size, fr_len]
      have hrl : (spots 20 (L.take k)).length = k := by rw [spots_len, List.length_take]; omega
      rw [← HF.out] at hcut
      have hFs : (rb L).length = F.size := by rw [HF.out]; rfl
      rw [hFs] at hle
      rw [← bs_size (tx L[k])] at hcut hle hpn hfl
      obtain ⟨x, hx⟩ : ∃ x, x = L[k] := ⟨_, rfl⟩
      rw [← hx] at hcell hmx hcut hle htail hlast hleq hls hst hpn hPc htl hfl
      obtain ⟨tt, htt⟩ : ∃ tt, tt = bs (tx x) := ⟨_, rfl⟩
      obtain ⟨fm, hfm⟩ : ∃ fm, fm = bs (fr (tx x)) := ⟨_, rfl⟩
      rw [← htt, ← hfm] at hcut htail
      rw [← htt] at hcell hle hpn hPc
      rw [← htt, ← hfm] at hfl
      rw [← hfm] at hst
      obtain ⟨O, hO⟩ : ∃ O, O = plc L k := ⟨_, rfl⟩
      rw [← hO] at hcut hle hpn hst ⊢
      have hO2 : plc L (k + 1) = O + 12 + tt.size := by omega
      obtain ⟨lk, hlk⟩ : ∃ lk, lk = lastK L k := ⟨_, rfl⟩
      rw [← hlk] at hleq ⊢
      obtain ⟨xk, xv, xg⟩ := x
      dsimp only at *
      have z1 : (O : Int) + 12 + (tt.size : Int) ≤ (F.size : Int) := by omega
      have z2 : (12 : Int) ≤ (fm.size : Int) := by omega
      have z4 : (O : Int) + (fm.size : Int) ≤ (F.size : Int) := by omega
      have z0 : (O : Int) ≤ (O : Int) + 12 + (tt.size : Int) := by omega
      have z3 : (0 : Int) ≤ (O : Int) + 12 + (tt.size : Int) := by omega
      have HPC := Lib.hid hPc
      have HST := Lib.hid hst
      have HLS := Lib.hid hls
      have HO2 := Lib.hid hO2
      have HRL := Lib.hid hrl
      have H63 : Hid (k + 1 ≤ maxLen) := Lib.hid (by unfold maxLen; omega)
      have HBY : Hid ((k + 1) * 40 ≤ 140737488355328) := Lib.hid (by omega)
      have h12 : (fm.size : Int) = 12 + (tt.size : Int) := by omega
      have H12 := Lib.hid h12
      clear hil hmx hlast hls hst hpn hPc htl hx htt hfm hO hlk hFs hO2 hfl h12 hrl
      go_wp2_with fail
      rw [hcut]
      refine (HPC.out wr).mono ?_
      rintro e w2 ⟨rfl, hb2⟩
      have hB2 := hB.out.trans (hb2.mono hB.out.size)
      obtain ⟨W2, hW2⟩ : ∃ W2, W2 = w2.alloc (.cells #[.string xk, .string xv, .bool xg] 39) := ⟨_, rfl⟩
      have hB3 : Below w.heap.size w W2 := by rw [hW2]; exact hB2.alloc hB2.size _
      have hrow3 : RowT w.heap.size (spots 20 (L.take k)) (.slice (some ⟨g, 0, none⟩) k c') W2 := by rw [hW2]; exact (hrow.out.keep hb2).alloc _
      have hnw : W2.heap[w2.heap.size]? = some (pairO ⟨xk, xv, xg⟩) := by rw [hW2]; exact heap_new w2 _
      have d0 := cell_of hnw 0
      have HO3 : Hid (RowT w.heap.size (spots 20 (L.take k)) (.slice (some ⟨g, 0, none⟩) k c') (W2.alloc (.cells #[.string xk, .int .i64 (O : Int), .string fm] 84))) := Lib.hid (hrow3.alloc _)
      have hsW : W2.heap.size = w2.heap.size + 1 := by rw [hW2, Wd9.size_alloc]
      have hn3 := newsT W2 ⟨xk, O, fm⟩
      rw [hsW] at hn3
      have HN3 := Lib.hid hn3
      clear hn3
      have HBS : Hid (w.heap.size ≤ (W2.alloc (.cells #[.string xk, .int .i64 (O : Int), .string fm] 84)).heap.size) := Lib.hid (by have := hB3.size; simp; omega)
      have hdK : ∀ (v4 : Value) (w4 : World), w4.ownsRow w.heap.size 84 3 v4 (k + 1) (cellsT (spots 20 (L.take k)) ++ cellsT1 ⟨xk, O, fm⟩) → (W2.alloc (.cells #[.string xk, .int .i64 (O : Int), .string fm] 84)).grownBy w4 (Value.slice (some ⟨g, 0, none⟩) k c').ownBlock →
          ∃ g4 c4, v4 = .slice (some ⟨g4, 0, none⟩) (k + 1) c4 ∧ RowT w.heap.size (spots 20 (L.take (k + 1))) (.slice (some ⟨g4, 0, none⟩) (k + 1) c4) w4 ∧ Below w.heap.size w w4 ∧ w4.cell? ⟨w2.heap.size, 0, none⟩ = some (.string xk) := fun v4 w4 r1 r2 => by
        have r1' : w4.ownsRow w.heap.size 84 3 v4 ((spots 20 (L.take k)).length + 1) (cellsT (spots 20 (L.take k)) ++ cellsT1 ⟨xk, O, fm⟩) := by rw [HRL.out]; exact r1
        obtain ⟨A4, c4, h1, h2, h3⟩ := tapp_ok hrow3 hB3 hB3.size r1' r2
        rw [HRL.out] at h1
        subst h1
        rw [← HST.out] at h2
        obtain ⟨g4, rfl⟩ : ∃ g4, A4 = some ⟨g4, 0, none⟩ := by
          rcases h2.2 with ⟨hv, _⟩ | ⟨g4, _, _, hv, _⟩
          · cases hv
          · injection hv with hv1; exact ⟨g4, hv1⟩
        refine ⟨g4, c4, rfl, h2, h3, ?_⟩
        have hbl2 : w4.heap[w2.heap.size]? = some (pairO ⟨xk, xv, xg⟩) := by
          have hs2 : w2.heap.size < W2.heap.size := lt_of_at hnw
          rw [r2.block w2.heap.size (by simp; omega) (own_ne hrow3 hnw)]
          rw [Wd9.heap_alloc _ _ _ hs2]
          exact hnw
        exact cell_of hbl2 0
      have HDK := Lib.hid hdK
      have HW2 := Lib.hid hW2
      have HO4 : Hid ((W2.alloc (.cells #[.string xk, .int .i64 (O : Int), .string fm] 84)).ownsRow w.heap.size 84 3 (.slice (some ⟨g, 0, none⟩) k c') k (cellsT (spots 20 (L.take k)))) := Lib.hid (by
        have := HO3.out
        unfold RowT at this
        rw [HRL.out] at this; exact this)
      rw [hW2] at d0
      clear hB2 hW2 hB3 hrow3 hnw hdK hb2 HO3 hsW
      go_wp2_with (at_builtin; rw [← HW2.out]; refine wpList_append_own_at _ rfl _ _ 77 rfl w.heap.size 84 i0 _ 3 40 Try.underlying77 hi hz0 hz1 hz2 rfl (by decide) _ _ _ rfl HO4.out ⟨w2.heap.size + 1, 0, none⟩ 1 1 (cellsT1 ⟨xk, O, fm⟩) rfl rfl HN3.out (oneT _) H63.out HBY.out HBS.out ?_; intro v4 w4 r1 r2 r3 r4; obtain ⟨g4, c4, rfl, o1, o2, o3⟩ := HDK.out v4 w4 r1 r2; have HR4 := Lib.hid (And.intro o1 o2); clear o1 o2 r1 r2 r3 r4)
      refine ⟨⟨k + 1, g4, c4, by omega, by go_num, rfl, ?_, ?_, Lib.hid HR4.out.1, Lib.hid HR4.out.2⟩, by simp [intOf]; omega⟩
      · rw [HO2.out]
        have := H12.out
        go_num
      · rw [HLS.out]
    · obtain rfl : k = N := by omega
      have hfin : L.take k = L := List.take_of_length_le (by rw [← HN.out]; exact Nat.le_refl _)
      have hrow2 := hrow.out
      rw [hfin] at hrow2
      have HR := Lib.hid hrow2
      clear hfin hrow2 hrow
      go_wp2
      go_ret2
      exact ⟨⟨g, c', rfl, HR.out⟩, hB.out⟩
end Go.Proofs.Ytmnaamjoikfpbaa.So10
