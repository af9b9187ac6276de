/- The law's own Heavy and begins, over a row of steps that came in. The law's own begins, where one row is a beginning of the other one. Rows of texts appended to rows of the walk's own: append(append(nil, have..), more..). The law's loop: what stands at each round, and what each call of a step comes to. -/
import Derived.Test.YtbjemekkpmbhhaaLw7
import Derived.Test.YtbjemekkpmbhhaaRs7
import Derived.Test.YtbjemekkpmbhhaaW8c
import Derived.Laws.OwnMore
import Derived.Deep.RegionLaw
import Derived.Test.YtbjemekkpmbhhaaAv8
namespace Go.Proofs.Ytbjemekkpmbhhaa.Hv8
open Go Go.RowKit Go.Proofs.Ytbjemekkpmbhhaa.Wm Go.Proofs.Ytbjemekkpmbhhaa.Fl7 Go.Proofs.Ytbjemekkpmbhhaa.Rs7 Go.Proofs.Ytbjemekkpmbhhaa.Lw7
/-- A step: what is done, some texts, two numbers. -/
structure Sx where
  o : Int
  A : Option Addr
  c : Nat
  L : List ByteArray
  n : Int
  m : Int
structure Sx.ok (w : World) (s : Sx) : Prop where
  reads : Rds w s.A s.L
  none : s.A = none → s.L = [] ∧ s.c = 0
  cap : s.L.length ≤ s.c
  len : s.L.length ≤ 140737488351232
  small : ∀ k (h : k < s.L.length), s.L[k].size ≤ 140737488351232
  o : -9223372036854775808 ≤ s.o ∧ s.o ≤ 9223372036854775807
  n : -9223372036854775808 ≤ s.n ∧ s.n ≤ 9223372036854775807
  m : -9223372036854775808 ≤ s.m ∧ s.m ≤ 9223372036854775807
def sliceV (s : Sx) : Value := .slice s.A s.L.length s.c
def Cells (w : World) (b o : Nat) (l : List Sx) : Prop := ∀ k (h : k < l.length),
  w.cell? ⟨b, o + k * 4, none⟩ = some (.int .i64 l[k].o) ∧ w.cell? ⟨b, o + k * 4 + 1, none⟩ = some (sliceV l[k]) ∧ w.cell? ⟨b, o + k * 4 + 2, none⟩ = some (.int .i64 l[k].n) ∧ w.cell? ⟨b, o + k * 4 + 3, none⟩ = some (.int .i64 l[k].m)
/-- The bytes of the frames of all texts of all steps. -/
def tot : List Sx → Nat
  | [] => 0
  | s :: l => size (ll s.L) + tot l
theorem tot_snoc (s : Sx) : ∀ l : List Sx, tot (l ++ [s]) = tot l + size (ll s.L)
  | [] => by simp [tot]
  | t :: l => by simp [tot, tot_snoc s l]; omega
theorem tot_take (l : List Sx) (k : Nat) (hk : k < l.length) : tot (l.take (k + 1)) = tot (l.take k) + size (ll l[k].L) := by
  rw [List.take_succ_eq_append_getElem hk, tot_snoc]
theorem tot_le (l : List Sx) (k : Nat) : tot (l.take k) ≤ tot l := by
  induction l generalizing k with
  | nil => simp
  | cons s l ih =>
    cases k with
    | zero => simp [tot]
    | succ k => rw [List.take_succ_cons, tot, tot]; have := ih k; omega
/-- What Heavy comes to. -/
def HeavyEnd (l : List Sx) (e : Ending) : Prop := ∃ r, e = .returned (.bool r) ∧ (r = false → l.length ≤ 100 ∧ tot l ≤ 32768)
theorem heavy_nil (w : World) (ao : Option Addr) (cap : Nat) :
    Calls Try.prog 4 #[.slice ao 0 cap] w fun e w' => e = .returned (.bool false) ∧ w' = w := by
  go_enter Try.func4, Try.ntmps4
  go_wp2
  go_loop [3, 4, 5, 6, 7, 8, 9, 10, 11, 12, 13, 14, 15, 16, 17, 18, 19, 20, 21, 22, 23, 24, 25, 26, 27, 28, 29, 30, 31, 32, 33, 34, 35, 36, 37, 38, 39, 40, 41, 42, 43] (fun s i _ _ _ _ _ _ _ _ _ _ _ _ _ _ _ _ _ _ _ _ _ _ _ _ _ _ _ _ _ _ _ _ _ _ _ _ _ _ _ => i = .int .i64 0 ∧ s = .int .i64 0) (fun _ _ _ _ _ _ _ _ _ _ _ _ _ _ _ _ _ _ _ _ _ _ _ _ _ _ _ _ _ _ _ _ _ _ _ _ _ _ _ _ _ => 0)
  case atStart => exact ⟨rfl, rfl⟩
  case round =>
    obtain ⟨rfl, rfl⟩ := hrel
    go_wp2
    go_ret
    exact ⟨rfl, rfl⟩
set_option maxRecDepth 20000 in
set_option maxHeartbeats 4000000 in
theorem heavy_some (w : World) (b o cap : Nat) (l : List Sx) (hc : Cells w b o l) (hok : ∀ s ∈ l, s.ok w) (hl : l.length ≤ 140737488351232) :
    Calls Try.prog 4 #[.slice (some ⟨b, o, none⟩) l.length cap] w fun e w' => HeavyEnd l e ∧ w' = w := by
  have HC := Lib.hid hc
  have HO := Lib.hid hok
  clear hc hok
  go_enter Try.func4, Try.ntmps4
  go_wp2
  go_loop [3, 4, 5, 6, 7, 8, 9, 10, 11, 12, 13, 14, 15, 16, 17, 18, 19, 20, 21, 22, 23, 24, 25, 26, 27, 28, 29, 30, 31, 32, 33, 34, 35, 36, 37, 38, 39, 40, 41, 42, 43] (fun s i _ _ _ _ _ _ _ _ _ _ _ _ _ _ _ _ _ _ _ _ _ _ _ _ _ _ _ _ _ _ _ _ _ _ _ _ _ _ _ => ∃ (k t : Nat), k ≤ l.length ∧ k ≤ 200 ∧ i = .int .i64 k ∧ s = .int .i64 t ∧ Hid (t = tot (l.take k)) ∧ t ≤ k * 35168) (fun _ i _ _ _ _ _ _ _ _ _ _ _ _ _ _ _ _ _ _ _ _ _ _ _ _ _ _ _ _ _ _ _ _ _ _ _ _ _ _ _ => l.length - (intOf i).toNat)
  case atStart => exact ⟨0, 0, by omega, by omega, rfl, rfl, Lib.hid rfl, by omega⟩
  case round =>
    obtain ⟨k, t, hk, hk2, rfl, rfl, ht, htb⟩ := hrel
    by_cases hlt : k < l.length ∧ k < 200
    · have h1 := hlt.1
      have h2 := hlt.2
      have hs := HO.out _ (List.getElem_mem h1)
      have c1 := (HC.out k h1).2.1
      have hst := tot_take l k h1
      rw [← ht.out] at hst
      obtain ⟨s, hse⟩ : ∃ s, s = l[k] := ⟨_, rfl⟩
      rw [← hse] at hs c1 hst
      unfold sliceV at c1
      have HST := Lib.hid hst
      have hlg := large_any w s.A s.c s.L hs.reads hs.len hs.small _ rfl
      have hz1 : decide ((k : Int) < (l.length : Int)) = true := decide_eq_true (by omega)
      have hz2 : decide ((k : Int) < 200) = true := decide_eq_true (by omega)
      have hkb : (0 : Int) ≤ (k : Int) := by omega
      have hkl : (k : Int) < (l.length : Int) := by omega
      by_cases hL : 200 < s.L.length ∨ 32768 < lens s.L
      · rw [decide_eq_true hL] at hlg
        have HLG := Lib.hid hlg
        clear hlg hL hs hse hst hlt HST
        go_wp2_with fail
        refine HLG.out.mono ?_
        rintro e w1 ⟨rfl, rfl⟩
        go_wp2
        go_ret
        exact ⟨⟨true, rfl, fun h => by cases h⟩, rfl⟩
      · rw [decide_eq_false hL] at hlg
        have HLG := Lib.hid hlg
        have hn : s.L.length ≤ 200 := by omega
        have hsz : size (ll s.L) ≤ 35168 := by rw [lens_size]; omega
        have HS := Lib.hid hs
        have HSZ := Lib.hid hsz
        obtain ⟨N, hN⟩ : ∃ N, N = s.L.length := ⟨_, rfl⟩
        rw [← hN] at c1 hn HLG
        have H1 := Lib.hid hN
        clear hlg hL hs hse hst hlt hsz hN
        go_wp2_with fail
        refine HLG.out.mono ?_
        rintro e w1 ⟨rfl, rfl⟩
        go_wp2
        go_loop [3, 5, 22, 23, 24, 25, 26, 27, 28, 29, 30, 31, 32, 33, 34, 35, 36, 37, 38, 39, 40, 41, 42, 43] (fun s' j _ _ _ _ _ _ _ _ _ _ _ _ _ _ _ _ _ _ _ _ _ _ => ∃ q : Nat, q ≤ N ∧ j = .int .i64 q ∧ s' = .int .i64 ((t + size (ll (s.L.take q)) : Nat) : Int)) (fun _ j _ _ _ _ _ _ _ _ _ _ _ _ _ _ _ _ _ _ _ _ _ _ => N - (intOf j).toNat)
        case atStart => exact ⟨0, by omega, rfl, by simp [ll, size]⟩
        case round =>
          obtain ⟨q, hq, rfl, rfl⟩ := hrel
          by_cases hqN : q < N
          · have hql : q < s.L.length := by rw [← H1.out]; exact hqN
            obtain ⟨b2, o2, hA, p0⟩ := HS.out.reads.at_ hql
            rw [hA] at c1
            have hst := Fp7.size_take s.L q hql
            have hle : size (ll (s.L.take (q + 1))) ≤ size (ll s.L) := by rw [ll_take]; exact Fp7.size_le _ _
            have hb := HSZ.out
            obtain ⟨Z, hZ⟩ : ∃ Z, Z = size (ll (s.L.take q)) := ⟨_, rfl⟩
            rw [← hZ] at hst ⊢
            have hzz : Z + 12 + s.L[q].size ≤ 35168 := by omega
            have HS2 := Lib.hid hst
            have hz3 : decide ((q : Int) < (N : Int)) = true := decide_eq_true (by omega)
            generalize s.L[q] = x at p0 hzz HS2
            clear hql hst hle hb hZ hA
            go_wp2
            go_round
            case rel => exact ⟨q + 1, by omega, by go_num, by rw [HS2.out]; go_num⟩
            case measure => simp [intOf]; omega
          · obtain rfl : q = N := by omega
            have hfin : size (ll (s.L.take q)) = size (ll s.L) := by rw [List.take_of_length_le (by rw [← H1.out]; omega)]
            rw [hfin]
            have hb := HSZ.out
            have hz3 : decide ((q : Int) < (q : Int)) = false := decide_eq_false (by omega)
            have HF : Hid (t + size (ll s.L) = tot (l.take (k + 1))) := Lib.hid HST.out.symm
            generalize size (ll s.L) = Z at hb HF ⊢
            clear hfin
            go_wp2
            go_round
            case rel => exact ⟨k + 1, t + Z, by omega, by omega, by go_num, by go_num, HF, by omega⟩
            case measure => simp [intOf]; omega
    · by_cases h1 : k < l.length
      · have h3 : k = 200 := by omega
        subst h3
        clear hlt
        have h100 : 100 < l.length := by omega
        go_wp2
        go_ret
        exact ⟨⟨true, rfl, fun hr => by cases hr⟩, rfl⟩
      · have h3 : k = l.length := by omega
        subst h3
        clear hlt
        have hT := ht.out
        rw [List.take_length] at hT
        have HT := Lib.hid hT
        clear hT ht
        by_cases h100 : 100 < l.length
        · go_wp2
          go_ret
          exact ⟨⟨true, rfl, fun hr => by cases hr⟩, rfl⟩
        · by_cases hts : 32768 < t
          · go_wp2
            go_ret
            refine ⟨⟨_, rfl, fun hr => ?_⟩, rfl⟩
            exfalso
            simp at hr
            omega
          · go_wp2
            go_ret
            exact ⟨⟨_, rfl, fun _ => ⟨by omega, by rw [← HT.out]; omega⟩⟩, rfl⟩
end Go.Proofs.Ytbjemekkpmbhhaa.Hv8
namespace Go.Proofs.Ytbjemekkpmbhhaa.Be8
open Go Go.RowKit Go.Proofs.Ytbjemekkpmbhhaa.Rs7
theorem begins_any (w : World) (A B : Option Addr) (c d : Nat) (H M : List ByteArray) (hH : Rds w A H) (hM : Rds w B M) (hp : M.take H.length = H) (hlen : M.length ≤ 140737488351232) (hd : M.length ≤ d) :
    Calls Try.prog 14 #[.slice A H.length c, .slice B M.length d] w fun e w' => e = .returned (.bool true) ∧ Below w.heap.size w w' := by
  have hle : H.length ≤ M.length := by
    have := congrArg List.length hp
    rw [List.length_take] at this
    omega
  have hs := same_any w A B c d H (M.take H.length) hH (hM.take _) (by omega) true (by rw [hp]; simp)
  have hl : (M.take H.length).length = H.length := by rw [List.length_take]; omega
  rw [hl] at hs
  obtain ⟨n, hn⟩ : ∃ n, n = H.length := ⟨_, rfl⟩
  obtain ⟨m, hm⟩ : ∃ m, m = M.length := ⟨_, rfl⟩
  rw [← hn] at hs hle ⊢
  rw [← hm] at hle hd hlen ⊢
  have HS := Lib.hid hs
  have hz1 : (n : Int) ≤ (m : Int) := by omega
  have hz2 : (n : Int) ≤ (d : Int) := by omega
  have hz3 : (0 : Int) ≤ (n : Int) := by omega
  have hz4 : decide ((n : Int) ≤ (m : Int)) = true := decide_eq_true hz1
  clear hH hM hp hs hl hn hm
  go_enter Try.func14, Try.ntmps14
  go_wp2_with fail
  refine HS.out.mono ?_
  rintro e w1 ⟨rfl, hb⟩
  have HB := Lib.hid hb
  clear hb
  go_wp2
  go_ret
  exact ⟨rfl, HB.out⟩
end Go.Proofs.Ytbjemekkpmbhhaa.Be8
namespace Go.Proofs.Ytbjemekkpmbhhaa.Rw8
open Go Go.RowKit Go.Lib Go.Proofs.Ytbjemekkpmbhhaa.Dh Go.Proofs.Ytbjemekkpmbhhaa.Fs7 Go.Proofs.Ytbjemekkpmbhhaa.Rs7 Go.Proofs.Ytbjemekkpmbhhaa.Ss8
theorem strs_len (L : List ByteArray) : (L.map Value.string).length = L.length := List.length_map ..
theorem own_nil (w : World) (B : Nat) : OwnT w B none 0 [] := w.ownsRow_nil B _ 1
/-- A slice of texts that is read: its address, where it has some. -/
structure SrcT (w : World) (A : Option Addr) (c : Nat) (L : List ByteArray) : Prop where
  reads : Rds w A L
  none : A = none → L = [] ∧ c = 0
theorem OwnT.src {w : World} {B : Nat} {A : Option Addr} {c : Nat} {L : List ByteArray} (h : OwnT w B A c L) : SrcT w A c L := by
  refine ⟨h.reads, fun hA => ?_⟩
  subst hA
  rcases h.2 with ⟨h1, h2⟩ | ⟨g, cap, cur, h1, _⟩
  · simp only [Value.slice.injEq] at h1
    exact ⟨List.length_eq_zero_iff.1 h2, h1.2.2⟩
  · cases h1
theorem run_rows (w : World) (B : Nat) (A : Option Addr) (c : Nat) (H : List ByteArray) (h : OwnT w B A c H) (A2 : Option Addr) (c2 : Nat) (L : List ByteArray) (hs : SrcT w A2 c2 L) (hn : H.length + L.length ≤ 1000000) (hB : B ≤ w.heap.size) :
    ∃ A' c' w', (Builtin.append_ #[30, 30] 30 #[.slice A H.length c, .slice A2 L.length c2]).run Try.prog w = .ok (.slice A' (H ++ L).length c') w' ∧ OwnT w' B A' c' (H ++ L) ∧ w.grownBy w' (Value.slice A H.length c).ownBlock := by
  obtain ⟨i, hi, hz0, hz1, hz2⟩ := info_parts infoS
  cases A2 with
  | none =>
    obtain ⟨h1, h2⟩ := hs.none rfl
    subst h1; subst h2
    rw [List.append_nil]
    exact ⟨A, c, w, run_append_owned_none w B _ _ _ i 1 Try.underlying30 hi _ _ _ h, h, ⟨rfl, rfl, rfl, Nat.le_refl _, fun _ _ _ => rfl⟩⟩
  | some a =>
    obtain ⟨v', w', hrun, hown, hg, _⟩ := run_append_own (P := Try.prog) w B 30 30 9 i (.string ⟨#[]⟩) 1 16 Try.underlying30 hi hz0 hz1 hz2 rfl (by decide) _ H.length (H.map Value.string) h a L.length c2 (L.map Value.string) (by rw [strs_len, Nat.mul_one])
      (fun j u hj => by
        rw [List.getElem?_map] at hj
        rcases hx : L[j]? with _ | x
        · rw [hx] at hj; cases hj
        · rw [hx] at hj
          cases hj
          have hlt : j < L.length := (List.getElem?_eq_some_iff.1 hx).1
          obtain ⟨b, o, e, p0⟩ := hs.reads.at_ hlt
          cases e
          rw [Addr.add_lit, p0]
          have := (List.getElem?_eq_some_iff.1 hx).2
          rw [this]) (fun u hu => by
        obtain ⟨x, _, rfl⟩ := List.mem_map.1 hu
        rfl) (by unfold maxLen; omega) (by omega) hB
    rw [← List.map_append] at hown
    have hl : (H ++ L).length = H.length + L.length := List.length_append ..
    rw [← hl] at hown
    obtain ⟨A', c', rfl⟩ : ∃ A' c', v' = .slice A' (H ++ L).length c' := by
      rcases hown.2 with ⟨h1, h2⟩ | ⟨g, cap, cur, h1, _⟩
      · exact ⟨none, 0, by rw [h1, h2]⟩
      · exact ⟨_, _, h1⟩
    exact ⟨A', c', w', hrun, hown, hg⟩
theorem below_grown {w w' : World} {B : Nat} {A : Option Addr} {n c : Nat} (h : w.grownBy w' (Value.slice A n c).ownBlock) (hA : ∀ a, A = some a → B ≤ a.block) (hB : B ≤ w.heap.size) : Below B w w' :=
  ⟨h.os, h.tape, h.output, h.size, fun b hb => h.block b (by omega) fun e => by
    cases A with
    | none => cases e
    | some a =>
      have := hA a rfl
      have e2 : b = a.block := by
        have : some b = some a.block := e
        exact Option.some.inj this
      omega⟩
theorem OwnT.block {w : World} {B : Nat} {A : Option Addr} {c : Nat} {L : List ByteArray} (h : OwnT w B A c L) : ∀ x, blockOf A x → B ≤ x ∧ x < w.heap.size := by
  rintro x ⟨a, ha, rfl⟩
  exact Wq8.row_block h a ha
theorem step_run {P : Program} {ops : Array Oper} {o : Oper} {a : Act} {w w2 : World} {K : Act → World → Prop} {Q : Exit → Act → World → Prop} {E : Prop}
    (hg : o.guard = none) (s x : Operand) (t : TypeId) (ho : o.op = .call { callee := .builtin .append, args := #[s, x], argTypes := #[t, t] }) (v v2 y : Value) (hs : a.eval s = v) (hx : a.eval x = y)
    (hrun : (Builtin.append_ #[t, t] o.type #[v, y]).run P w = .ok v2 w2) (hK : K (a.put o.dst v2) w2) :
    if Region.wanted o (yielded ops a.tmps) = true then Oper.wp P o a w K Q else E := by
  rw [if_pos (by simp [Region.wanted, hg])]
  unfold Oper.wp
  simp [execOp, ho, resolve, invoke, builtin, hs, hx, hrun, Result.andThen]
  exact hK
/-- The first append, onto nothing. -/
def First (W : World) (H : List ByteArray) (v1 : Value) (W1 : World) : Prop := ∃ A1 c1, v1 = .slice A1 H.length c1 ∧ OwnT W1 W.heap.size A1 c1 H ∧ Below W.heap.size W W1
theorem first_any {W : World} {B : Nat} {A : Option Addr} {c : Nat} {H : List ByteArray} (h : OwnT W B A c H) (hn : H.length ≤ 100000) :
    ∃ v1 W1, (Builtin.append_ #[30, 30] 30 #[.slice none 0 0, .slice A H.length c]).run Try.prog W = .ok v1 W1 ∧ First W H v1 W1 := by
  obtain ⟨A1, c1, W1, h1, h2, h3⟩ := run_rows W W.heap.size none 0 [] (own_nil W _) A c H (OwnT.src h) (by simp; omega) (Nat.le_refl _)
  exact ⟨_, W1, h1, A1, c1, rfl, h2, below_grown h3 (fun a ha => by cases ha) (Nat.le_refl _)⟩
/-- The second one. -/
def Second (W : World) (H L : List ByteArray) (v2 : Value) (W2 : World) : Prop := ∃ A2 c2, v2 = .slice A2 (H ++ L).length c2 ∧ OwnT W2 W.heap.size A2 c2 (H ++ L) ∧ Below W.heap.size W W2
theorem second_any {W W1 : World} {H L : List ByteArray} {v1 : Value} (h : First W H v1 W1) {A : Option Addr} {c : Nat} (hs : SrcT W A c L) (hn : H.length + L.length ≤ 100000) :
    ∃ v2 W2, (Builtin.append_ #[30, 30] 30 #[v1, .slice A L.length c]).run Try.prog W1 = .ok v2 W2 ∧ Second W H L v2 W2 := by
  obtain ⟨A1, c1, rfl, ho, hb⟩ := h
  have hs1 : SrcT W1 A c L := ⟨hs.reads.keep (Nat.le_refl _) hb, hs.none⟩
  obtain ⟨A2, c2, W2, h1, h2, h3⟩ := run_rows W1 W.heap.size A1 c1 H ho A c L hs1 (by omega) hb.size
  exact ⟨_, W2, h1, A2, c2, rfl, h2, hb.trans (below_grown h3 (fun a ha => (OwnT.block ho _ ⟨a, ha, rfl⟩).1) hb.size)⟩
end Go.Proofs.Ytbjemekkpmbhhaa.Rw8
namespace Go.Proofs.Ytbjemekkpmbhhaa.Do8
open Go Go.RowKit Go.Lib Go.Proofs.Ytbjemekkpmbhhaa.Dh Go.Proofs.Ytbjemekkpmbhhaa.Fm Go.Proofs.Ytbjemekkpmbhhaa.St Go.Proofs.Ytbjemekkpmbhhaa.Fl7 Go.Proofs.Ytbjemekkpmbhhaa.Rs7 Go.Proofs.Ytbjemekkpmbhhaa.Wl8 Go.Proofs.Ytbjemekkpmbhhaa.Wa8 Go.Proofs.Ytbjemekkpmbhhaa.Wr8 Go.Proofs.Ytbjemekkpmbhhaa.Pl8 Go.Proofs.Ytbjemekkpmbhhaa.Po8 Go.Proofs.Ytbjemekkpmbhhaa.Hv8 Go.Proofs.Ytbjemekkpmbhhaa.Ss8 Go.Proofs.Ytbjemekkpmbhhaa.Rw8
/-- Where a wal stands: it goes on; or it is down, and an Append was under way, or a Reset. -/
inductive Stage (w0 : World) (D : St) (X : Wx) (H : List ByteArray) (T : Nat) : Option Addr → Nat → Nat → Bool → Prop where
  | up (h : Up 1048576 kw D X H) (hs : Fl7.size (ll H) ≤ T) : Stage w0 D X H T none 0 0 false
  | put (A : Addr) (c : Nat) (L : List ByteArray) (hf : X.fault = 20) (hl : Loose 1048576 kw D H [.app kw (bs (frs (ll L)))]) (hr : Rds w0 (some A) L) (hne : L ≠ []) (hcap : L.length ≤ c) (hs : Fl7.size (ll (H ++ L)) ≤ T) : Stage w0 D X H T (some A) L.length c false
  | reset (hf : X.fault = 20) (hl : Loose 1048576 kw D H [.rem kw]) (hs : Fl7.size (ll H) ≤ T) : Stage w0 D X H T none 0 0 true
theorem Stage.more {w0 : World} {D : St} {X : Wx} {H : List ByteArray} {T T' : Nat} {A : Option Addr} {n c : Nat} {R : Bool} (h : Stage w0 D X H T A n c R) (ht : T ≤ T') : Stage w0 D X H T' A n c R := by
  cases h with
  | up h hs => exact .up h (by omega)
  | put A c L hf hl hr hne hcap hs => exact .put A c L hf hl hr hne hcap (by omega)
  | reset hf hl hs => exact .reset hf hl (by omega)
/-- What stands at each round. -/
def RelW (w0 : World) (p : Nat) (l : List Sx) (vw vh vm vr vi : Value) (wr : World) : Prop :=
  ∃ (i q : Nat) (Ah : Option Addr) (ch : Nat) (H : List ByteArray) (Am : Option Addr) (nm cm : Nat) (R : Bool) (D : St) (X : Wx), i ≤ l.length ∧ vw = .pointer (some ⟨q, 0, none⟩) ∧ vh = .slice Ah H.length ch ∧ vm = .slice Am nm cm ∧ vr = .bool R ∧ vi = .int .i64 i ∧
    Hid (Ses w0 wr p q D X (blockOf Ah)) ∧ Hid (OwnT wr w0.heap.size Ah ch H) ∧ Hid (Stage w0 D X H (tot (l.take i)) Am nm cm R)
/-- The box of a step. -/
def stepO (o : Int) (s : Sx) : Obj := .cells #[.int .i64 o, .slice s.A s.L.length s.c, .int .i64 s.n, .int .i64 s.m] 34 (0, 0)
/-- What stands behind a call: the wal and its disk, what is there for good, and the step. -/
structure BehindW (w0 : World) (p q : Nat) (D : St) (X : Wx) (Ah : Option Addr) (ch : Nat) (H : List ByteArray) (bx : Nat) (o : Int) (s : Sx) (w : World) : Prop where
  ses : Ses w0 w p q D X (blockOf Ah)
  own : OwnT w w0.heap.size Ah ch H
  box : w.heap[bx]? = some (stepO o s)
  low : w0.heap.size ≤ bx
def GoesTo (w0 : World) (p q : Nat) (r : Int) (D : St) (X : Wx) (Ah : Option Addr) (ch : Nat) (H : List ByteArray) (bx : Nat) (o : Int) (s : Sx) (e : Ending) (w : World) : Prop := e = .returned (.int .i64 r) ∧ BehindW w0 p q D X Ah ch H bx o s w
theorem boxed {w0 w : World} {p q : Nat} {D : St} {X : Wx} {Ah : Option Addr} {ch : Nat} {H : List ByteArray} (h : Ses w0 w p q D X (blockOf Ah)) (ho : OwnT w w0.heap.size Ah ch H) (o : Int) (s : Sx) : BehindW w0 p q D X Ah ch H w.heap.size o s (w.alloc (stepO o s)) :=
  ⟨h.below ((Below.refl _ w).alloc (Nat.le_refl _) _), OwnT.keep ho (Nat.le_refl _) fun x hx => heap_alloc w _ x (OwnT.block ho x hx).2, heap_new w _, h.size⟩
theorem goes {w0 w : World} {p q : Nat} {D' : St} {X' : Wx} {Ah : Option Addr} {ch : Nat} {H : List ByteArray} (ho : OwnT w w0.heap.size Ah ch H) (o : Int) (s : Sx) {r : Int} {e : Ending} {w' : World}
    (hs0 : w0.heap.size ≤ w.heap.size) (h : ComesTo w0 (w.alloc (stepO o s)) p q r D' X' (fun x => blockOf Ah x ∨ x = w.heap.size) e w') : GoesTo w0 p q r D' X' Ah ch H w.heap.size o s e w' := by
  obtain ⟨rfl, hs, hk⟩ := h
  refine ⟨rfl, hs.fewer (fun x hx => .inl hx), ?_, ?_, hs0⟩
  · refine OwnT.keep ho (Nat.le_refl _) fun x hx => ?_
    rw [hk x (.inl (.inl hx)), heap_alloc w _ x (OwnT.block ho x hx).2]
  · rw [hk _ (.inl (.inr rfl))]; exact heap_new w _
section
variable {w0 w : World} {p q : Nat} {D : St} {X : Wx} {Ah : Option Addr} {ch : Nat} {H : List ByteArray}
theorem do_append (h : Ses w0 w p q D X (blockOf Ah)) (ho : OwnT w w0.heap.size Ah ch H) (hu : Up 1048576 kw D X H) (o : Int) (s : Sx) (hr : Rds w0 s.A s.L) (hsz : Fl7.size (ll (H ++ s.L)) ≤ 32768) :
    Calls Try.prog 8 #[.pointer (some ⟨q, 0, none⟩), .slice s.A s.L.length s.c] (w.alloc (stepO o s)) fun e w' => ∃ r D' X', GoesTo w0 p q r D' X' Ah ch H w.heap.size o s e w' ∧
      ((r = 0 ∧ Up 1048576 kw D' X' (H ++ s.L)) ∨ (r = 20 ∧ s.L ≠ [] ∧ X'.fault = 20 ∧ Loose 1048576 kw D' H [.app kw (bs (frs (ll s.L)))])) := by
  have hm := h.more (stepO o s)
  have hb : Below w0.heap.size w0 (w.alloc (stepO o s)) := by
    obtain ⟨S, hS⟩ := hm
    exact hS.below
  by_cases hL : s.L = []
  · have hc := s_append_none hm s.A s.c hu.fault
    rw [show s.L.length = 0 by rw [hL]; rfl]
    refine hc.mono ?_
    intro e w' hx
    exact ⟨0, D, X, goes ho o s h.size hx, .inl ⟨rfl, by rw [hL, List.append_nil]; exact hu⟩⟩
  · refine (s_append_some hm hu s.A s.c s.L (hr.keep (Nat.le_refl _) hb) hL (by omega)).mono ?_
    intro e w' hx
    refine ⟨_, _, _, goes ho o s h.size hx, ?_⟩
    rcases put_out hu kw_ok s.L (by omega) with hp | hp
    · exact .inl hp
    · exact .inr ⟨hp.1, hL, hp.2⟩
theorem do_append_down (h : Ses w0 w p q D X (blockOf Ah)) (ho : OwnT w w0.heap.size Ah ch H) (hf : X.fault = 20) (o : Int) (s : Sx) :
    Calls Try.prog 8 #[.pointer (some ⟨q, 0, none⟩), .slice s.A s.L.length s.c] (w.alloc (stepO o s)) (GoesTo w0 p q 20 D X Ah ch H w.heap.size o s) := by
  have hc := s_append_down (h.more (stepO o s)) s.A s.L.length s.c (by rw [hf]; decide)
  rw [hf] at hc
  exact hc.mono fun _ _ hx => goes ho o s h.size hx
theorem do_reset (h : Ses w0 w p q D X (blockOf Ah)) (ho : OwnT w w0.heap.size Ah ch H) (hu : Up 1048576 kw D X H) (o : Int) (s : Sx) :
    Calls Try.prog 9 #[.pointer (some ⟨q, 0, none⟩)] (w.alloc (stepO o s)) fun e w' => ∃ r D' X', GoesTo w0 p q r D' X' Ah ch H w.heap.size o s e w' ∧
      ((r = 0 ∧ Up 1048576 kw D' X' []) ∨ (r = 20 ∧ X'.fault = 20 ∧ Loose 1048576 kw D' H [.rem kw])) := by
  refine (s_reset (h.more (stepO o s)) hu).mono ?_
  intro e w' hx
  exact ⟨_, _, _, goes ho o s h.size hx, reset_out hu kw_ok⟩
theorem do_reset_down (h : Ses w0 w p q D X (blockOf Ah)) (ho : OwnT w w0.heap.size Ah ch H) (hf : X.fault = 20) (o : Int) (s : Sx) :
    Calls Try.prog 9 #[.pointer (some ⟨q, 0, none⟩)] (w.alloc (stepO o s)) (GoesTo w0 p q 20 D X Ah ch H w.heap.size o s) := by
  have hc := s_reset_down (h.more (stepO o s)) (by rw [hf]; decide)
  rw [hf] at hc
  exact hc.mono fun _ _ hx => goes ho o s h.size hx
theorem do_fault (h : Ses w0 w p q D X (blockOf Ah)) (ho : OwnT w w0.heap.size Ah ch H) (o : Int) (s : Sx) :
    Calls Try.prog 10 #[.pointer (some ⟨q, 0, none⟩)] (w.alloc (stepO o s)) fun e w' => e = .returned (.int .i64 X.fault) ∧ w' = w.alloc (stepO o s) :=
  fault_any (boxed h ho o s).ses.blk
theorem do_fuse (h : Ses w0 w p q D X (blockOf Ah)) (ho : OwnT w w0.heap.size Ah ch H) (o : Int) (s : Sx) (n : Int) (hn : n ≤ 9223372036854775807) :
    Calls Try.prog 11 #[.pointer (some ⟨p, 0, none⟩), .int .i64 n] (w.alloc (stepO o s)) (GoesTo w0 p q 0 (Sy.stFuse D n) X Ah ch H w.heap.size o s) :=
  (s_fuse (h.more (stepO o s)) n hn).mono fun _ _ hx => goes ho o s h.size hx
theorem do_crash (h : Ses w0 w p q D X (blockOf Ah)) (ho : OwnT w w0.heap.size Ah ch H) (o : Int) (s : Sx) (n m : Int) (hn : -9223372036854775808 ≤ n ∧ n ≤ 9223372036854775807) (hm : m ≤ 9223372036854775807) (hl : D.loose.length ≤ 1000) :
    Calls Try.prog 12 #[.pointer (some ⟨p, 0, none⟩), .int .i64 n, .int .i64 m] (w.alloc (stepO o s)) (GoesTo w0 p q 0 (stCrash D n m) X Ah ch H w.heap.size o s) :=
  (s_crash (h.more (stepO o s)) n m hn hm hl).mono fun _ _ hx => goes ho o s h.size hx
/-- What a crash leaves at a stage. -/
structure Crashed (w0 : World) (D4 : St) (H P : List ByteArray) (T : Nat) (Am : Option Addr) (nm cm : Nat) (R : Bool) : Prop where
  len : nm = P.length
  reads : Rds w0 Am P
  cap : P.length ≤ cm
  size : Fl7.size (ll (H ++ P)) ≤ T
  room : D4.room = 1048576
  calm : CalmD D4
  left : LeftBy kw D4 H P ∨ (R = true ∧ P = [] ∧ LeftBy kw D4 [] [])
theorem stage_loose {T : Nat} {Am : Option Addr} {nm cm : Nat} {R : Bool} (h : Stage w0 D X H T Am nm cm R) : D.loose.length ≤ 1000 := by
  have one : ∀ c, D.loose = [] ∨ D.loose = [c] → D.loose.length ≤ 1000 := by
    rintro c (h | h) <;> rw [h] <;> simp
  rcases h with ⟨hu, _⟩ | ⟨_, _, _, _, hl, _⟩ | ⟨_, hl, _⟩
  · rw [hu.loose]; decide
  · exact one _ hl.loose
  · exact one _ hl.loose
theorem stage_crash {T : Nat} {Am : Option Addr} {nm cm : Nat} {R : Bool} (h : Stage w0 D X H T Am nm cm R) (n m : Int) : ∃ P, Crashed w0 (stCrash D n m) H P T Am nm cm R := by
  rcases h with ⟨hu, hs⟩ | ⟨A, c, L, _, hl, hr, _, hcap, hs⟩ | ⟨_, hl, hs⟩
  · exact ⟨[], rfl, Rds.nil _ _, Nat.le_refl _, by rw [List.append_nil]; exact hs, hu.room, calm_crash D n m, .inl (crash_up hu n m)⟩
  · exact ⟨L, rfl, hr, hcap, hs, hl.room, calm_crash D n m, .inl (crash_put hl n m)⟩
  · refine ⟨[], rfl, Rds.nil _ _, Nat.le_refl _, by rw [List.append_nil]; exact hs, hl.room, calm_crash D n m, ?_⟩
    rcases crash_reset hl n m with h | h
    · exact .inl h
    · exact .inr ⟨rfl, rfl, h⟩
/-- What an opening behind a crash comes to. -/
def AgainW (w0 : World) (p : Nat) (Ah : Option Addr) (ch : Nat) (H P : List ByteArray) (T : Nat) (R : Bool) (e : Ending) (w' : World) : Prop :=
  ∃ (q' : Nat) (M : List ByteArray) (A : Option Addr) (c : Nat) (D' : St) (X' : Wx), e = .returned (.tuple #[.pointer (some ⟨q', 0, none⟩), .slice A M.length c, .int .i64 0]) ∧ ((M.take H.length = H ∧ ∃ j, M.drop H.length = P.take j) ∨ (R = true ∧ M = [])) ∧
    w'.heap[q']? = some (walO p kw X') ∧ X'.cnt = M.length ∧ Up 1048576 kw D' X' M ∧ Fl7.size (ll M) ≤ T ∧ Ses w0 w' p q' D' X' (blockOf A) ∧ OwnT w' w0.heap.size A c M ∧ OwnT w' w0.heap.size Ah ch H
theorem size_take (L : List ByteArray) (j : Nat) : Fl7.size (ll (L.take j)) ≤ Fl7.size (ll L) := by
  rw [ll_take]; exact Fp7.size_le _ _
theorem do_open {o : Int} {s : Sx} {bx T : Nat} {P : List ByteArray} {Am : Option Addr} {nm cm : Nat} {R : Bool} (h : BehindW w0 p q D X Ah ch H bx o s w) (hc : Crashed w0 D H P T Am nm cm R) (hT : T ≤ 32768) :
    Calls Try.prog 7 #[.pointer (some ⟨p, 0, none⟩), .string kw] w (AgainW w0 p Ah ch H P T R) := by
  have hsz := hc.size
  have hHP := size_ll H P
  rcases hc.left with ⟨m, hl⟩ | ⟨hR, hP, m, hl⟩
  · refine (s_open h.ses.disk hc.calm m hl (by omega) hc.room).mono ?_
    rintro e w' ⟨j, n, q', A, c, D', rfl, hj1, hj2, _, _, hup, hses, hown, hst⟩
    have e1 : (H ++ P).take j = H ++ P.take (j - H.length) := by
      rw [List.take_append, List.take_of_length_le hj1]
    have hsj := size_take (H ++ P) j
    refine ⟨q', _, A, c, D', _, rfl, .inl ⟨?_, j - H.length, ?_⟩, hses.blk, hup.cnt, hup, by omega, hses.fewer fun x hx => .inr hx, hown, ?_⟩
    · rw [e1, List.take_left]
    · rw [e1, List.drop_left]
    · exact OwnT.keep h.own (Nat.le_refl _) fun x hx => hst x (.inl hx)
  · refine (s_open (G := []) (P := []) h.ses.disk hc.calm m hl (by decide) hc.room).mono ?_
    rintro e w' ⟨j, n, q', A, c, D', rfl, hj1, hj2, _, _, hup, hses, hown, hst⟩
    refine ⟨q', _, A, c, D', _, rfl, .inr ⟨hR, by simp⟩, hses.blk, hup.cnt, hup, ?_, hses.fewer fun x hx => .inr hx, hown, ?_⟩
    · simp [ll, Fl7.size]
    · exact OwnT.keep h.own (Nat.le_refl _) fun x hx => hst x (.inl hx)
theorem take_drop {M P : List ByteArray} {n j : Nat} (h : M.drop n = P.take j) : P.take (M.drop n).length = M.drop n := by
  rw [h, List.length_take]
  rcases Nat.le_total j P.length with hj | hj
  · rw [Nat.min_eq_left hj]
  · rw [Nat.min_eq_right hj, List.take_of_length_le (Nat.le_refl _), List.take_of_length_le hj]
theorem rds_drop {w : World} {g : Nat} {M : List ByteArray} (h : Rds w (some ⟨g, 0, none⟩) M) (n : Nat) : Rds w (some ⟨g, n, none⟩) (M.drop n) := fun hne => by
  obtain ⟨b, o, e, h1, hc⟩ := h fun e => hne (by rw [e, List.drop_nil])
  cases e
  refine ⟨g, n, rfl, h1, fun k hk => ?_⟩
  rw [List.length_drop] at hk
  rw [List.getElem_drop]
  have := hc (n + k) (by omega)
  rw [Nat.zero_add] at this
  exact this
end
end Go.Proofs.Ytbjemekkpmbhhaa.Do8
