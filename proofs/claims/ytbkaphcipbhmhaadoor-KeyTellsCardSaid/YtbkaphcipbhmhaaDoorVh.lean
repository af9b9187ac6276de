/- The document's own Same and Copy of rows (package fascicleref04), and the statements' Long. -/
import Derived.Test.YtbkaphcipbhmhaaDoorVf
import Derived.Maps.AppendAt
import Derived.Laws.AppendOwnNone
import Derived.OwnWalk
namespace Go.Proofs.YtbkaphcipbhmhaaDoor.Vh
open Go Go.RowKit Go.Proofs.YtbkaphcipbhmhaaDoor.Vm Go.Proofs.YtbkaphcipbhmhaaDoor.Vl Go.Proofs.YtbkaphcipbhmhaaDoor.Ve Go.Proofs.YtbkaphcipbhmhaaDoor.Vr Go.Proofs.YtbkaphcipbhmhaaDoor.Vs Go.Proofs.YtbkaphcipbhmhaaDoor.Vc Go.Proofs.YtbkaphcipbhmhaaDoor.Vk Go.Proofs.YtbkaphcipbhmhaaDoor.Vf
set_option maxRecDepth 20000 in
set_option maxHeartbeats 2000000 in
theorem refsame_any (w : World) (A A' : Option Addr) (c c' : Nat) (l m : List V) (hl : Reads w A l) (hm : Reads w A' m) (hlen : Lens l m) :
    Calls Tryd.prog 11 #[.slice A l.length c, .slice A' m.length c'] w fun e w' => e = .returned (.bool (same l m)) ∧ Below w.heap.size w w' := by
  obtain ⟨h1, h2⟩ := hlen
  by_cases hn : l.length = m.length
  · have HL := Lib.hid hl
    have HM := Lib.hid hm
    have HN := Lib.hid hn
    clear hl hm hn
    obtain ⟨N, hN⟩ : ∃ N, N = l.length := ⟨_, rfl⟩
    have hN' : N = m.length := by rw [hN]; exact HN.out
    rw [← hN, ← hN']
    have H1 := Lib.hid hN
    have H2 := Lib.hid hN'
    rw [← hN] at h1
    clear hN hN' h2 HN
    go_enter Tryd.func11, Tryd.ntmps11
    go_wp2
    go_loopw [5, 11, 12, 13, 14, 15, 16, 17, 18, 19, 20, 21, 22, 23, 24, 25] (fun i _ _ _ _ _ _ _ _ _ _ _ _ _ _ _ wr => ∃ k : Nat, k ≤ N ∧ i = .int .i64 k ∧ Hid (same (l.drop k) (m.drop k) = same l m) ∧ Hid (Below w.heap.size w wr)) (fun i _ _ _ _ _ _ _ _ _ _ _ _ _ _ _ _ => N - (intOf i).toNat)
    case atStart => exact ⟨0, by omega, rfl, Lib.hid (by simp), Lib.hid (Below.refl _ _)⟩
    case round =>
      obtain ⟨k, hk, rfl, hs, hb⟩ := hrel
      by_cases hlt : k < N
      · have hkl : k < l.length := by rw [← H1.out]; exact hlt
        have hkm : k < m.length := by rw [← H2.out]; exact hlt
        obtain ⟨b, o, rfl, p0, p1, p2, p3⟩ := (HL.out.keep hb.out).at_ hkl
        obtain ⟨b', o', rfl, q0, q1, q2, q3⟩ := (HM.out.keep hb.out).at_ hkm
        have hd : same (l.drop k) (m.drop k) = (eqv l[k] m[k] && same (l.drop (k + 1)) (m.drop (k + 1))) := by
          rw [List.drop_eq_getElem_cons hkl, List.drop_eq_getElem_cons hkm]; rfl
        rw [hs.out] at hd
        have HD := Lib.hid hd
        clear hd hs
        obtain ⟨x, hx⟩ : ∃ x, x = l[k] := ⟨_, rfl⟩
        obtain ⟨y, hy⟩ : ∃ y, y = m[k] := ⟨_, rfl⟩
        rw [← hx] at HD p0 p1 p2 p3
        rw [← hy] at HD q0 q1 q2 q3
        clear hx hy hkl hkm
        obtain ⟨k0, n0, r0, s0⟩ := x
        obtain ⟨k1, n1, r1, s1⟩ := y
        dsimp only at p0 p1 p2 p3 q0 q1 q2 q3
        have he := run_neq' k0 k1 n0 n1 r0 r1 s0 s1
        cases hE : eqv ⟨k0, n0, r0, s0⟩ ⟨k1, n1, r1, s1⟩
        · rw [hE] at he
          rw [hE, Bool.false_and] at HD
          clear hE
          go_wp2
          go_quiet (fail)
          go_wp2
          go_ret
          exact ⟨by rw [HD.out]; rfl, hb_drewN hb _⟩
        · rw [hE] at he
          rw [hE, Bool.true_and] at HD
          clear hE
          go_wp2
          go_quiet (fail)
          go_wp2
          exact ⟨⟨k + 1, by omega, by go_num, Lib.hid HD.out.symm, Lib.hid (hb_drewN hb _)⟩, by simp [intOf]; omega⟩
      · obtain rfl : k = N := by omega
        have ht : same l m = true := by
          rw [← hs.out, H1.out]
          have e : l.length = m.length := by rw [← H1.out, ← H2.out]
          rw [List.drop_length, e, List.drop_length]; rfl
        have HT := Lib.hid ht
        clear ht hs
        go_wp2
        go_ret
        exact ⟨by rw [HT.out]; rfl, hb.out⟩
  · have hf : same l m = false := by
      cases h : same l m
      · rfl
      · rw [same_iff.1 h] at hn; exact absurd rfl hn
    rw [hf]
    clear hf hl hm
    have hn1 : ((l.length : Int) != (m.length : Int)) = true := by simp; omega
    have hn2 : ¬ ((l.length : Int) = (m.length : Int)) := by omega
    go_enter Tryd.func11, Tryd.ntmps11
    go_wp2
    go_ret
    exact ⟨rfl, Below.refl _ _⟩
/-- The cells of a row. -/
def cellsV : List V → List Value
  | [] => []
  | v :: l => .int .u8 v.k :: .int .i64 v.n :: .int .u64 (v.r : Int) :: .string v.s :: cellsV l
theorem cellsV_len : ∀ l, (cellsV l).length = l.length * 4
  | [] => rfl
  | v :: l => by simp [cellsV, cellsV_len l]; omega
theorem cellsV_at : ∀ (l : List V) (k : Nat) (h : k < l.length), (cellsV l)[k * 4]? = some (.int .u8 l[k].k) ∧ (cellsV l)[k * 4 + 1]? = some (.int .i64 l[k].n) ∧ (cellsV l)[k * 4 + 2]? = some (.int .u64 (l[k].r : Int)) ∧ (cellsV l)[k * 4 + 3]? = some (.string l[k].s)
  | [], k, h => by simp at h
  | v :: l, 0, _ => ⟨rfl, rfl, rfl, rfl⟩
  | v :: l, k + 1, h => by
    have := cellsV_at l k (by simpa using h)
    have e : (k + 1) * 4 = k * 4 + 1 + 1 + 1 + 1 := by omega
    rw [e]
    simpa [cellsV] using this
theorem cellsV_one : ∀ (l : List V), ∀ u ∈ cellsV l, u.oneCell' = true
  | [], u, h => by simp [cellsV] at h
  | v :: l, u, h => by
    simp only [cellsV, List.mem_cons] at h
    rcases h with rfl | rfl | rfl | rfl | h
    · rfl
    · rfl
    · rfl
    · rfl
    · exact cellsV_one l u h
theorem own_cells {w : World} {B e s : Nat} {v : Value} {n : Nat} {xs : List Value} (h : w.ownsRow B e s v n xs) {g : Nat} (hg : v.ownBlock = some g) (j : Nat) (u : Value) (hj : xs[j]? = some u) : w.cell? ⟨g, j, none⟩ = some u := by
  have := h.cells hg j u hj
  rwa [show (⟨g, 0, none⟩ : Addr).add j = ⟨g, j, none⟩ by unfold Addr.add; split <;> simp_all] at this
theorem own_form {w : World} {B e s : Nat} {v : Value} {n : Nat} {xs : List Value} (h : w.ownsRow B e s v n xs) :
    ∃ ao cap, v = .slice ao n cap ∧ (0 < n → ∃ g, ao = some ⟨g, 0, none⟩ ∧ v.ownBlock = some g ∧ g < w.heap.size) := by
  rcases h.2 with ⟨rfl, rfl⟩ | ⟨g, cap, cur, rfl, _, _, _, _, _, _⟩
  · exact ⟨none, 0, rfl, fun h => absurd h (by omega)⟩
  · exact ⟨some ⟨g, 0, none⟩, cap, rfl, fun _ => ⟨g, rfl, rfl, (h.lt g rfl).2⟩⟩
/-- A row of the call's own reads as the row. -/
theorem Reads.own {w : World} {B : Nat} {v : Value} {l : List V} (h : w.ownsRow B 38 4 v l.length (cellsV l)) : ∃ A c, v = .slice A l.length c ∧ Reads w A l := by
  obtain ⟨ao, cap, e, hs⟩ := own_form h
  refine ⟨ao, cap, e, fun hl => ?_⟩
  obtain ⟨g, ha, hg, hlt⟩ := hs (List.length_pos_iff.2 hl)
  refine ⟨g, 0, ha, hlt, fun k hk => ?_⟩
  obtain ⟨c0, c1, c2, c3⟩ := cellsV_at l k hk
  have z : ∀ x, 0 + x = x := Nat.zero_add
  exact ⟨by rw [z]; exact own_cells h hg _ _ c0, by rw [z]; exact own_cells h hg _ _ c1, by rw [z]; exact own_cells h hg _ _ c2, by rw [z]; exact own_cells h hg _ _ c3⟩
theorem infoV : (Tryd.prog.info? 38).map (fun i => (i.zero, i.size, i.bytes)) = some (some (.agg #[.int .u8 0, .int .i64 0, .int .u64 0, .string ⟨#[]⟩]), 4, 40) := by kernel_rfl
/-- How a slice that came in lies: nil, or somewhere. -/
def Lies (A : Option Addr) (c : Nat) (l : List V) : Prop := (A = none ∧ c = 0 ∧ l = []) ∨ ∃ b o, A = some ⟨b, o, none⟩
theorem reads_cells {w : World} {b o : Nat} {l : List V} (h : Reads w (some ⟨b, o, none⟩) l) : ∀ j u, (cellsV l)[j]? = some u → w.cell? ((⟨b, o, none⟩ : Addr).add j) = some u := by
  intro j u hj
  have hlt : j < l.length * 4 := by
    have := (List.getElem?_eq_some_iff.1 hj).1
    rwa [cellsV_len] at this
  obtain ⟨b', o', e, f0, f1, f2, f3⟩ := h.at_ (k := j / 4) (by omega)
  cases e
  obtain ⟨c0, c1, c2, c3⟩ := cellsV_at l (j / 4) (by omega)
  rw [Addr.add_lit]
  have hj4 : j = j / 4 * 4 ∨ j = j / 4 * 4 + 1 ∨ j = j / 4 * 4 + 2 ∨ j = j / 4 * 4 + 3 := by omega
  rcases hj4 with e | e | e | e
  · rw [e, c0] at hj; rw [e]; exact f0.trans hj
  · rw [e, c1] at hj; rw [e, ← Nat.add_assoc]; exact f1.trans hj
  · rw [e, c2] at hj; rw [e, ← Nat.add_assoc]; exact f2.trans hj
  · rw [e, c3] at hj; rw [e, ← Nat.add_assoc]; exact f3.trans hj
theorem nil_own (w : World) (B : Nat) : w.ownsRow B 38 4 (.slice none 0 0) 0 [] := ⟨rfl, .inl ⟨rfl, rfl⟩⟩
/-- What Copy leaves. -/
def Copied (w : World) (l : List V) (e : Ending) (w' : World) : Prop := ∃ A c, e = .returned (.slice A l.length c) ∧ Reads w' A l ∧ Below w.heap.size w w'
theorem copy_any (w : World) (A : Option Addr) (c : Nat) (l : List V) (hl : Reads w A l) (hA : Lies A c l) (hlen : l.length * 40 ≤ 140737488351232) :
    Calls Tryd.prog 9 #[.slice A l.length c] w (Copied w l) := by
  obtain ⟨i0, hi, hz0, hz1, hz2⟩ := info_parts infoV
  rcases hA with ⟨rfl, rfl, rfl⟩ | ⟨b, o, rfl⟩
  · go_enter Tryd.func9, Tryd.ntmps9
    go_wp2_with (at_builtin; refine wpList_append_own_none rfl _ _ _ rfl w.heap.size 38 i0 4 Tryd.underlying22 hi _ 0 [] rfl (nil_own w _) rfl ?_)
    go_ret
    exact ⟨none, 0, rfl, Reads.nil _ _, Below.refl _ _⟩
  · have HN := Lib.hid (reads_cells hl)
    have HO := Lib.hid (cellsV_one l)
    have HL := Lib.hid (cellsV_len l)
    obtain ⟨N, hN⟩ : ∃ N, N = l.length := ⟨_, rfl⟩
    have H1 := Lib.hid hN
    rw [← hN] at hlen ⊢
    rw [← hN] at HL
    have h63 : 0 + N ≤ maxLen := by unfold maxLen; omega
    have hby : (0 + N) * 40 ≤ 140737488355328 := by omega
    clear hl hN
    go_enter Tryd.func9, Tryd.ntmps9
    go_wp2_with (at_builtin; refine wpList_append_own_at _ rfl _ _ 22 rfl w.heap.size 38 i0 _ 4 40 Tryd.underlying22 hi hz0 hz1 hz2 rfl (by decide) (.slice none 0 0) 0 [] rfl (nil_own w _) ⟨b, o, none⟩ N c (cellsV l) rfl HL.out HN.out HO.out h63 hby (Nat.le_refl _) ?_; intro v' w' hown hgrow _ _)
    have hown' : w'.ownsRow w.heap.size 38 4 v' l.length (cellsV l) := by
      rw [← H1.out]
      simpa using hown
    obtain ⟨A', c', e', hr⟩ := Reads.own hown'
    have HB : Hid (Below w.heap.size w w') := Lib.hid ((Below.refl _ _).grown hgrow (Nat.le_refl _) (by simp [Value.ownBlock]))
    have HR := Lib.hid hr
    have HE := Lib.hid e'
    clear hown hown' hgrow hr e'
    go_wp2
    go_ret
    exact ⟨A', c', by rw [← HE.out]; rfl, HR.out, HB.out⟩
/-- What Long tells. -/
def LongEnd (l : List V) (w : World) (e : Ending) (w' : World) : Prop := ∃ r, e = .returned (.bool r) ∧ (r = false → l.length ≤ 4000) ∧ w = w'
set_option maxRecDepth 20000 in
set_option maxHeartbeats 2000000 in
theorem long_any (w : World) (A : Option Addr) (c : Nat) (l : List V) (hl : Reads w A l) (hs : Texts l) (hlen : l.length ≤ 140737488351232) :
    Calls Tryd.prog 7 #[.slice A l.length c] w (LongEnd l w) := by
  have HL := Lib.hid hl
  have HS := Lib.hid hs
  obtain ⟨N, hN⟩ : ∃ N, N = l.length := ⟨_, rfl⟩
  rw [← hN]
  rw [← hN] at hlen
  have H1 := Lib.hid hN
  clear hl hs hN
  go_enter Tryd.func7, Tryd.ntmps7
  go_wp2
  go_loop [3, 4, 7, 8, 9, 10, 11, 12, 13, 14, 15, 16, 17, 18, 19, 20, 21, 22, 23, 24, 25] (fun s i _ _ _ _ _ _ _ _ _ _ _ _ _ _ _ _ _ _ _ => ∃ (k t : Nat), k ≤ N ∧ k ≤ 100 ∧ i = .int .i64 k ∧ s = .int .i64 t ∧ N ≤ t ∧ t ≤ N + k * 17592186043904) (fun _ i _ _ _ _ _ _ _ _ _ _ _ _ _ _ _ _ _ _ _ => N - (intOf i).toNat)
  case atStart => exact ⟨0, N, by omega, by omega, rfl, rfl, by omega, by omega⟩
  case round =>
    obtain ⟨k, t, hk, hk1, rfl, rfl, ht, ht2⟩ := hrel
    by_cases hlt : k < N ∧ k < 100
    · have h1 := hlt.1
      have h2 := hlt.2
      have hkl : k < l.length := by rw [← H1.out]; exact h1
      obtain ⟨b, o, rfl, p0, p1, p2, p3⟩ := HL.out.at_ hkl
      have hsz := HS.out _ (List.getElem_mem hkl)
      obtain ⟨x, hx⟩ : ∃ x, x = l[k] := ⟨_, rfl⟩
      rw [← hx] at p0 p1 p2 p3 hsz
      obtain ⟨k0, n0, r0, s0⟩ := x
      dsimp only at p0 p1 p2 p3 hsz
      clear hx hlt p0 p1 p2 hkl
      have hq : s0.size / 8 ≤ 17592186043904 := by omega
      go_wp2
      exact ⟨⟨k + 1, t + s0.size / 8, by omega, by omega, by go_num, by simp, by omega, by omega⟩, by simp [intOf]; omega⟩
    · have hT : Hid (N = l.length) := H1
      by_cases h1 : k < N
      · have h3 : k = 100 := by omega
        subst h3
        clear hlt
        go_wp2
        go_ret
        exact ⟨_, rfl, fun hr => by simp at hr; rw [← hT.out]; omega, rfl⟩
      · have h3 : k = N := by omega
        subst h3
        clear hlt
        go_wp2
        go_ret
        exact ⟨_, rfl, fun hr => by simp at hr; rw [← hT.out]; omega, rfl⟩
end Go.Proofs.YtbkaphcipbhmhaaDoor.Vh
