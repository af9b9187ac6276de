/- (As Rg11, and where the numbers lie.) The contract of the document's own Get (package fascicleref11). -/
import Derived.Test.YtaoneiicoaiehaaGreatRm11
import Derived.Test.YtaoneiicoaiehaaGreatRx11
import Derived.Test.YtaoneiicoaiehaaGreatRc7
import Derived.Maps.AppendAt
import Derived.Deep.LoopGhost
import Derived.Deep.CutRange
namespace Go.Proofs.YtaoneiicoaiehaaGreat.Rh11
open Go Go.RowKit Go.Lib Go.Proofs.YtaoneiicoaiehaaGreat Go.Proofs.YtaoneiicoaiehaaGreat.Wm Go.Proofs.YtaoneiicoaiehaaGreat.Fl7 Go.Proofs.YtaoneiicoaiehaaGreat.Ff7 Go.Proofs.YtaoneiicoaiehaaGreat.Dh Go.Proofs.YtaoneiicoaiehaaGreat.Sx11 Go.Proofs.YtaoneiicoaiehaaGreat.Nu11 Go.Proofs.YtaoneiicoaiehaaGreat.Ma11 Go.Proofs.YtaoneiicoaiehaaGreat.Ck11 Go.Proofs.YtaoneiicoaiehaaGreat.Tx11 Go.Proofs.YtaoneiicoaiehaaGreat.Mn11 Go.Proofs.YtaoneiicoaiehaaGreat.Pg11 Go.Proofs.YtaoneiicoaiehaaGreat.Rm11 Go.Proofs.YtaoneiicoaiehaaGreat.Rx11
/-- What the document's Get leaves. -/
def RGets (w : World) (s : List UInt8) (e : Ending) (w' : World) : Prop :=
  Below w.heap.size w w' ∧
  ((∃ m, got s = (some m, 0) ∧ ∃ A c, e = .returned (.tuple #[manV m A c, .int .i64 0]) ∧ ManAt w' m A c ∧ ∀ b o, A = some ⟨b, o, none⟩ → w.heap.size < b) ∨
   (∃ k : Nat, got s = (none, k) ∧ k ≠ 0 ∧ e = .returned (.tuple #[zeroV, .int .i64 (k : Int)])))
/-- A store elsewhere leaves a row of numbers alone. -/
theorem nums_set {W : World} {A : Option Addr} {l : List Nat} {r : Nat} (h : Nums W A l) (hne : ∀ b o, A = some ⟨b, o, none⟩ → b ≠ r) (i : Nat) (u : Value) : Nums (W.setCell ⟨r, i, none⟩ u) A l := fun hl => by
  obtain ⟨b, o, e, hlt, hc⟩ := h hl
  refine ⟨b, o, e, by rw [World.size_setCell]; exact hlt, fun k hk => ?_⟩
  exact (World.cell?_of_block (heap_setCell_other W ⟨r, i, none⟩ b u (hne b o e))).trans (hc k hk)
theorem undS : Tryz.prog.underlying 9 = some .string := by kernel_rfl
set_option maxHeartbeats 16000000 in
set_option maxRecDepth 100000 in
theorem rget_any (s : ByteArray) (w : World) (hm : s.size ≤ 1073741824) :
    Calls Tryz.prog 45 #[.string s] w (RGets w s.data.toList) := by
  have hb0 : Below w.heap.size w (w.alloc (.cells #[.int .u64 0, .slice none 0 0, .int .u64 0] 36)) := (Below.refl _ _).alloc (Nat.le_refl _) _
  have hsc := Rc7.rscan s (w.alloc (.cells #[.int .u64 0, .slice none 0 0, .int .u64 0] 36)) (by omega)
  have HB0 := Lib.hid hb0
  have HSC := Lib.hid hsc
  clear hb0 hsc
  go_enter Tryz.func45, Tryz.ntmps45
  go_wp2_with fail
  refine HSC.out.mono ?_
  rintro e w1 ⟨A, c, rfl, hown, hb1⟩
  rw [size_alloc] at hown hb1
  have hbx : w1.heap[w.heap.size]? = some (.cells #[.int .u64 0, .slice none 0 0, .int .u64 0] 36) := (hb1.block _ (Nat.lt_succ_self _)).trans (heap_new _ _)
  obtain ⟨L, hL⟩ : ∃ L, L = (scan s.data.toList).1 := ⟨_, rfl⟩
  obtain ⟨k, hk⟩ : ∃ k, k = (scan s.data.toList).2.2 := ⟨_, rfl⟩
  obtain ⟨p, hp⟩ : ∃ p, p = (scan s.data.toList).2.1 := ⟨_, rfl⟩
  have HL := Lib.hid hL
  have HK := Lib.hid hk
  rw [← hL] at hown
  rw [← hL, ← hk, ← hp]
  have HOWN := Lib.hid hown
  have HBX := Lib.hid hbx
  have HB1 := Lib.hid (HB0.out.trans (hb1.mono (Nat.le_succ _)))
  clear hL hk hp hown hbx hb1 HSC
  by_cases hk0 : k = 0
  · subst hk0
    have HKS : Hid ((scan s.data.toList).2.2 = 0) := Lib.hid HK.out.symm
    have e00 : ((0 : Nat) : Int) = 0 := rfl
    rw [e00]
    clear e00
    by_cases hl1 : L.length = 1
    · obtain ⟨t, rfl⟩ : ∃ t, L = [t] := by
        cases hL : L with
        | nil => rw [hL] at hl1; simp at hl1
        | cons t r => 
          cases hr : r with
          | nil => exact ⟨t, rfl⟩
          | cons u r' => rw [hL, hr] at hl1; simp at hl1
      have hrd := Fs7.rds_of_own HOWN.out
      obtain ⟨gb, go, rfl, hgc⟩ := hrd.at_ (k := 0) (by simp)
      rw [Nat.add_zero] at hgc
      simp only [List.map_cons, List.map_nil, List.getElem_cons_zero] at hgc
      have hgb : gb < w1.heap.size := World.block_lt_of_cell? w1 _ hgc
      have HGB := Lib.hid hgb
      have htl : t.length ≤ 4194304 := one_text (s := s.data.toList) HL.out.symm
      have HT := Lib.hid htl
      obtain ⟨x, hx⟩ : ∃ x, x = bs t := ⟨_, rfl⟩
      have hxs : x.size = t.length := by rw [hx, bs_size]
      have HX := Lib.hid hx
      have HXS := Lib.hid hxs
      rw [← hx] at hgc
      obtain ⟨n, hn⟩ : ∃ n, n = x.size := ⟨_, rfl⟩
      have HN := Lib.hid hn
      have hn4 : n ≤ 4194304 := by omega
      have HGC := Lib.hid hgc
      clear hrd hl1 htl hgb hx hxs
      simp only [List.length_cons, List.length_nil, Nat.zero_add]
      go_upto_region 4 with fail
      by_cases hs : n < 24
      · have hsz : decide ((x.size : Int) < 24) = true := decide_eq_true (by omega)
        have HG : Hid (got s.data.toList = (none, 7)) := Lib.hid (got_short _ t HKS.out HL.out.symm (.inl (by have := HXS.out; omega)))
        obtain ⟨⟨r0, r1, r2⟩, rf⟩ := zeros HBX.out
        have rf0 := rf 0
        have rf1 := rf 1
        have rf2 := rf 2
        clear rf
        go_wp2
        obtain ⟨⟨z0, z1, z2⟩, zb, _⟩ := ans HB1.out HBX.out rfl (.int .u64 0) (.slice none 0 0) (.int .u64 0)
        generalize ((w1.setCell ⟨w.heap.size, 0, none⟩ (.int .u64 0)).setCell ⟨w.heap.size, 1, none⟩ (.slice none 0 0)).setCell ⟨w.heap.size, 2, none⟩ (.int .u64 0) = wz at z0 z1 z2 zb ⊢
        refine bodyPost_ret (v := .tuple #[zeroV, .int .i64 7]) (by simp [results, Tryz.results45, go_sem, z0, z1, z2, zeroV]) rfl ?_
        exact ⟨zb, .inr ⟨7, HG.out, by omega, rfl⟩⟩
      · have hsz : decide ((x.size : Int) < 24) = false := decide_eq_false (by omega)
        by_cases h8 : n % 8 ≠ 0
        · have HG : Hid (got s.data.toList = (none, 7)) := Lib.hid (got_short _ t HKS.out HL.out.symm (.inr (by have := HXS.out; have := HN.out; omega)))
          obtain ⟨⟨r0, r1, r2⟩, rf⟩ := zeros HBX.out
          have rf0 := rf 0
          have rf1 := rf 1
          have rf2 := rf 2
          clear rf
          go_wp2
          obtain ⟨⟨z0, z1, z2⟩, zb, _⟩ := ans HB1.out HBX.out rfl (.int .u64 0) (.slice none 0 0) (.int .u64 0)
          generalize ((w1.setCell ⟨w.heap.size, 0, none⟩ (.int .u64 0)).setCell ⟨w.heap.size, 1, none⟩ (.slice none 0 0)).setCell ⟨w.heap.size, 2, none⟩ (.int .u64 0) = wz at z0 z1 z2 zb ⊢
          refine bodyPost_ret (v := .tuple #[zeroV, .int .i64 7]) (by simp [results, Tryz.results45, go_sem, z0, z1, z2, zeroV]) rfl ?_
          exact ⟨zb, .inr ⟨7, HG.out, by omega, rfl⟩⟩
        · obtain ⟨q, hq⟩ : ∃ q, n = 8 * q := ⟨n / 8, by omega⟩
          have hq3 : 3 ≤ q := by omega
          have hqm : q ≤ 600000 := by omega
          have hz8 : ((x.size : Int) % 8 != 0) = false := by
            have : (x.size : Int) % 8 = 0 := by omega
            rw [this]; rfl
          have HQ : Hid (t.length = 8 * q) := Lib.hid (by have := HXS.out; have := HN.out; omega)
          have HXQ : Hid (x.size = 8 * q) := Lib.hid (by omega)
          have HFR : Hid (∀ j, j < q → (x.extract (8 * j) (8 * j + 8)).size = 8 ∧ getL (x.extract (8 * j) (8 * j + 8)).data.toList = rv (rest t j)) := Lib.hid fun j hj => by
            have := HQ.out
            refine ⟨by rw [ByteArray.size_extract]; omega, ?_⟩
            rw [rv_drop t j (by omega), ex_list, HX.out]; rfl
          clear h8 hs hq hn hn4
          go_wp2_with fail
          go_loopg [7, 8, 9, 10] (q + 1) (fun g1 vn vi _ _ wr => ∃ (j a : Nat) (An : Option Addr) (cn : Nat), vn = .slice An j cn ∧ vi = .int .i64 (a : Int) ∧ j ≤ q ∧ q + 1 - j ≤ g1 ∧ Hid (a = 8 * j) ∧ Hid (Nu11.Own w1.heap.size (rs t j) (.slice An j cn) wr) ∧ Hid (Below w1.heap.size w1 wr))
          case atStart => exact ⟨0, 0, none, 0, rfl, rfl, by omega, by omega, Lib.hid rfl, Lib.hid (World.ownsRow_nil _ _ _ _), Lib.hid (Below.refl _ _)⟩
          case round =>
            obtain ⟨j, a, An, cn, rfl, rfl, hj, hg1, HA, HO, HB⟩ := hrel
            have hgc' : wr.cell? ⟨gb, go, none⟩ = some (.string x) := (HB.out.cell (p := ⟨gb, go, none⟩) HGB.out).trans HGC.out
            by_cases hjq : j < q
            · obtain ⟨hx8, hxv⟩ := HFR.out j hjq
              rw [← HA.out] at hx8 hxv
              have hg := WRefPut.get_ok (x.extract a (a + 8)) wr (by omega) (by omega)
              rw [hxv] at hg
              have HGT := Lib.hid hg
              obtain ⟨v, hv⟩ : ∃ v, v = rv (rest t j) := ⟨_, rfl⟩
              rw [← hv] at HGT
              have HV : Hid (rs t (j + 1) = rs t j ++ [v]) := Lib.hid (by rw [hv]; rfl)
              have hzj : (a : Int) < (x.size : Int) := by have := HA.out; have := HXQ.out; omega
              have hzk : (a : Int) + 8 ≤ (x.size : Int) := by have := HA.out; have := HXQ.out; omega
              have hzm : (x.size : Int) ≤ 4800000 := by have := HXQ.out; omega
              have hsl : ∀ W, (Instr.slice 9 (.string x) (some (.int .i64 (a : Int))) (some (.int .i64 ((a : Int) + 8))) none).run Tryz.prog W = .ok (.string (x.extract a (a + 8))) W := fun W => by
                have h := run_slice_string (P := Tryz.prog) (w := W) 9 x .i64 .i64 (a : Int) ((a : Int) + 8) undS (by omega) (by omega) hzk
                rw [h]; rfl
              clear hg hxv hx8 hv
              go_wp2_with fail
              refine HGT.out.mono ?_
              rintro e w3 ⟨rfl, rfl⟩
              have HM := Lib.hid (own_made wr [v] (by show 1 ≤ 1000; omega))
              have HBM := Lib.hid ((Below.refl wr.heap.size wr).alloc (Nat.le_refl _) (.cells (Nu11.nums [v]).toArray 33))
              have HSZ : Hid (w1.heap.size ≤ (wr.alloc (.cells (Nu11.nums [v]).toArray 33)).heap.size) := Lib.hid (by rw [size_alloc]; have := HB.out.size; omega)
              have HOA := Lib.hid (HO.out.keep HBM.out)
              have HLJ : Hid ((rs t j).length = j) := Lib.hid (rs_len t j)
              clear hsl HGT
              go_wp2_with (at_builtin; refine wpList_app (B := w1.heap.size) (H := rs t j) (L := [v]) rfl _ _ rfl rfl rfl ?c1 ?c2 (fun h => by cases h) ?c3 HSZ.out ?_)
              case c1 => exact HOA.out
              case c2 => exact HM.out.nums
              case c3 => rw [HLJ.out]; show j + 1 ≤ 1099511627776; omega
              intro v' w4 hown hb4
              rw [← HV.out] at hown
              have HO4 := Lib.hid hown
              have HB4 := Lib.hid ((HB.out.trans (HBM.out.mono HB.out.size)).trans hb4)
              have hlj : (rs t (j + 1)).length = j + 1 := rs_len t (j + 1)
              obtain ⟨A4, c4, rfl⟩ : ∃ A4 c4, v' = .slice A4 (j + 1) c4 := by
                rcases hown.shape with ⟨_, h0⟩ | ⟨g, c, h, _⟩
                · rw [h0] at hlj; cases hlj
                · exact ⟨_, c, by rw [h, hlj]⟩
              clear hown hb4 hlj HO HB HBM HM
              go_wp2
              go_roundg (q - j)
              case measure => omega
              case rel => exact ⟨j + 1, a + 8, A4, c4, rfl, by first | rfl | go_num, by omega, by omega, Lib.hid (by have := HA.out; omega), HO4, HB4⟩
            · obtain rfl : j = q := by omega
              have hza : ¬ (a : Int) < (x.size : Int) := by have := HA.out; have := HXQ.out; omega
              obtain ⟨hNl, n0, n1, n2, n3⟩ := nums_at t j hq3 (rs t j) rfl
              rcases HO.out.shape with ⟨_, h0⟩ | ⟨g, cg, e, hglo, hgh, hcells⟩
              · rw [h0] at hNl; simp at hNl; omega
              rw [hNl] at e
              obtain ⟨rfl, rfl⟩ : An = some ⟨g, 0, none⟩ ∧ cn = cg := by injection e with e1 e2 e3; exact ⟨e1, e3⟩
              have d0 := (hcells 0 (by omega)).1
              have d1 := (hcells 1 (by omega)).1
              have d2 := (hcells 2 (by omega)).1
              rw [n0] at d0
              rw [n1] at d1
              rw [n2] at d2
              have hnums : Nums wr (some ⟨g, 3, none⟩) (mq t j).runs := fun _ => ⟨g, 3, rfl, hgh, fun k hk => by
                have hk' : k < j - 3 := by
                  have : (mq t j).runs.length = j - 3 := rs_len _ _
                  omega
                have h := (hcells (3 + k) (by omega)).1
                have e : (mq t j).runs[k] = (rs t j)[3 + k]'(by omega) := by
                  have h5 : (mq t j).runs[k]? = (rs t j)[3 + k]? := by rw [← n3, List.getElem?_drop]
                  rw [List.getElem?_eq_getElem hk, List.getElem?_eq_getElem (by omega)] at h5
                  injection h5
                rw [e]; exact h⟩
              have HNU := Lib.hid hnums
              have hcap : j ≤ cn := by
                rcases HO.out.2 with ⟨h1, _⟩ | ⟨g', cap', cur', h1, _, _, h4, h5, _⟩
                · cases h1
                · injection h1 with _ _ h1
                  rw [h1]; rw [rs_len] at h4; simpa using h4
              have HCP := Lib.hid hcap
              have hj3 : (3 : Int) ≤ (j : Int) := by omega
              have hgx : g ≠ wr.heap.size := by omega
              have HGX := Lib.hid hgh
              clear hNl n0 n1 n2 n3 hcells e hnums
              go_wp2_with fail
              go_region
              obtain ⟨AR, hAR⟩ : ∃ AR : Option Addr, AR = if cn = 3 then some ⟨g, 0, none⟩ else some ⟨g, 3, none⟩ := ⟨_, rfl⟩
              rw [← hAR]
              have hARn : AR ≠ none := by rw [hAR]; split <;> simp
              have HARB : Hid (∀ b o, AR = some ⟨b, o, none⟩ → w.heap.size < b) := Lib.hid (by
                intro b o e
                have hw := lt_of_at HBX.out
                rw [hAR] at e
                split at e <;> (injection e with e; injection e with e; omega))
              clear hglo
              have hrl : (mq t j).runs.length = j - 3 := rs_len _ _
              have hal : Below wr.heap.size wr ((wr.alloc (.cells #[.int .u64 (rv t : Int), .slice AR (j - 3) (cn - 3), .int .u64 (rv (ro t) : Int)] 36)).drew) := ((Below.refl _ _).alloc (Nat.le_refl _) _).drew
              have hnu : Nums ((wr.alloc (.cells #[.int .u64 (rv t : Int), .slice AR (j - 3) (cn - 3), .int .u64 (rv (ro t) : Int)] 36)).drew) AR (mq t j).runs := by
                by_cases h3 : cn = 3
                · have e : (mq t j).runs = [] := List.length_eq_zero_iff.1 (by rw [hrl]; have := HCP.out; omega)
                  rw [e]; exact Nums.nil _ _
                · intro hne
                  obtain ⟨b', o', e', h4, h5⟩ := HNU.out.keep (Nat.le_refl _) hal hne
                  exact ⟨b', o', by rw [hAR, if_neg h3]; exact e', h4, h5⟩
              have hbx : ((wr.alloc (.cells #[.int .u64 (rv t : Int), .slice AR (j - 3) (cn - 3), .int .u64 (rv (ro t) : Int)] 36)).drew).heap[wr.heap.size]? = some (.cells #[.int .u64 (rv t : Int), .slice AR (j - 3) (cn - 3), .int .u64 (rv (ro t) : Int)] 36) := heap_new _ _
              have hd2 : ((wr.alloc (.cells #[.int .u64 (rv t : Int), .slice AR (j - 3) (cn - 3), .int .u64 (rv (ro t) : Int)] 36)).drew).cell? ⟨g, 2, none⟩ = some (.int .u64 (rv (ro (ro t)) : Int)) := (hal.cell (p := ⟨g, 2, none⟩) HGX.out).trans d2
              have hbt := HB1.out.trans (((HB.out.trans (hal.mono HB.out.size))).mono HB1.out.size)
              have hre := ((HB.out.trans (hal.mono HB.out.size)).block _ (lt_of_at HBX.out)).trans HBX.out
              have hgl : g < ((wr.alloc (.cells #[.int .u64 (rv t : Int), .slice AR (j - 3) (cn - 3), .int .u64 (rv (ro t) : Int)] 36)).drew).heap.size := Nat.lt_of_lt_of_le HGX.out hal.size
              clear hAR hal d0 d1 d2 hgc' HGX
              generalize (wr.alloc (.cells #[.int .u64 (rv t : Int), .slice AR (j - 3) (cn - 3), .int .u64 (rv (ro t) : Int)] 36)).drew = w5 at hnu hbx hd2 hbt hre hgl ⊢
              obtain ⟨bx, hbxe⟩ : ∃ bx, bx = wr.heap.size := ⟨_, rfl⟩
              rw [← hbxe] at hbx ⊢
              have HAT : Hid (ManAt w5 (mq t j) AR (cn - 3)) := Lib.hid ⟨hnu, fun _ => .inr hARn, (mq_fits t j).1, (mq_fits t j).2.1, (mq_fits t j).2.2⟩
              have HBX5 := Lib.hid hbx
              have HBT := Lib.hid hbt
              have HRE := Lib.hid hre
              have HRL := Lib.hid hrl
              have HGL := Lib.hid hgl
              have HD2 := Lib.hid hd2
              have hu64 : IntKind.u64.wrap ((j - 3 : Nat) : Int) = ((j - 3 : Nat) : Int) := wrap_u64_small _ (by omega)
              have x0 : w5.cell? ⟨bx, 0, none⟩ = some (.int .u64 (rv t : Int)) := by rw [cell_of hbx]; rfl
              have x1 : w5.cell? ⟨bx, 1, none⟩ = some (.slice AR (j - 3) (cn - 3)) := by rw [cell_of hbx]; rfl
              have x2 : w5.cell? ⟨bx, 2, none⟩ = some (.int .u64 (rv (ro t) : Int)) := by rw [cell_of hbx]; rfl
              have HQ3 : Hid (t.length = 8 * j ∧ 3 ≤ j) := Lib.hid ⟨HQ.out, hq3⟩
              have hj2 : (2 : Int) < (j : Int) := by omega
              clear hnu hbx hbt hre hrl hARn hgl HNU HO HB HCP hbxe hj3
              obtain ⟨r, hr⟩ : ∃ r, r = j - 3 := ⟨_, rfl⟩
              have HR := Lib.hid hr
              rw [← hr] at hu64 x1 HRL HBX5 ⊢
              by_cases hn : rv (ro (ro t)) = r
              · rw [hn] at hd2 HD2
                clear hr
                have hmy : ∀ W, Below w5.heap.size w5 W → Calls Tryz.prog 69 #[manV (mq t j) AR (cn - 3)] W fun e w' => e = .returned (.bool (may (mq t j))) ∧ Below W.heap.size W w' := fun W hW => rmay_any (HAT.out.keep (Nat.le_refl _) hW) (by rw [HRL.out]; have := HR.out; omega)
                have hmv : manV (mq t j) AR (cn - 3) = .agg #[.int .u64 (rv t : Int), .slice AR r (cn - 3), .int .u64 (rv (ro t) : Int)] := by
                  unfold manV; rw [HRL.out]; rfl
                rw [hmv] at hmy
                have HMV := Lib.hid hmv
                have HMY := Lib.hid hmy
                have hqq : ∀ W, Below w5.heap.size w5 W → W.cell? ⟨g, 2, none⟩ = some (.int .u64 (r : Int)) ∧ W.cell? ⟨bx, 0, none⟩ = some (.int .u64 (rv t : Int)) ∧ W.cell? ⟨bx, 1, none⟩ = some (.slice AR r (cn - 3)) ∧ W.cell? ⟨bx, 2, none⟩ = some (.int .u64 (rv (ro t) : Int)) := fun W hW => by
                  have hb := (hW.block _ (lt_of_at HBX5.out)).trans HBX5.out
                  exact ⟨(hW.cell (p := ⟨g, 2, none⟩) HGL.out).trans HD2.out, by rw [cell_of hb]; rfl, by rw [cell_of hb]; rfl, by rw [cell_of hb]; rfl⟩
                have HQQ := Lib.hid hqq
                have HNN := Lib.hid hn
                clear hn hmy hqq hmv
                go_wp2_with fail
                go_region_held3 (fun W => W.cell? ⟨g, 2, none⟩ = some (.int .u64 (r : Int)) ∧ W.cell? ⟨bx, 0, none⟩ = some (.int .u64 (rv t : Int)) ∧ W.cell? ⟨bx, 1, none⟩ = some (.slice AR r (cn - 3)) ∧ W.cell? ⟨bx, 2, none⟩ = some (.int .u64 (rv (ro t) : Int)))
                  (first | exact HQQ.out _ (by assumption : Hid (Below _ _ _)).out | exact HQQ.out _ ((Below.refl _ w5).drew))
                  (first
                    | (go_at_call 69; (with_reducible refine (HMY.out _ ((Below.refl _ w5).drew)).mono ?_); rintro e w6 ⟨rfl, hb6⟩; have HB6 := Lib.hid (((Below.refl _ w5).drew).trans hb6); clear hb6))
                have HBT6 := Lib.hid (HBT.out.trans (HB6.out.mono HBT.out.size))
                have hre6 := (HB6.out.block _ (lt_of_at HRE.out)).trans HRE.out
                have HRE6 := Lib.hid hre6
                have hbx6 := (HB6.out.block _ (lt_of_at HBX5.out)).trans HBX5.out
                have u0 : w6.cell? ⟨bx, 0, none⟩ = some (.int .u64 (rv t : Int)) := by rw [cell_of hbx6]; rfl
                have u1 : w6.cell? ⟨bx, 1, none⟩ = some (.slice AR r (cn - 3)) := by rw [cell_of hbx6]; rfl
                have u2 : w6.cell? ⟨bx, 2, none⟩ = some (.int .u64 (rv (ro t) : Int)) := by rw [cell_of hbx6]; rfl
                have HAT6 := Lib.hid (HAT.out.keep (Nat.le_refl _) HB6.out)
                have hgm := got_man s.data.toList t j HKS.out HL.out.symm HQ3.out.1 HQ3.out.2 (by rw [HNN.out, HR.out])
                obtain ⟨⟨r0, r1, r2⟩, rf⟩ := zeros hre6
                have rf0 := rf 0
                have rf1 := rf 1
                have rf2 := rf 2
                clear rf hre6 hbx6 HMY HQQ hd2 x0 x1 x2
                cases hmay : may (mq t j) with
                | false =>
                  rw [hmay] at hgm
                  have HG : Hid (got s.data.toList = (none, 7)) := Lib.hid hgm
                  clear hmay hgm
                  go_wp2
                  obtain ⟨⟨z0, z1, z2⟩, zb, _⟩ := ans HBT6.out HRE6.out rfl (.int .u64 0) (.slice none 0 0) (.int .u64 0)
                  generalize ((w6.setCell ⟨w.heap.size, 0, none⟩ (.int .u64 0)).setCell ⟨w.heap.size, 1, none⟩ (.slice none 0 0)).setCell ⟨w.heap.size, 2, none⟩ (.int .u64 0) = wz at z0 z1 z2 zb ⊢
                  refine bodyPost_ret (v := .tuple #[zeroV, .int .i64 7]) (by simp [results, Tryz.results45, go_sem, z0, z1, z2, zeroV]) rfl ?_
                  exact ⟨zb, .inr ⟨7, HG.out, by omega, rfl⟩⟩
                | true =>
                  rw [hmay] at hgm
                  have HG : Hid (got s.data.toList = (some (mq t j), 0)) := Lib.hid hgm
                  clear hmay hgm
                  go_wp2
                  obtain ⟨⟨z0, z1, z2⟩, zb, _⟩ := ans HBT6.out HRE6.out rfl (.int .u64 (rv t : Int)) (.slice AR r (cn - 3)) (.int .u64 (rv (ro t) : Int))
                  have hkp : Nums (((w6.setCell ⟨w.heap.size, 0, none⟩ (.int .u64 (rv t : Int))).setCell ⟨w.heap.size, 1, none⟩ (.slice AR r (cn - 3))).setCell ⟨w.heap.size, 2, none⟩ (.int .u64 (rv (ro t) : Int))) AR (mq t j).runs := nums_set (nums_set (nums_set HAT6.out.nums (fun b o e => Nat.ne_of_gt (HARB.out b o e)) 0 _) (fun b o e => Nat.ne_of_gt (HARB.out b o e)) 1 _) (fun b o e => Nat.ne_of_gt (HARB.out b o e)) 2 _
                  generalize ((w6.setCell ⟨w.heap.size, 0, none⟩ (.int .u64 (rv t : Int))).setCell ⟨w.heap.size, 1, none⟩ (.slice AR r (cn - 3))).setCell ⟨w.heap.size, 2, none⟩ (.int .u64 (rv (ro t) : Int)) = wz at z0 z1 z2 zb hkp ⊢
                  refine bodyPost_ret (v := .tuple #[manV (mq t j) AR (cn - 3), .int .i64 0]) (by simp [results, Tryz.results45, go_sem, z0, z1, z2, HMV.out]) rfl ?_
                  exact ⟨zb, .inl ⟨_, HG.out, AR, cn - 3, rfl, ⟨hkp, HAT6.out.none, HAT6.out.wal, HAT6.out.next, HAT6.out.runs⟩, HARB.out⟩⟩
              · have hnb : ((rv (ro (ro t)) : Int) != (r : Int)) = true := by
                  simp only [bne_iff_ne, ne_eq]; omega
                have HG : Hid (got s.data.toList = (none, 7)) := Lib.hid (got_other _ t j HKS.out HL.out.symm HQ3.out.1 HQ3.out.2 (by rw [← HR.out]; exact hn))
                clear hr hn
                obtain ⟨⟨r0, r1, r2⟩, rf⟩ := zeros HRE.out
                have rf0 := rf 0
                have rf1 := rf 1
                have rf2 := rf 2
                clear rf
                go_wp2_with fail
                go_quiet (fail)
                have HBT6 := Lib.hid (HBT.out.trans ((below_drewN w5 nq).mono HBT.out.size))
                have HRE6 : Hid ((w5.drewN nq).heap[w.heap.size]? = some (.cells #[.int .u64 0, .slice none 0 0, .int .u64 0] 36)) := HRE
                clear r0 r1 r2 rf0 rf1 rf2 x0 x1 x2 hd2
                generalize w5.drewN nq = w6 at HBT6 HRE6 ⊢
                obtain ⟨⟨r0, r1, r2⟩, rf⟩ := zeros HRE6.out
                have rf0 := rf 0
                have rf1 := rf 1
                have rf2 := rf 2
                clear rf
                go_wp2
                obtain ⟨⟨z0, z1, z2⟩, zb, _⟩ := ans HBT6.out HRE6.out rfl (.int .u64 0) (.slice none 0 0) (.int .u64 0)
                generalize ((w6.setCell ⟨w.heap.size, 0, none⟩ (.int .u64 0)).setCell ⟨w.heap.size, 1, none⟩ (.slice none 0 0)).setCell ⟨w.heap.size, 2, none⟩ (.int .u64 0) = wz at z0 z1 z2 zb ⊢
                refine bodyPost_ret (v := .tuple #[zeroV, .int .i64 7]) (by simp [results, Tryz.results45, go_sem, z0, z1, z2, zeroV]) rfl ?_
                exact ⟨zb, .inr ⟨7, HG.out, by omega, rfl⟩⟩
    · have HG : Hid (got s.data.toList = (none, 7)) := Lib.hid (got_many _ HKS.out (by rw [← HL.out]; exact hl1))
      have hl1z : ¬ (L.length : Int) = 1 := by omega
      have hl1b : ((L.length : Int) == 1) = false := by simpa using hl1z
      obtain ⟨⟨r0, r1, r2⟩, rf⟩ := zeros HBX.out
      have rf0 := rf 0
      have rf1 := rf 1
      have rf2 := rf 2
      clear rf
      go_wp2
      obtain ⟨⟨z0, z1, z2⟩, zb, _⟩ := ans HB1.out HBX.out rfl (.int .u64 0) (.slice none 0 0) (.int .u64 0)
      generalize ((w1.setCell ⟨w.heap.size, 0, none⟩ (.int .u64 0)).setCell ⟨w.heap.size, 1, none⟩ (.slice none 0 0)).setCell ⟨w.heap.size, 2, none⟩ (.int .u64 0) = wz at z0 z1 z2 zb ⊢
      refine bodyPost_ret (v := .tuple #[zeroV, .int .i64 7]) (by simp [results, Tryz.results45, go_sem, z0, z1, z2, zeroV]) rfl ?_
      exact ⟨zb, .inr ⟨7, HG.out, by omega, rfl⟩⟩
  · have hk0z : ¬ (k : Int) = 0 := by omega
    have hkb : ((k : Int) == 0) = false := by simpa using hk0z
    have HG : Hid (got s.data.toList = (none, k)) := Lib.hid (by rw [got_none _ (by rw [← HK.out]; exact hk0), ← HK.out])
    have HK0 := Lib.hid hk0
    obtain ⟨⟨r0, r1, r2⟩, rf⟩ := zeros HBX.out
    have rf0 := rf 0
    have rf1 := rf 1
    have rf2 := rf 2
    clear rf
    go_wp2
    obtain ⟨⟨z0, z1, z2⟩, zb, _⟩ := ans HB1.out HBX.out rfl (.int .u64 0) (.slice none 0 0) (.int .u64 0)
    generalize ((w1.setCell ⟨w.heap.size, 0, none⟩ (.int .u64 0)).setCell ⟨w.heap.size, 1, none⟩ (.slice none 0 0)).setCell ⟨w.heap.size, 2, none⟩ (.int .u64 0) = wz at z0 z1 z2 zb ⊢
    refine bodyPost_ret (v := .tuple #[zeroV, .int .i64 (k : Int)]) (by simp [results, Tryz.results45, go_sem, z0, z1, z2, zeroV]) rfl ?_
    exact ⟨zb, .inr ⟨k, HG.out, HK0.out, rfl⟩⟩
end Go.Proofs.YtaoneiicoaiehaaGreat.Rh11
