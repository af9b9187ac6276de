/- MemScans' walk. -/
import Derived.Test.YtkbjmbllnnghlaaRr9
import Derived.Test.YtkbjmbllnnghlaaOp9
namespace Go.Proofs.Ytkbjmbllnnghlaa.Ql9
open Go Go.RowKit Go.Proofs.Ytkbjmbllnnghlaa.Pm9 Go.Proofs.Ytkbjmbllnnghlaa.Wd9 Go.Proofs.Ytkbjmbllnnghlaa.Mt9 Go.Proofs.Ytkbjmbllnnghlaa.Mm9 Go.Proofs.Ytkbjmbllnnghlaa.Mg9 Go.Proofs.Ytkbjmbllnnghlaa.Sn9 Go.Proofs.Ytkbjmbllnnghlaa.Rd9 Go.Proofs.Ytkbjmbllnnghlaa.Rg9 Go.Proofs.Ytkbjmbllnnghlaa.Rp9 Go.Proofs.Ytkbjmbllnnghlaa.Rq9 Go.Proofs.Ytkbjmbllnnghlaa.Ss9 Go.Proofs.Ytkbjmbllnnghlaa.La9 Go.Proofs.Ytkbjmbllnnghlaa.Tw9 Go.Proofs.Ytkbjmbllnnghlaa.Sl9 Go.Proofs.Ytkbjmbllnnghlaa.Rr9 Go.Proofs.Ytkbjmbllnnghlaa.Op9
theorem three_pair {W : World} {b : Nat} {G : Pr} (h : W.heap[b]? = some (pairO G)) : W.cell? ⟨b, 0, none⟩ = some (.string G.k) ∧ W.cell? ⟨b, 1, none⟩ = some (.string G.v) ∧ W.cell? ⟨b, 2, none⟩ = some (.bool G.g) := ⟨cell_of h 0, cell_of h 1, cell_of h 2⟩
theorem bne_int (E : Int) : (E != E) = false := by simp
theorem three_at {W0 V : World} {A : Option Addr} {L : List Pr} (h : Reads W0 A L) (hb : Below W0.heap.size W0 V) {k : Nat} (hk : k < L.length) : ∃ b o, A = some ⟨b, o, none⟩ ∧ Three V b (o + k * 3) L[k] := (h.keep (Nat.le_refl _) hb).at_ hk
theorem scan_every {n : Int} {l : List Pr} (h : (l.length : Int) ≤ n) : scan ⟨#[]⟩ ⟨#[]⟩ n l = l := by
  rw [scan_from, List.filter_eq_self.2 fun q _ => by rw [lt_empty]; rfl]
  exact List.take_of_length_le (by omega)
set_option maxRecDepth 40000 in
set_option maxHeartbeats 8000000 in
theorem walk (w : World) (A : Option Addr) (c : Nat) (L : List Pr) (cut : ByteArray) (most : Int) (hc : PairsAt w A L) (wk : cut.size ≤ 140737488351232) (hmo : 0 ≤ most ∧ most ≤ 255) :
    Calls Try.prog 4 #[.slice A L.length c, .string cut, .int .u8 most] w fun e w' => e = .returned (.bool true) ∧ Below w.heap.size w w' := by
  have HL := Lib.hid (large_any w A c L hc.reads hc.len hc.text)
  have HC := Lib.hid hc
  obtain ⟨N, hN⟩ : ∃ N, N = L.length := ⟨_, rfl⟩
  rw [← hN] at HL ⊢
  have HN := Lib.hid hN
  have hl0 := hc.len
  rw [← hN] at hl0
  clear hc hN
  go_enter Try.func4, Try.ntmps4
  go_wp2_with fail
  with_reducible refine HL.out.mono ?_
  rintro e w1 ⟨r, rfl, hr, hb1⟩
  have HB1 := Lib.hid hb1
  cases r
  · obtain ⟨hn, hz⟩ := hr rfl
    by_cases hbig : (cut.size : Int) > 512
    · clear hb1 hr HL
      go_wp2_with fail
      refine (alive_any _).mono ?_
      rintro e w2 ⟨rfl, hb2⟩
      go_wp2
      go_ret
      exact ⟨rfl, HB1.out.trans (hb2.mono HB1.out.size)⟩
    · have HNW := Lib.hid (s_new HB1.out (Nat.le_refl _))
      clear hb1 hr HL
      go_wp2_with fail
      with_reducible refine HNW.out.mono ?_
      rintro e w2 ⟨rfl, hs2, _⟩
      obtain ⟨p, hp⟩ : ∃ p, p = w1.heap.size := ⟨_, rfl⟩
      rw [← hp] at hs2 ⊢
      have HS2 := Lib.hid hs2
      clear hs2 hp HNW
      go_wp2
      go_loopw [8, 29, 30, 31, 32, 33, 34, 35, 36, 37, 38, 39, 40] (fun i _ _ _ _ _ _ _ _ _ _ _ _ wr => ∃ (k : Nat), k ≤ N ∧ i = .int .i64 k ∧ Hid (∃ S, Ses w.heap.size w S p (upto L k) wr)) (fun i _ _ _ _ _ _ _ _ _ _ _ _ _ => N - (intOf i).toNat)
      case atStart => exact ⟨0, by omega, rfl, Lib.hid (by rw [upto_zero]; exact ⟨_, HS2.out⟩)⟩
      case round =>
        obtain ⟨k, hk, rfl, ht⟩ := hrel
        clear HS2
        by_cases hlt : k < N
        · have hil : k < L.length := by rw [← HN.out]; exact hlt
          obtain ⟨u1, u2, u3, u4⟩ := upto_facts L k (by omega)
          have uz := size_take L k
          have us_ := upto_succ L k hil
          have hx := HC.out.text _ (List.getElem_mem hil)
          obtain ⟨S, hs⟩ := ht.out
          obtain ⟨bb, o, hA, p0, p1, p2⟩ := three_at HC.out.reads hs.below hil
          obtain ⟨x, hxe⟩ : ∃ x, x = L[k] := ⟨_, rfl⟩
          rw [← hxe] at p0 p1 p2 hx us_
          subst hA
          have HPUT := Lib.hid (s_put hs x hx.1 hx.2 (by omega) (by omega))
          rw [← us_] at HPUT
          clear u1 u2 u3 u4 uz us_ hxe hs ht hil hx
          go_wp2_with fail
          with_reducible refine HPUT.out.mono ?_
          rintro e w4 ⟨rfl, hs4, _⟩
          have HS4 := Lib.hid hs4
          clear hs4 HPUT
          go_wp2
          exact ⟨⟨k + 1, by omega, by go_num, Lib.hid ⟨_, HS4.out⟩⟩, by simp [intOf]; omega⟩
        · obtain rfl : k = N := by omega
          have hkl : k ≤ L.length := by rw [← HN.out]; exact Nat.le_refl _
          obtain ⟨u1, u2, u3, u4⟩ := upto_facts L k hkl
          have hPL : upto L k = putAll [] L := by unfold upto; rw [HN.out, List.take_length]
          obtain ⟨Q, hQ⟩ : ∃ Q, Q = upto L k := ⟨_, rfl⟩
          rw [← hQ] at ht u1 u3 u4 hPL
          obtain ⟨S, hs⟩ := ht.out
          have hsl : scan ⟨#[]⟩ ⟨#[]⟩ ((k : Int) + 1) Q = Q := scan_every (by omega)
          have hwr : IntKind.i64.wrap ((k : Int) + 1) = (k : Int) + 1 := IntWalk.i64_in _ ⟨by omega, by omega⟩
          have hsc := s_scan hs (by omega) ⟨#[]⟩ ⟨#[]⟩ ((k : Int) + 1)
          rw [hsl] at hsc
          have HSC := Lib.hid hsc
          have HS := Lib.hid hs
          have HU3 := Lib.hid u3
          have HU4 := Lib.hid u4
          have HPL := Lib.hid hPL
          obtain ⟨M, hM⟩ : ∃ M, M = Q.length := ⟨_, rfl⟩
          rw [← hM] at u1
          have HMQ := Lib.hid hM
          clear hsc hs ht u2 u3 u4 hQ hPL hsl hkl
          go_wp2_with fail
          with_reducible refine HSC.out.mono ?_
          rintro e w3 ⟨Aa, ca, rfl, own3, hb3⟩
          have hs3 := HS.out.keep hb3
          have HK : Hid (∀ V, Below w3.heap.size w3 V → Ses w.heap.size w S p Q V ∧ Reads V Aa Q ∧ Below w.heap.size w V) := Lib.hid fun V hV => ⟨hs3.keep hV, (reads_of_own own3).keep (Nat.le_refl _) hV, hs3.below.trans (hV.mono hs3.size)⟩
          have HLEN := s_len hs3
          rw [← hM] at HLEN ⊢
          have HLEN2 := Lib.hid HLEN
          have hmm := bne_int (M : Int)
          clear hb3 own3 hs3 HLEN HSC HS hM
          go_wp2_with (go_at_call 12; (with_reducible refine HLEN2.out.mono ?_); rintro e w3 ⟨rfl, rfl⟩)
          go_loopw [10, 11, 12, 51, 52, 53, 54, 55, 56, 57, 58, 59, 60, 61, 62, 63, 64, 65, 66, 67, 68, 69, 70, 71, 72, 73, 74, 75, 76, 77, 78, 79, 80, 81, 82, 83, 84, 85, 86, 87, 88, 89, 90, 91, 92, 93, 94, 95, 96, 97, 98, 99, 100, 101, 102, 103, 104, 105, 106, 107, 108] (fun i _ _ _ _ _ _ _ _ _ _ _ _ _ _ _ _ _ _ _ _ _ _ _ _ _ _ _ _ _ _ _ _ _ _ _ _ _ _ _ _ _ _ _ _ _ _ _ _ _ _ _ _ _ _ _ _ _ _ _ _ wr => ∃ (j : Nat), j ≤ M ∧ i = .int .i64 j ∧ Hid (Below w3.heap.size w3 wr)) (fun i _ _ _ _ _ _ _ _ _ _ _ _ _ _ _ _ _ _ _ _ _ _ _ _ _ _ _ _ _ _ _ _ _ _ _ _ _ _ _ _ _ _ _ _ _ _ _ _ _ _ _ _ _ _ _ _ _ _ _ _ _ => M - (intOf i).toNat)
          case atStart => exact ⟨0, by omega, rfl, Lib.hid (Below.refl _ _)⟩
          case round =>
            obtain ⟨j, hj, rfl, hB⟩ := hrel
            obtain ⟨_, hra, hbw⟩ := HK.out _ hB.out
            by_cases hlt : j < M
            · have hjl : j < Q.length := by rw [← HMQ.out]; exact hlt
              obtain ⟨ba, oa, hAa, a0, a1, a2⟩ := hra.at_ hjl
              have HAY : Hid (∀ V, Below w3.heap.size w3 V → Three V ba (oa + j * 3) Q[j]) := Lib.hid fun V hV => by
                obtain ⟨b3, o3, e3, f3⟩ := (HK.out _ hV).2.1.at_ hjl
                rw [hAa] at e3; cases e3
                exact f3
              have hyQ : Q[j] ∈ Q := List.getElem_mem hjl
              have hlast := last_is zp (L := L) (q := Q[j]) (by rw [← HPL.out]; exact hyQ)
              by_cases hj0 : 0 < j
              · obtain ⟨J, hJ⟩ : ∃ J, j = J + 1 := ⟨j - 1, by omega⟩
                have hJl : J < Q.length := by omega
                obtain ⟨b4, o4, e4, c0, c1, c2⟩ := hra.at_ hJl
                rw [hAa] at e4; cases e4
                have hltk : lt Q[J].k Q[j].k = true := List.pairwise_iff_getElem.1 HU4.out J j hJl hjl (by omega)
                obtain ⟨z, hz⟩ : ∃ z, z = Q[J] := ⟨_, rfl⟩
                obtain ⟨y, hy⟩ : ∃ y, y = Q[j] := ⟨_, rfl⟩
                rw [← hz] at c0 c1 c2 hltk
                rw [← hy] at a0 a1 a2 HAY hlast hltk
                have hlb : Op.bytesLess z.k.toList y.k.toList = true := hltk
                have hgt : (j : Int) > 0 := by omega
                have hgd : decide ((j : Int) > 0) = true := decide_eq_true hgt
                have hJ2 : (j : Int) - 1 = (J : Int) := by omega
                have hJM : J < M := by omega
                subst hAa
                clear hz hy hltk hra hbw hyQ hjl hJl hJ
                go_wp2
                go_quiet (fail)
                rename_i nq
                obtain ⟨v0, hv0⟩ : ∃ v, v = wr.drewN nq := ⟨_, rfl⟩
                have hB0 : Below w3.heap.size w3 v0 := by rw [hv0]; exact below_dn hB.out nq
                rw [← hv0]
                clear hv0 a0 a1 a2
                go_wp2
                obtain ⟨b0, hb0⟩ : ∃ b, b = v0.heap.size := ⟨_, rfl⟩
                have hx0 := heap_new v0 (pairO zp)
                rw [← hb0] at hx0 ⊢
                obtain ⟨v1, hv1⟩ : ∃ v, v = v0.alloc (.cells #[.string ⟨#[]⟩, .string ⟨#[]⟩, .bool false] 33) := ⟨_, rfl⟩
                have hx1 : v1.heap[b0]? = some (pairO zp) := by rw [hv1]; exact hx0
                have hB1 : Below b0 v0 v1 := by rw [hv1, hb0]; exact (Below.refl _ _).alloc (Nat.le_refl _) _
                have hle0 : w3.heap.size ≤ b0 := by rw [hb0]; exact hB0.size
                rw [← hv1]
                have HV := Lib.hid hB0
                have HX1 := Lib.hid hx1
                have HB1c := Lib.hid hB1
                have HLE := Lib.hid hle0
                clear hb0 hx0 hv1 hx1 hB1 hle0 hB0
                go_loopw [12, 74, 75, 76, 77, 78, 79, 80, 81, 82, 83, 84, 85, 86, 87, 88, 89, 90, 91, 92, 93, 94, 95, 96, 97, 98, 99, 100, 101, 102] (fun i _ _ _ _ _ _ _ _ _ _ _ _ _ _ _ _ _ _ _ _ _ _ _ _ _ _ _ _ _ wr => ∃ (k2 : Nat) (d : Pr), k2 ≤ k ∧ i = .int .i64 k2 ∧ Hid (d = lastOf y.k zp (L.take k2)) ∧ Hid (wr.heap[b0]? = some (pairO d)) ∧ Hid (Below b0 v0 wr)) (fun i _ _ _ _ _ _ _ _ _ _ _ _ _ _ _ _ _ _ _ _ _ _ _ _ _ _ _ _ _ _ => k - (intOf i).toNat)
                case atStart => exact ⟨0, zp, by omega, rfl, Lib.hid rfl, HX1, HB1c⟩
                case round =>
                  obtain ⟨k2, d, hk2, rfl, hd, hbx, hBc⟩ := hrel
                  have hBw := HV.out.trans (hBc.out.mono HLE.out)
                  clear HX1 HB1c
                  by_cases hlt2 : k2 < k
                  · have hil : k2 < L.length := by rw [← HN.out]; exact hlt2
                    have hsn := lastOf_snoc y.k L[k2] (L.take k2) zp
                    rw [← snoc_split L k2 hil, ← hd.out] at hsn
                    have hx := HC.out.text _ (List.getElem_mem hil)
                    obtain ⟨bb, o, hA, p0, p1, p2⟩ := three_at HC.out.reads (HK.out _ hBw).2.2 hil
                    obtain ⟨a0, a1, a2⟩ := HAY.out _ hBw
                    have HP : Hid (∀ V, Below b0 v0 V → Three V bb (o + k2 * 3) L[k2] ∧ Three V ba (oa + j * 3) y) := Lib.hid fun V hV => by
                      have hV2 := HV.out.trans (hV.mono HLE.out)
                      obtain ⟨b3, o3, e3, f3⟩ := three_at HC.out.reads (HK.out _ hV2).2.2 hil
                      rw [hA] at e3; cases e3
                      exact ⟨f3, HAY.out _ hV2⟩
                    obtain ⟨x, hxe⟩ : ∃ x, x = L[k2] := ⟨_, rfl⟩
                    rw [← hxe] at p0 p1 p2 hx HP hsn
                    subst hA
                    clear hxe hil hBw hd
                    cases he : x.k.toList == y.k.toList
                    · have hsn2 : lastOf y.k zp (L.take (k2 + 1)) = d := by rw [hsn, he]; rfl
                      have HSN := Lib.hid hsn2.symm
                      clear hsn hsn2
                      go_wp2
                      go_quiet (fail)
                      go_wp2
                      exact ⟨⟨k2 + 1, d, by omega, by go_num, HSN, Lib.hid (by rw [Tf9.heap_drewN]; exact hbx.out), Lib.hid (below_dn hBc.out _)⟩, by simp [intOf]; omega⟩
                    · have HCK := Lib.hid (fun V => check_any V x hx.1 hx.2)
                      cases hm : may x
                      · have hsn2 : lastOf y.k zp (L.take (k2 + 1)) = d := by rw [hsn, he, hm]; rfl
                        have HSN := Lib.hid hsn2.symm
                        have HCK2 : Hid (∀ V, Calls Try.prog 11 #[.agg #[.string x.k, .string x.v, .bool x.g]] V fun e w' => e = .returned (.int .i64 2) ∧ Below V.heap.size V w') := Lib.hid fun V => by have h := HCK.out V; rw [hm] at h; exact h
                        clear hsn hsn2 HCK hm
                        go_wp2
                        go_region_held3 (fun V => V.cell? ⟨bb, o + k2 * 3, none⟩ = some (.string x.k) ∧ V.cell? ⟨bb, o + k2 * 3 + 1, none⟩ = some (.string x.v) ∧ V.cell? ⟨bb, o + k2 * 3 + 2, none⟩ = some (.bool x.g) ∧ V.cell? ⟨ba, oa + j * 3, none⟩ = some (.string y.k)) (go_keep) (first
                          | (go_at_call 11; (with_reducible refine (HCK2.out _).mono ?_); rintro e V2 ⟨rfl, hbv⟩
                             have hbv2 : Below b0 v0 V2 := hBc.out.drew.trans (Below.mono hbv (Nat.le_of_lt (lt_of_at hbx.out)))
                             obtain ⟨⟨p0, p1, p2⟩, ⟨a0, a1, a2⟩⟩ := HP.out _ hbv2
                             have HV2 := Lib.hid (And.intro hbv2 ((hbv.block b0 (lt_of_at hbx.out)).trans hbx.out))
                             clear hbv hbv2))
                        obtain ⟨⟨p0, p1, p2⟩, ⟨a0, a1, a2⟩⟩ := HP.out _ HV2.out.1
                        go_wp2
                        exact ⟨⟨k2 + 1, d, by omega, by go_num, HSN, Lib.hid HV2.out.2, Lib.hid HV2.out.1⟩, by simp [intOf]; omega⟩
                      · have hsn2 : lastOf y.k zp (L.take (k2 + 1)) = x := by rw [hsn, he, hm]; rfl
                        have HSN := Lib.hid hsn2.symm
                        have HCK2 : Hid (∀ V, Calls Try.prog 11 #[.agg #[.string x.k, .string x.v, .bool x.g]] V fun e w' => e = .returned (.int .i64 0) ∧ Below V.heap.size V w') := Lib.hid fun V => by have h := HCK.out V; rw [hm] at h; exact h
                        clear hsn hsn2 HCK hm
                        go_wp2
                        go_region_held3 (fun V => V.cell? ⟨bb, o + k2 * 3, none⟩ = some (.string x.k) ∧ V.cell? ⟨bb, o + k2 * 3 + 1, none⟩ = some (.string x.v) ∧ V.cell? ⟨bb, o + k2 * 3 + 2, none⟩ = some (.bool x.g) ∧ V.cell? ⟨ba, oa + j * 3, none⟩ = some (.string y.k)) (go_keep) (first
                          | (go_at_call 11; (with_reducible refine (HCK2.out _).mono ?_); rintro e V2 ⟨rfl, hbv⟩
                             have hbv2 : Below b0 v0 V2 := hBc.out.drew.trans (Below.mono hbv (Nat.le_of_lt (lt_of_at hbx.out)))
                             obtain ⟨⟨p0, p1, p2⟩, ⟨a0, a1, a2⟩⟩ := HP.out _ hbv2
                             have HV2 := Lib.hid (And.intro hbv2 ((hbv.block b0 (lt_of_at hbx.out)).trans hbx.out))
                             clear hbv hbv2))
                        obtain ⟨⟨p0, p1, p2⟩, ⟨a0, a1, a2⟩⟩ := HP.out _ HV2.out.1
                        have f0 := free_of HV2.out.2 0
                        have f1 := free_of HV2.out.2 1
                        have f2 := free_of HV2.out.2 2
                        have g0 := cell_of HV2.out.2 0
                        have g1 := cell_of HV2.out.2 1
                        have g2 := cell_of HV2.out.2 2
                        go_wp2
                        have h3 : ((((V2.setCell ⟨b0, 0, none⟩ (.string x.k)).setCell ⟨b0, 1, none⟩ (.string x.v)).setCell ⟨b0, 2, none⟩ (.bool x.g))).heap[b0]? = some (pairO x) := setCell_heap (setCell_heap (setCell_heap HV2.out.2 0 _) 1 _) 2 _
                        exact ⟨⟨k2 + 1, x, by omega, by go_num, HSN, Lib.hid h3, Lib.hid (((HV2.out.1.setCell (p := ⟨b0, 0, none⟩) (Nat.le_refl _) _).setCell (p := ⟨b0, 1, none⟩) (Nat.le_refl _) _).setCell (p := ⟨b0, 2, none⟩) (Nat.le_refl _) _)⟩, by simp [intOf]; omega⟩
                  · obtain rfl : k2 = k := by omega
                    have hdy : d = y := by rw [hd.out, HN.out, List.take_length]; exact hlast
                    subst hdy
                    obtain ⟨a0, a1, a2⟩ := HAY.out _ hBw
                    obtain ⟨g0, g1, g2⟩ := three_pair hbx.out
                    have HBw := Lib.hid hBw
                    have hne : ∀ w, (binOp .neq 33 (.agg #[.string d.k, .string d.v, .bool d.g]) (.agg #[.string d.k, .string d.v, .bool d.g])).run Try.prog w = .ok (.bool false) w := fun w => by rw [run_ne, eqP_iff.2 rfl]; rfl
                    clear hBw hd hlast
                    go_wp2
                    go_quiet (fail)
                    go_wp2
                    exact ⟨⟨j + 1, by omega, by go_num, Lib.hid (below_dn HBw.out _)⟩, by simp [intOf]; omega⟩
              · obtain ⟨y, hy⟩ : ∃ y, y = Q[j] := ⟨_, rfl⟩
                rw [← hy] at a0 a1 a2 HAY hlast
                have hgt : ¬ (j : Int) > 0 := by omega
                have hgd : decide ((j : Int) > 0) = false := decide_eq_false hgt
                subst hAa
                clear hy hra hbw hyQ hjl
                go_wp2
                go_quiet (fail)
                rename_i nq
                obtain ⟨v0, hv0⟩ : ∃ v, v = wr.drewN nq := ⟨_, rfl⟩
                have hB0 : Below w3.heap.size w3 v0 := by rw [hv0]; exact below_dn hB.out nq
                rw [← hv0]
                clear hv0 a0 a1 a2
                go_wp2
                obtain ⟨b0, hb0⟩ : ∃ b, b = v0.heap.size := ⟨_, rfl⟩
                have hx0 := heap_new v0 (pairO zp)
                rw [← hb0] at hx0 ⊢
                obtain ⟨v1, hv1⟩ : ∃ v, v = v0.alloc (.cells #[.string ⟨#[]⟩, .string ⟨#[]⟩, .bool false] 33) := ⟨_, rfl⟩
                have hx1 : v1.heap[b0]? = some (pairO zp) := by rw [hv1]; exact hx0
                have hB1 : Below b0 v0 v1 := by rw [hv1, hb0]; exact (Below.refl _ _).alloc (Nat.le_refl _) _
                have hle0 : w3.heap.size ≤ b0 := by rw [hb0]; exact hB0.size
                rw [← hv1]
                have HV := Lib.hid hB0
                have HX1 := Lib.hid hx1
                have HB1c := Lib.hid hB1
                have HLE := Lib.hid hle0
                clear hb0 hx0 hv1 hx1 hB1 hle0 hB0
                go_loopw [12, 74, 75, 76, 77, 78, 79, 80, 81, 82, 83, 84, 85, 86, 87, 88, 89, 90, 91, 92, 93, 94, 95, 96, 97, 98, 99, 100, 101, 102] (fun i _ _ _ _ _ _ _ _ _ _ _ _ _ _ _ _ _ _ _ _ _ _ _ _ _ _ _ _ _ wr => ∃ (k2 : Nat) (d : Pr), k2 ≤ k ∧ i = .int .i64 k2 ∧ Hid (d = lastOf y.k zp (L.take k2)) ∧ Hid (wr.heap[b0]? = some (pairO d)) ∧ Hid (Below b0 v0 wr)) (fun i _ _ _ _ _ _ _ _ _ _ _ _ _ _ _ _ _ _ _ _ _ _ _ _ _ _ _ _ _ _ => k - (intOf i).toNat)
                case atStart => exact ⟨0, zp, by omega, rfl, Lib.hid rfl, HX1, HB1c⟩
                case round =>
                  obtain ⟨k2, d, hk2, rfl, hd, hbx, hBc⟩ := hrel
                  have hBw := HV.out.trans (hBc.out.mono HLE.out)
                  clear HX1 HB1c
                  by_cases hlt2 : k2 < k
                  · have hil : k2 < L.length := by rw [← HN.out]; exact hlt2
                    have hsn := lastOf_snoc y.k L[k2] (L.take k2) zp
                    rw [← snoc_split L k2 hil, ← hd.out] at hsn
                    have hx := HC.out.text _ (List.getElem_mem hil)
                    obtain ⟨bb, o, hA, p0, p1, p2⟩ := three_at HC.out.reads (HK.out _ hBw).2.2 hil
                    obtain ⟨a0, a1, a2⟩ := HAY.out _ hBw
                    have HP : Hid (∀ V, Below b0 v0 V → Three V bb (o + k2 * 3) L[k2] ∧ Three V ba (oa + j * 3) y) := Lib.hid fun V hV => by
                      have hV2 := HV.out.trans (hV.mono HLE.out)
                      obtain ⟨b3, o3, e3, f3⟩ := three_at HC.out.reads (HK.out _ hV2).2.2 hil
                      rw [hA] at e3; cases e3
                      exact ⟨f3, HAY.out _ hV2⟩
                    obtain ⟨x, hxe⟩ : ∃ x, x = L[k2] := ⟨_, rfl⟩
                    rw [← hxe] at p0 p1 p2 hx HP hsn
                    subst hA
                    clear hxe hil hBw hd
                    cases he : x.k.toList == y.k.toList
                    · have hsn2 : lastOf y.k zp (L.take (k2 + 1)) = d := by rw [hsn, he]; rfl
                      have HSN := Lib.hid hsn2.symm
                      clear hsn hsn2
                      go_wp2
                      go_quiet (fail)
                      go_wp2
                      exact ⟨⟨k2 + 1, d, by omega, by go_num, HSN, Lib.hid (by rw [Tf9.heap_drewN]; exact hbx.out), Lib.hid (below_dn hBc.out _)⟩, by simp [intOf]; omega⟩
                    · have HCK := Lib.hid (fun V => check_any V x hx.1 hx.2)
                      cases hm : may x
                      · have hsn2 : lastOf y.k zp (L.take (k2 + 1)) = d := by rw [hsn, he, hm]; rfl
                        have HSN := Lib.hid hsn2.symm
                        have HCK2 : Hid (∀ V, Calls Try.prog 11 #[.agg #[.string x.k, .string x.v, .bool x.g]] V fun e w' => e = .returned (.int .i64 2) ∧ Below V.heap.size V w') := Lib.hid fun V => by have h := HCK.out V; rw [hm] at h; exact h
                        clear hsn hsn2 HCK hm
                        go_wp2
                        go_region_held3 (fun V => V.cell? ⟨bb, o + k2 * 3, none⟩ = some (.string x.k) ∧ V.cell? ⟨bb, o + k2 * 3 + 1, none⟩ = some (.string x.v) ∧ V.cell? ⟨bb, o + k2 * 3 + 2, none⟩ = some (.bool x.g) ∧ V.cell? ⟨ba, oa + j * 3, none⟩ = some (.string y.k)) (go_keep) (first
                          | (go_at_call 11; (with_reducible refine (HCK2.out _).mono ?_); rintro e V2 ⟨rfl, hbv⟩
                             have hbv2 : Below b0 v0 V2 := hBc.out.drew.trans (Below.mono hbv (Nat.le_of_lt (lt_of_at hbx.out)))
                             obtain ⟨⟨p0, p1, p2⟩, ⟨a0, a1, a2⟩⟩ := HP.out _ hbv2
                             have HV2 := Lib.hid (And.intro hbv2 ((hbv.block b0 (lt_of_at hbx.out)).trans hbx.out))
                             clear hbv hbv2))
                        obtain ⟨⟨p0, p1, p2⟩, ⟨a0, a1, a2⟩⟩ := HP.out _ HV2.out.1
                        go_wp2
                        exact ⟨⟨k2 + 1, d, by omega, by go_num, HSN, Lib.hid HV2.out.2, Lib.hid HV2.out.1⟩, by simp [intOf]; omega⟩
                      · have hsn2 : lastOf y.k zp (L.take (k2 + 1)) = x := by rw [hsn, he, hm]; rfl
                        have HSN := Lib.hid hsn2.symm
                        have HCK2 : Hid (∀ V, Calls Try.prog 11 #[.agg #[.string x.k, .string x.v, .bool x.g]] V fun e w' => e = .returned (.int .i64 0) ∧ Below V.heap.size V w') := Lib.hid fun V => by have h := HCK.out V; rw [hm] at h; exact h
                        clear hsn hsn2 HCK hm
                        go_wp2
                        go_region_held3 (fun V => V.cell? ⟨bb, o + k2 * 3, none⟩ = some (.string x.k) ∧ V.cell? ⟨bb, o + k2 * 3 + 1, none⟩ = some (.string x.v) ∧ V.cell? ⟨bb, o + k2 * 3 + 2, none⟩ = some (.bool x.g) ∧ V.cell? ⟨ba, oa + j * 3, none⟩ = some (.string y.k)) (go_keep) (first
                          | (go_at_call 11; (with_reducible refine (HCK2.out _).mono ?_); rintro e V2 ⟨rfl, hbv⟩
                             have hbv2 : Below b0 v0 V2 := hBc.out.drew.trans (Below.mono hbv (Nat.le_of_lt (lt_of_at hbx.out)))
                             obtain ⟨⟨p0, p1, p2⟩, ⟨a0, a1, a2⟩⟩ := HP.out _ hbv2
                             have HV2 := Lib.hid (And.intro hbv2 ((hbv.block b0 (lt_of_at hbx.out)).trans hbx.out))
                             clear hbv hbv2))
                        obtain ⟨⟨p0, p1, p2⟩, ⟨a0, a1, a2⟩⟩ := HP.out _ HV2.out.1
                        have f0 := free_of HV2.out.2 0
                        have f1 := free_of HV2.out.2 1
                        have f2 := free_of HV2.out.2 2
                        have g0 := cell_of HV2.out.2 0
                        have g1 := cell_of HV2.out.2 1
                        have g2 := cell_of HV2.out.2 2
                        go_wp2
                        have h3 : ((((V2.setCell ⟨b0, 0, none⟩ (.string x.k)).setCell ⟨b0, 1, none⟩ (.string x.v)).setCell ⟨b0, 2, none⟩ (.bool x.g))).heap[b0]? = some (pairO x) := setCell_heap (setCell_heap (setCell_heap HV2.out.2 0 _) 1 _) 2 _
                        exact ⟨⟨k2 + 1, x, by omega, by go_num, HSN, Lib.hid h3, Lib.hid (((HV2.out.1.setCell (p := ⟨b0, 0, none⟩) (Nat.le_refl _) _).setCell (p := ⟨b0, 1, none⟩) (Nat.le_refl _) _).setCell (p := ⟨b0, 2, none⟩) (Nat.le_refl _) _)⟩, by simp [intOf]; omega⟩
                  · obtain rfl : k2 = k := by omega
                    have hdy : d = y := by rw [hd.out, HN.out, List.take_length]; exact hlast
                    subst hdy
                    obtain ⟨a0, a1, a2⟩ := HAY.out _ hBw
                    obtain ⟨g0, g1, g2⟩ := three_pair hbx.out
                    have HBw := Lib.hid hBw
                    have hne : ∀ w, (binOp .neq 33 (.agg #[.string d.k, .string d.v, .bool d.g]) (.agg #[.string d.k, .string d.v, .bool d.g])).run Try.prog w = .ok (.bool false) w := fun w => by rw [run_ne, eqP_iff.2 rfl]; rfl
                    clear hBw hd hlast
                    go_wp2
                    go_quiet (fail)
                    go_wp2
                    exact ⟨⟨j + 1, by omega, by go_num, Lib.hid (below_dn HBw.out _)⟩, by simp [intOf]; omega⟩
            · obtain rfl : j = M := by omega
              clear hra hbw hlt
              go_wp2
              go_loopw [13, 14, 15, 109, 110, 111, 112, 113, 114, 115, 116, 117, 118, 119, 120, 121, 122, 123, 124, 125, 126, 127, 128, 129, 130, 131, 132, 133, 134] (fun i _ _ _ _ _ _ _ _ _ _ _ _ _ _ _ _ _ _ _ _ _ _ _ _ _ _ _ _ wr => ∃ (k2 : Nat), k2 ≤ k ∧ i = .int .i64 k2 ∧ Hid (Below w3.heap.size w3 wr)) (fun i _ _ _ _ _ _ _ _ _ _ _ _ _ _ _ _ _ _ _ _ _ _ _ _ _ _ _ _ _ => k - (intOf i).toNat)
              case atStart => exact ⟨0, by omega, rfl, hB⟩
              case round =>
                obtain ⟨k2, hk2, rfl, hBd⟩ := hrel
                clear hB
                by_cases hlt2 : k2 < k
                · have hil : k2 < L.length := by rw [← HN.out]; exact hlt2
                  have hx := HC.out.text _ (List.getElem_mem hil)
                  obtain ⟨bb, o, hA, p0, p1, p2⟩ := three_at HC.out.reads (HK.out _ hBd.out).2.2 hil
                  have HP : Hid (∀ V, Below w3.heap.size w3 V → Three V bb (o + k2 * 3) L[k2]) := Lib.hid fun V hV => by
                    obtain ⟨b3, o3, e3, f3⟩ := three_at HC.out.reads (HK.out _ hV).2.2 hil
                    rw [hA] at e3; cases e3
                    exact f3
                  have hthere : may L[k2] = true → (Pm9.get L[k2].k Q).isSome = true := fun h => by rw [HPL.out]; exact is_there h List.Pairwise.nil (List.getElem_mem hil)
                  obtain ⟨x, hxe⟩ : ∃ x, x = L[k2] := ⟨_, rfl⟩
                  rw [← hxe] at p0 p1 p2 hx HP hthere
                  subst hA
                  clear hxe hil
                  cases hm : may x
                  · have hG : ∃ G : Pr, ∃ B : Bool, ∀ V, Below w3.heap.size w3 V → Calls Try.prog 15 #[.pointer (some ⟨p, 0, none⟩), .string x.k] V fun e w' => e = .returned (.tuple #[.agg #[.string G.k, .string G.v, .bool G.g], .bool B]) ∧ Below V.heap.size V w' := by
                      refine ⟨(Pm9.get x.k Q).getD zp, (Pm9.get x.k Q).isSome, fun V hV => ?_⟩
                      have h := s_get (HK.out _ hV).1 x.k
                      unfold gotV at h
                      skip
                      exact h
                    obtain ⟨G, B, hG2⟩ := hG
                    have HG := Lib.hid (hG2 _ hBd.out)
                    have HCK : Hid (∀ V, Calls Try.prog 11 #[.agg #[.string x.k, .string x.v, .bool x.g]] V fun e w' => e = .returned (.int .i64 2) ∧ Below V.heap.size V w') := Lib.hid fun V => by have h := check_any V x hx.1 hx.2; rw [hm] at h; exact h
                    clear hG2 hm hthere
                    go_wp2_with fail
                    with_reducible refine HG.out.mono ?_
                    rintro e w5 ⟨rfl, hb5⟩
                    obtain ⟨w6, hw6⟩ : ∃ w6, w6 = w5.alloc (.cells #[.string G.k, .string G.v, .bool G.g] 33) := ⟨_, rfl⟩
                    have hb6 : Below w3.heap.size w3 w6 := by rw [hw6]; exact (hBd.out.trans (hb5.mono hBd.out.size)).alloc (by have := hBd.out.size; have := hb5.size; omega) _
                    obtain ⟨p0, p1, p2⟩ := HP.out _ hb6
                    rw [hw6] at p0 p1 p2
                    have HB6 := Lib.hid hb6
                    have HW6 := Lib.hid hw6
                    clear hb5 hb6 hw6 HG
                    go_wp2_with fail
                    with_reducible refine (HCK.out _).mono ?_
                    rintro e w7 ⟨rfl, hb7⟩
                    rw [← HW6.out] at hb7
                    have HB7 := Lib.hid (HB6.out.trans (hb7.mono HB6.out.size))
                    clear hb7
                    go_wp2
                    exact ⟨⟨k2 + 1, by omega, by go_num, HB7⟩, by simp [intOf]; omega⟩
                  · have hthere := hthere hm
                    have hG : ∃ G : Pr, ∀ V, Below w3.heap.size w3 V → Calls Try.prog 15 #[.pointer (some ⟨p, 0, none⟩), .string x.k] V fun e w' => e = .returned (.tuple #[.agg #[.string G.k, .string G.v, .bool G.g], .bool true]) ∧ Below V.heap.size V w' := by
                      refine ⟨(Pm9.get x.k Q).getD zp, fun V hV => ?_⟩
                      have h := s_get (HK.out _ hV).1 x.k
                      unfold gotV at h
                      rw [hthere] at h
                      exact h
                    obtain ⟨G, hG2⟩ := hG
                    have HG := Lib.hid (hG2 _ hBd.out)
                    have HCK : Hid (∀ V, Calls Try.prog 11 #[.agg #[.string x.k, .string x.v, .bool x.g]] V fun e w' => e = .returned (.int .i64 0) ∧ Below V.heap.size V w') := Lib.hid fun V => by have h := check_any V x hx.1 hx.2; rw [hm] at h; exact h
                    clear hG2 hm hthere
                    go_wp2_with fail
                    with_reducible refine HG.out.mono ?_
                    rintro e w5 ⟨rfl, hb5⟩
                    obtain ⟨w6, hw6⟩ : ∃ w6, w6 = w5.alloc (.cells #[.string G.k, .string G.v, .bool G.g] 33) := ⟨_, rfl⟩
                    have hb6 : Below w3.heap.size w3 w6 := by rw [hw6]; exact (hBd.out.trans (hb5.mono hBd.out.size)).alloc (by have := hBd.out.size; have := hb5.size; omega) _
                    obtain ⟨p0, p1, p2⟩ := HP.out _ hb6
                    rw [hw6] at p0 p1 p2
                    have HB6 := Lib.hid hb6
                    have HW6 := Lib.hid hw6
                    clear hb5 hb6 hw6 HG
                    go_wp2_with fail
                    with_reducible refine (HCK.out _).mono ?_
                    rintro e w7 ⟨rfl, hb7⟩
                    rw [← HW6.out] at hb7
                    have HB7 := Lib.hid (HB6.out.trans (hb7.mono HB6.out.size))
                    clear hb7
                    go_wp2
                    exact ⟨⟨k2 + 1, by omega, by go_num, HB7⟩, by simp [intOf]; omega⟩
                · obtain rfl : k2 = k := by omega
                  have hs0 := (HK.out _ hBd.out).1
                  obtain ⟨ve, hve⟩ : ∃ v, v = wr := ⟨_, rfl⟩
                  by_cases hz0 : cut.size = 0
                  · have e1 := empty_of hz0
                    clear hs0
                    have HBE := hBd
                    rw [← hve] at HBE
                    go_wp2
                    rw [← hve]
                    clear hve hBd hz0 e1
                    have hqn2 : Q.length ≤ 1099511627776 := by have := HMQ.out; omega
                    have hmo5 := Int.tmod_eq_emod_of_nonneg hmo.1 (b := 5)
                    go_loopw [16, 17, 18, 19, 155, 156, 157, 158, 159, 160, 161, 162, 163, 164, 165, 166, 167, 168, 169, 170, 171, 172, 173, 174, 175, 176, 177, 178, 179, 180, 181] (fun sm fr i _ _ _ _ _ _ _ _ _ _ _ _ _ _ _ _ _ _ _ _ _ _ _ _ _ _ _ _ wr => ∃ (r jj : Nat) (f : ByteArray), r ≤ k2 + 1 ∧ jj ≤ j ∧ (r ≤ jj ∨ jj = j) ∧ i = .int .i64 r ∧ fr = .string f ∧ Hid ((Q.filter fun q => !lt q.k f) = Q.drop jj) ∧ Hid (Row9 ve.heap.size (Q.take jj) sm wr) ∧ Hid (Below ve.heap.size ve wr)) (fun _ _ i _ _ _ _ _ _ _ _ _ _ _ _ _ _ _ _ _ _ _ _ _ _ _ _ _ _ _ _ _ => k2 + 1 - (intOf i).toNat)
                    case atStart => exact ⟨0, 0, ⟨#[]⟩, by omega, by omega, .inl (by omega), rfl, rfl, Lib.hid (List.filter_eq_self.2 fun q _ => by rw [lt_empty]; rfl), Lib.hid (row_nil _ _), Lib.hid (Below.refl _ _)⟩
                    case round =>
                      obtain ⟨r, jj, f, hr, hjj, hor, rfl, rfl, hf, hrow, hBe⟩ := hrel
                      have hBw := HBE.out.trans (hBe.out.mono HBE.out.size)
                      obtain ⟨T, hT⟩ : ∃ T, T = Q.take jj := ⟨_, rfl⟩
                      have hr0 := hrow.out
                      rw [← hT] at hr0
                      obtain ⟨A7, c7, rfl⟩ := hr0.shape
                      have HR0 := Lib.hid hr0
                      obtain ⟨tl, htl⟩ : ∃ n, n = T.length := ⟨_, rfl⟩
                      rw [← htl]
                      have htj0 : tl ≤ jj := by rw [htl, hT]; exact List.length_take_le _ _
                      clear hr0 hrow
                      by_cases hrk : r ≤ k2
                      · obtain ⟨Z, hZ, hZ4⟩ : ∃ Z : Nat, most.tmod 5 = (Z : Int) ∧ Z ≤ 4 := ⟨(most.tmod 5).toNat, by have := hmo.1; omega, by have := hmo.1; omega⟩
                        obtain ⟨D, hD⟩ : ∃ D, D = (Q.drop jj).take (1 + Z) := ⟨_, rfl⟩
                        have h1 := s_scan (HK.out _ hBw).1 hqn2 f ⟨#[]⟩ (1 + (Z : Int))
                        rw [scan_from, hf.out, show (1 + (Z : Int)).toNat = 1 + Z by omega, ← hD] at h1
                        have H1 := Lib.hid h1
                        have HD := Lib.hid hD
                        have HBw := Lib.hid hBw
                        have hdl : D.length ≤ j - jj := by rw [hD, List.length_take, List.length_drop, ← HMQ.out]; omega
                        have hdl2 : D.length = 0 → jj = j := fun h => by rw [hD, List.length_take, List.length_drop, ← HMQ.out] at h; omega
                        clear h1 hD hBw hmo5
                        go_wp2_with fail
                        with_reducible refine H1.out.mono ?_
                        rintro e v6 ⟨A6, c6, rfl, o6, hb6⟩
                        have HB6 := Lib.hid (HBw.out.trans (hb6.mono HBw.out.size))
                        by_cases hd : D.length = 0
                        · have hjj2 := hdl2 hd
                          have hTQ : T = Q := by rw [hT, hjj2, HMQ.out, List.take_length]
                          have htj : tl = j := by rw [htl, hTQ, HMQ.out]
                          have HR := HR0.out
                          rw [hTQ] at HR
                          have hsm := same_any _ A7 Aa c7 ca Q Q (reads_of_own (HR.keep hb6)) (HK.out _ HB6.out).2.1 (by have := HMQ.out; omega)
                          rw [same_iff.2 rfl, ← HMQ.out] at hsm
                          rw [htj]
                          have HSM := Lib.hid hsm
                          clear hsm HR hTQ htj htl hT
                          go_wp2_with fail
                          with_reducible refine HSM.out.mono ?_
                          rintro e v8 ⟨rfl, hb8⟩
                          have HB8 := Lib.hid (HB6.out.trans (hb8.mono HB6.out.size))
                          clear hb8
                          go_wp2_with fail
                          refine (alive_any _).mono ?_
                          rintro e v9 ⟨rfl, hb9⟩
                          have hb := (HK.out _ (HB8.out.trans (hb9.mono HB8.out.size))).2.2
                          clear hb9
                          go_wp2
                          go_ret
                          exact ⟨rfl, hb⟩
                        · obtain ⟨J, hJ⟩ : ∃ J, D.length = J + 1 := ⟨D.length - 1, by omega⟩
                          have hJD : J < D.length := by omega
                          obtain ⟨A9, c9, v9, hrun, o9, hb9, hre⟩ := run_rows 22 (HR0.out.keep hb6) (show Row9 wr.heap.size D (.slice A6 D.length c6) v6 from o6) (by rw [← htl]; omega) (by have := hb6.size; have := hBe.out.size; omega) (own_block_lt HR0.out)
                          obtain ⟨bb, o, hA, p0, p1, p2⟩ := hre.at_ hJD
                          obtain ⟨y, hy⟩ : ∃ y, y = D[J] := ⟨_, rfl⟩
                          rw [← hy] at p0 p1 p2
                          subst hA
                          rw [← htl, hJ] at hrun
                          rw [hJ]
                          have HRUN := Lib.hid hrun
                          have O9 := Lib.hid (show Row9 ve.heap.size (Q.take (jj + D.length)) (.slice A9 (tl + (J + 1)) c9) v9 by rw [← htl, hJ, hT, part_on HD.out] at o9; exact o9)
                          have HB9 := Lib.hid (hBe.out.trans ((hb6.mono hBe.out.size).trans (hb9)))
                          have HY := Lib.hid hy
                          have hmem : y ∈ D := hy ▸ List.getElem_mem hJD
                          rw [HD.out] at hmem
                          have HYS := Lib.hid (HC.out.text y (HU3.out y (List.mem_of_mem_drop (List.mem_of_mem_take hmem)))).1
                          clear hmem
                          clear hrun o9 hb9 hre hb6 o6 H1 hy hT htl
                          go_wp2_with (first | (at_builtin; refine step_rows (by rfl) _ _ 22 rfl _ _ _ _ rfl rfl HRUN.out ?_) | fail)
                          · have := HYS.out; omega
                          exact ⟨⟨r + 1, jj + D.length, y.k ++ ⟨#[0]⟩, by omega, by omega, by omega, by go_num, rfl, Lib.hid (part_next HU4.out HD.out hJ hJD (by rw [← HY.out]; exact text_zero _)), O9, HB9⟩, by simp [intOf]; omega⟩
                      · have hjj2 : jj = j := by omega
                        have HBw := Lib.hid hBw
                        clear hBw hmo5
                        have hTQ : T = Q := by rw [hT, hjj2, HMQ.out, List.take_length]
                        have htj : tl = j := by rw [htl, hTQ, HMQ.out]
                        have HR := HR0.out
                        rw [hTQ] at HR
                        have hsm := same_any _ A7 Aa c7 ca Q Q (reads_of_own (HR)) (HK.out _ HBw.out).2.1 (by have := HMQ.out; omega)
                        rw [same_iff.2 rfl, ← HMQ.out] at hsm
                        rw [htj]
                        have HSM := Lib.hid hsm
                        clear hsm HR hTQ htj htl hT
                        go_wp2_with fail
                        with_reducible refine HSM.out.mono ?_
                        rintro e v8 ⟨rfl, hb8⟩
                        have HB8 := Lib.hid (HBw.out.trans (hb8.mono HBw.out.size))
                        clear hb8
                        go_wp2_with fail
                        refine (alive_any _).mono ?_
                        rintro e v9 ⟨rfl, hb9⟩
                        have hb := (HK.out _ (HB8.out.trans (hb9.mono HB8.out.size))).2.2
                        clear hb9
                        go_wp2
                        go_ret
                        exact ⟨rfl, hb⟩
                  · have e1 := not_empty_of hz0
                    obtain ⟨L1, hL1⟩ : ∃ l, l = scan ⟨#[]⟩ cut ((k2 : Int) + 1) Q := ⟨_, rfl⟩
                    obtain ⟨L2, hL2⟩ : ∃ l, l = scan cut ⟨#[]⟩ ((k2 : Int) + 1) Q := ⟨_, rfl⟩
                    have hcut : L1 ++ L2 = Q := by rw [hL1, hL2]; exact scan_cut HU4.out hz0 (by have := HMQ.out; omega)
                    have hlc : L1.length + L2.length ≤ 1000000 := by rw [← List.length_append, hcut]; have := HMQ.out; omega
                    have hqn : Q.length ≤ 1099511627776 := by have := HMQ.out; omega
                    have h1 := s_scan hs0 hqn ⟨#[]⟩ cut ((k2 : Int) + 1)
                    rw [← hL1] at h1
                    have H1 := Lib.hid h1
                    have HL2 := Lib.hid hL2
                    have HCUT := Lib.hid hcut
                    clear h1 hL1 hL2 hcut hs0 hve
                    go_wp2_with fail
                    with_reducible refine H1.out.mono ?_
                    rintro e v1 ⟨A1, c1, rfl, o1, hb1⟩
                    have hB1 : Below w3.heap.size w3 v1 := hBd.out.trans (hb1.mono hBd.out.size)
                    have h2 := s_scan (HK.out _ hB1).1 hqn cut ⟨#[]⟩ ((k2 : Int) + 1)
                    rw [← HL2.out] at h2
                    have H2 := Lib.hid h2
                    have O1 := Lib.hid (show Row9 wr.heap.size L1 (.slice A1 L1.length c1) v1 from o1)
                    have HB1v := Lib.hid hB1
                    have hsz1 := hb1.size
                    clear h2 o1 hb1 hB1 H1
                    go_wp2_with fail
                    with_reducible refine H2.out.mono ?_
                    rintro e v2 ⟨A2, c2, rfl, o2, hb2⟩
                    obtain ⟨A4, c4, v4, hrun, o4, hb4, _⟩ := run_rows 22 (O1.out.keep hb2) (show Row9 v1.heap.size L2 (.slice A2 L2.length c2) v2 from o2) hlc (by have := hb2.size; omega) (own_block_lt O1.out)
                    have hB2 : Below w3.heap.size w3 v2 := HB1v.out.trans (hb2.mono HB1v.out.size)
                    have hB4 : Below w3.heap.size w3 v4 := hB2.trans (hb4.mono hBd.out.size)
                    have hsm := same_any v4 A4 Aa c4 ca Q Q (by have h := o4; rw [HCUT.out] at h; exact reads_of_own (by have e := congrArg List.length HCUT.out; rw [List.length_append] at e; rw [e] at h; exact h)) (HK.out _ hB4).2.1 (by have := HMQ.out; omega)
                    rw [same_iff.2 rfl, ← HMQ.out] at hsm
                    have hlen : L1.length + L2.length = j := by rw [HMQ.out, ← HCUT.out, List.length_append]
                    rw [hlen] at hrun
                    have HSM := Lib.hid hsm
                    have HRUN := Lib.hid hrun
                    have HB4 := Lib.hid hB4
                    clear hsm hrun o4 hb4 o2 hb2 hB2 hB4 H2 hlc
                    go_wp2_with (first
                      | (at_builtin; refine step_rows (by rfl) _ _ 22 rfl _ _ _ _ rfl rfl HRUN.out ?_)
                      | (go_at_call 17; (with_reducible refine HSM.out.mono ?_); rintro e v5 ⟨rfl, hb5⟩; have HB5 := Lib.hid (HB4.out.trans (hb5.mono HB4.out.size)); clear hb5))
                    obtain ⟨ve, hve⟩ : ∃ v, v = v5 := ⟨_, rfl⟩
                    have HBE := HB5
                    rw [← hve] at HBE ⊢
                    clear hve hz0 e1
                    have hqn2 : Q.length ≤ 1099511627776 := by have := HMQ.out; omega
                    have hmo5 := Int.tmod_eq_emod_of_nonneg hmo.1 (b := 5)
                    go_loopw [16, 17, 18, 19, 155, 156, 157, 158, 159, 160, 161, 162, 163, 164, 165, 166, 167, 168, 169, 170, 171, 172, 173, 174, 175, 176, 177, 178, 179, 180, 181] (fun sm fr i _ _ _ _ _ _ _ _ _ _ _ _ _ _ _ _ _ _ _ _ _ _ _ _ _ _ _ _ wr => ∃ (r jj : Nat) (f : ByteArray), r ≤ k2 + 1 ∧ jj ≤ j ∧ (r ≤ jj ∨ jj = j) ∧ i = .int .i64 r ∧ fr = .string f ∧ Hid ((Q.filter fun q => !lt q.k f) = Q.drop jj) ∧ Hid (Row9 ve.heap.size (Q.take jj) sm wr) ∧ Hid (Below ve.heap.size ve wr)) (fun _ _ i _ _ _ _ _ _ _ _ _ _ _ _ _ _ _ _ _ _ _ _ _ _ _ _ _ _ _ _ _ => k2 + 1 - (intOf i).toNat)
                    case atStart => exact ⟨0, 0, ⟨#[]⟩, by omega, by omega, .inl (by omega), rfl, rfl, Lib.hid (List.filter_eq_self.2 fun q _ => by rw [lt_empty]; rfl), Lib.hid (row_nil _ _), Lib.hid (Below.refl _ _)⟩
                    case round =>
                      obtain ⟨r, jj, f, hr, hjj, hor, rfl, rfl, hf, hrow, hBe⟩ := hrel
                      have hBw := HBE.out.trans (hBe.out.mono HBE.out.size)
                      obtain ⟨T, hT⟩ : ∃ T, T = Q.take jj := ⟨_, rfl⟩
                      have hr0 := hrow.out
                      rw [← hT] at hr0
                      obtain ⟨A7, c7, rfl⟩ := hr0.shape
                      have HR0 := Lib.hid hr0
                      obtain ⟨tl, htl⟩ : ∃ n, n = T.length := ⟨_, rfl⟩
                      rw [← htl]
                      have htj0 : tl ≤ jj := by rw [htl, hT]; exact List.length_take_le _ _
                      clear hr0 hrow
                      by_cases hrk : r ≤ k2
                      · obtain ⟨Z, hZ, hZ4⟩ : ∃ Z : Nat, most.tmod 5 = (Z : Int) ∧ Z ≤ 4 := ⟨(most.tmod 5).toNat, by have := hmo.1; omega, by have := hmo.1; omega⟩
                        obtain ⟨D, hD⟩ : ∃ D, D = (Q.drop jj).take (1 + Z) := ⟨_, rfl⟩
                        have h1 := s_scan (HK.out _ hBw).1 hqn2 f ⟨#[]⟩ (1 + (Z : Int))
                        rw [scan_from, hf.out, show (1 + (Z : Int)).toNat = 1 + Z by omega, ← hD] at h1
                        have H1 := Lib.hid h1
                        have HD := Lib.hid hD
                        have HBw := Lib.hid hBw
                        have hdl : D.length ≤ j - jj := by rw [hD, List.length_take, List.length_drop, ← HMQ.out]; omega
                        have hdl2 : D.length = 0 → jj = j := fun h => by rw [hD, List.length_take, List.length_drop, ← HMQ.out] at h; omega
                        clear h1 hD hBw hmo5
                        go_wp2_with fail
                        with_reducible refine H1.out.mono ?_
                        rintro e v6 ⟨A6, c6, rfl, o6, hb6⟩
                        have HB6 := Lib.hid (HBw.out.trans (hb6.mono HBw.out.size))
                        by_cases hd : D.length = 0
                        · have hjj2 := hdl2 hd
                          have hTQ : T = Q := by rw [hT, hjj2, HMQ.out, List.take_length]
                          have htj : tl = j := by rw [htl, hTQ, HMQ.out]
                          have HR := HR0.out
                          rw [hTQ] at HR
                          have hsm := same_any _ A7 Aa c7 ca Q Q (reads_of_own (HR.keep hb6)) (HK.out _ HB6.out).2.1 (by have := HMQ.out; omega)
                          rw [same_iff.2 rfl, ← HMQ.out] at hsm
                          rw [htj]
                          have HSM := Lib.hid hsm
                          clear hsm HR hTQ htj htl hT
                          go_wp2_with fail
                          with_reducible refine HSM.out.mono ?_
                          rintro e v8 ⟨rfl, hb8⟩
                          have HB8 := Lib.hid (HB6.out.trans (hb8.mono HB6.out.size))
                          clear hb8
                          go_wp2_with fail
                          refine (alive_any _).mono ?_
                          rintro e v9 ⟨rfl, hb9⟩
                          have hb := (HK.out _ (HB8.out.trans (hb9.mono HB8.out.size))).2.2
                          clear hb9
                          go_wp2
                          go_ret
                          exact ⟨rfl, hb⟩
                        · obtain ⟨J, hJ⟩ : ∃ J, D.length = J + 1 := ⟨D.length - 1, by omega⟩
                          have hJD : J < D.length := by omega
                          obtain ⟨A9, c9, v9, hrun, o9, hb9, hre⟩ := run_rows 22 (HR0.out.keep hb6) (show Row9 wr.heap.size D (.slice A6 D.length c6) v6 from o6) (by rw [← htl]; omega) (by have := hb6.size; have := hBe.out.size; omega) (own_block_lt HR0.out)
                          obtain ⟨bb, o, hA, p0, p1, p2⟩ := hre.at_ hJD
                          obtain ⟨y, hy⟩ : ∃ y, y = D[J] := ⟨_, rfl⟩
                          rw [← hy] at p0 p1 p2
                          subst hA
                          rw [← htl, hJ] at hrun
                          rw [hJ]
                          have HRUN := Lib.hid hrun
                          have O9 := Lib.hid (show Row9 ve.heap.size (Q.take (jj + D.length)) (.slice A9 (tl + (J + 1)) c9) v9 by rw [← htl, hJ, hT, part_on HD.out] at o9; exact o9)
                          have HB9 := Lib.hid (hBe.out.trans ((hb6.mono hBe.out.size).trans (hb9)))
                          have HY := Lib.hid hy
                          have hmem : y ∈ D := hy ▸ List.getElem_mem hJD
                          rw [HD.out] at hmem
                          have HYS := Lib.hid (HC.out.text y (HU3.out y (List.mem_of_mem_drop (List.mem_of_mem_take hmem)))).1
                          clear hmem
                          clear hrun o9 hb9 hre hb6 o6 H1 hy hT htl
                          go_wp2_with (first | (at_builtin; refine step_rows (by rfl) _ _ 22 rfl _ _ _ _ rfl rfl HRUN.out ?_) | fail)
                          · have := HYS.out; omega
                          exact ⟨⟨r + 1, jj + D.length, y.k ++ ⟨#[0]⟩, by omega, by omega, by omega, by go_num, rfl, Lib.hid (part_next HU4.out HD.out hJ hJD (by rw [← HY.out]; exact text_zero _)), O9, HB9⟩, by simp [intOf]; omega⟩
                      · have hjj2 : jj = j := by omega
                        have HBw := Lib.hid hBw
                        clear hBw hmo5
                        have hTQ : T = Q := by rw [hT, hjj2, HMQ.out, List.take_length]
                        have htj : tl = j := by rw [htl, hTQ, HMQ.out]
                        have HR := HR0.out
                        rw [hTQ] at HR
                        have hsm := same_any _ A7 Aa c7 ca Q Q (reads_of_own (HR)) (HK.out _ HBw.out).2.1 (by have := HMQ.out; omega)
                        rw [same_iff.2 rfl, ← HMQ.out] at hsm
                        rw [htj]
                        have HSM := Lib.hid hsm
                        clear hsm HR hTQ htj htl hT
                        go_wp2_with fail
                        with_reducible refine HSM.out.mono ?_
                        rintro e v8 ⟨rfl, hb8⟩
                        have HB8 := Lib.hid (HBw.out.trans (hb8.mono HBw.out.size))
                        clear hb8
                        go_wp2_with fail
                        refine (alive_any _).mono ?_
                        rintro e v9 ⟨rfl, hb9⟩
                        have hb := (HK.out _ (HB8.out.trans (hb9.mono HB8.out.size))).2.2
                        clear hb9
                        go_wp2
                        go_ret
                        exact ⟨rfl, hb⟩
  · clear hr HL hb1
    go_wp2_with fail
    refine (alive_any _).mono ?_
    rintro e w2 ⟨rfl, hb2⟩
    go_wp2
    go_ret
    exact ⟨rfl, HB1.out.trans (hb2.mono HB1.out.size)⟩
end Go.Proofs.Ytkbjmbllnnghlaa.Ql9
