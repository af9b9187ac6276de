/- RunSpoilt's walk. -/
import Derived.Test.YtmnaamjoikfpbaaAv10
import Derived.Test.YtmnaamjoikfpbaaOp9
namespace Go.Proofs.Ytmnaamjoikfpbaa.Sw10
open Go Go.RowKit Go.Proofs.Ytmnaamjoikfpbaa.Dh Go.Proofs.Ytmnaamjoikfpbaa.Nm Go.Proofs.Ytmnaamjoikfpbaa.St Go.Proofs.Ytmnaamjoikfpbaa.Fl7 Go.Proofs.Ytmnaamjoikfpbaa.Pm9 Go.Proofs.Ytmnaamjoikfpbaa.Mt9 Go.Proofs.Ytmnaamjoikfpbaa.Mg9 Go.Proofs.Ytmnaamjoikfpbaa.Rd9 Go.Proofs.Ytmnaamjoikfpbaa.Fd10 Go.Proofs.Ytmnaamjoikfpbaa.So10 Go.Proofs.Ytmnaamjoikfpbaa.Sz10 Go.Proofs.Ytmnaamjoikfpbaa.On10 Go.Proofs.Ytmnaamjoikfpbaa.Re10 Go.Proofs.Ytmnaamjoikfpbaa.Ge10 Go.Proofs.Ytmnaamjoikfpbaa.Sn10 Go.Proofs.Ytmnaamjoikfpbaa.Fl10 Go.Proofs.Ytmnaamjoikfpbaa.Ly10 Go.Proofs.Ytmnaamjoikfpbaa.Av10 Go.Proofs.Ytmnaamjoikfpbaa.Op9
def nmR : ByteArray := ⟨#[114]⟩
/-- What a run of these pairs has. -/
structure Small (m : List Pr) : Prop where
  sorted : Sorted m
  may : ∀ x ∈ m, may x = true
  len : m.length ≤ 200
  bytes : (rb m).length ≤ 40000
theorem small_of {L : List Pr} (h1 : L.length ≤ 200) (h2 : Pm9.size L ≤ 32768) : Small (Fd10.sorted L) := by
  obtain ⟨s1, s2, s3, s4⟩ := sorted_ok L
  exact ⟨s1, s2, by omega, by rw [rb_len]; omega⟩
theorem allFine_bads (Bt : List UInt8) (L : List Pr) : ∀ m, allFine Bt L 0 m = decide (bads Bt L m = 0) := by
  intro m
  have h : ∀ (m s : Nat), allFine Bt L s m = true ↔ ∀ i, s ≤ i → i < s + m → fine Bt L i = true := by
    intro m
    induction m with
    | zero => intro s; exact ⟨fun _ i h1 h2 => by omega, fun _ => rfl⟩
    | succ m ih =>
      intro s
      rw [allFine, Bool.and_eq_true, ih]
      constructor
      · rintro ⟨h1, h2⟩ i h3 h4
        by_cases e : i = s
        · rw [e]; exact h1
        · exact h2 i (by omega) (by omega)
      · intro h1
        exact ⟨h1 s (by omega) (by omega), fun i h3 h4 => h1 i (by omega) (by omega)⟩
  have h2 := h m 0
  have h3 := bads_zero (B := Bt) (L := L) m
  cases hb : allFine Bt L 0 m
  · symm
    refine decide_eq_false fun e => ?_
    rw [h2.2 (fun i _ hi => h3.1 e i (by omega))] at hb
    cases hb
  · symm
    exact decide_eq_true (h3.2 fun i hi => h2.1 hb i (by omega) (by omega))
theorem start_all (L : List Pr) : Fd10.start ⟨#[]⟩ ⟨#[]⟩ L = 0 := by
  unfold Fd10.start
  have : posn ⟨#[]⟩ L = 0 := by
    cases L with
    | nil => rfl
    | cons x L =>
      unfold posn
      have e : lt x.k ⟨#[]⟩ = false := by
        unfold lt
        have : ByteArray.toList ⟨#[]⟩ = [] := by rw [ByteArray.toList_eq]
        rw [this]
        cases x.k.toList <;> rfl
      rw [e]; rfl
  rw [this, Nat.zero_min]
theorem many_all (L : List Pr) : many ((L.length : Int) + 1) ⟨#[]⟩ ⟨#[]⟩ L = L.length := by
  unfold many
  rw [start_all]
  have : Fd10.stop ⟨#[]⟩ L = L.length := rfl
  rw [this]; omega
/-- What the whole scan tells. -/
theorem scanned_all (Bt : List UInt8) (L : List Pr) : scanned Bt L (Fd10.start ⟨#[]⟩ ⟨#[]⟩ L) (many ((L.length : Int) + 1) ⟨#[]⟩ ⟨#[]⟩ L) = if bads Bt L L.length = 0 then (L, 0) else ([], 71) := by
  unfold scanned
  rw [start_all, many_all, allFine_bads, List.drop_zero, List.take_length]
  by_cases h : bads Bt L L.length = 0
  · rw [if_pos h, decide_eq_true h, if_pos rfl]
  · rw [if_neg h, decide_eq_false h]; rfl
theorem fits_of {L : List Pr} (h : ∀ x ∈ L, may x = true) : ∀ x ∈ L, x.k.size ≤ 140737488351232 ∧ x.v.size ≤ 140737488351232 := fun x hx => by have := may_bound (h x hx); omega
/-- Where a byte of the file is another one the frames don't tell it. -/
theorem scan_set {m : List Pr} (h : Small m) (o : Nat) (c : UInt8) (ho : o < (rb m).length) (hc : c ≠ (rb m)[o]) : ∃ T n, scan ((rb m).set o c) = (T, n, 71) := by
  have hs : ∀ s ∈ texts m, s.length ≤ 4194304 := fun s hs => by
    rcases List.mem_cons.1 hs with hs | hs
    · rw [hs, Wm.putN_length]; decide
    · obtain ⟨x, hx, rfl⟩ := List.mem_map.1 hs
      rw [tx_len]
      have := may_bound (h.may x hx); omega
  exact ⟨_, _, scan_other (texts m) o c ho hs hc⟩
set_option maxRecDepth 40000 in
set_option maxHeartbeats 8000000 in
theorem walk_of (w : World) (A : Option Addr) (c : Nat) (L : List Pr) (hL : PairsAt w A L) (ai bi : Int) (a b : Nat) (ha : Hid (ai = (a : Int))) (hb : Hid (bi = (b : Int))) (ha2 : a < 65536) (hb2 : b < 256) :
    Calls Try.prog 4 #[.slice A L.length c, .int .u16 ai, .int .u8 bi] w fun e w' => e = .returned (.bool true) ∧ Below w.heap.size w w' := by
  have HLg := Lib.hid (La9.large_any w A c L hL.reads hL.len hL.text)
  have HP := Lib.hid hL
  obtain ⟨N0, hN0⟩ : ∃ N0, N0 = L.length := ⟨_, rfl⟩
  have HN0 := Lib.hid hN0
  rw [← hN0] at HLg ⊢
  clear hL hN0
  go_enter Try.func4, Try.ntmps4
  go_wp2_with fail
  refine HLg.out.mono ?_
  rintro e w1 ⟨r, rfl, hr, hb1⟩
  have HB1 := Lib.hid hb1
  cases r
  · obtain ⟨hr1, hr2⟩ := hr rfl
    have hsm := small_of (L := L) (by rw [← HN0.out]; exact hr1) hr2
    obtain ⟨m, hm⟩ : ∃ m, m = Fd10.sorted L := ⟨_, rfl⟩
    have hso := Sd10.sorted_any w1 A c L (HP.out.reads.keep (Nat.le_refl _) hb1) (by rw [← HN0.out]; omega) HP.out.text
    rw [← hm] at hso hsm
    rw [← HN0.out] at hso
    have HSO := Lib.hid hso
    have HSM := Lib.hid hsm
    clear hr hr1 hr2 hsm hm hso hb1 HLg HP
    go_wp2_with fail
    refine HSO.out.mono ?_
    rintro e w2 ⟨⟨A2, c2, rfl, hrd⟩, hb2'⟩
    have HN := Lib.hid (Nw.new_any w2 262144 (by decide) (by decide))
    have HR2 := Lib.hid hrd
    have HB2 := Lib.hid (HB1.out.trans (hb2'.mono HB1.out.size))
    obtain ⟨N, hN⟩ : ∃ N, N = m.length := ⟨_, rfl⟩
    have HNm := Lib.hid hN
    rw [← hN]
    clear hrd hb2' hN HSO
    go_wp2_with fail
    refine HN.out.mono ?_
    rintro e w3 ⟨p, rfl, hb3, hF3⟩
    have hrd3 := HR2.out.keep (Nat.le_refl _) hb3
    have hwr := write_D0 (n := 262144) hF3 nmR (by unfold maxLen; decide) nm_r A2 c2 m hrd3 (by have := HSM.out.len; omega) HSM.out.sorted HSM.out.may (by have := HSM.out.bytes; omega)
    rw [← HNm.out] at hwr
    have HWR : Hid (Calls Try.prog 10 #[.pointer (some ⟨p, 0, none⟩), .string ⟨#[114]⟩, .slice A2 N c2] w3 fun e w' => e = .returned (.int .i64 0) ∧ To (fun b => w2.heap.size ≤ b ∧ b < w3.heap.size) w3 w' p (D1 262144 nmR (rb m))) := Lib.hid hwr
    have HB3 := Lib.hid hb3
    clear hb3 hF3 hrd3 hwr HN
    go_wp2_with fail
    refine HWR.out.mono ?_
    rintro e w4 ⟨rfl, ht4⟩
    have hB4 : Below w2.heap.size w2 w4 := Ly10.to_below ht4 HB3.out fun b hb => hb.1
    have hS4 : ∀ b, grow (fun b => w2.heap.size ≤ b ∧ b < w3.heap.size) w3 w4 b → w2.heap.size ≤ b ∧ b < w4.heap.size := by
      rintro b (hb | hb)
      · have := ht4.1.size; omega
      · have := HB3.out.size; omega
    have hrdD := read_D1 262144 nmR (rb m) nm_r (by have := HSM.out.bytes; omega)
    have hop := open_ok ht4.2 nmR (by unfold maxLen; decide) m hrdD (by have := HSM.out.len; omega) (by have := HSM.out.bytes; omega) HSM.out.sorted HSM.out.may
    have HOP : Hid (Calls Try.prog 12 #[.pointer (some ⟨p, 0, none⟩), .string ⟨#[114]⟩] w4 fun e w' => (∃ q A c, e = .returned (.tuple #[.pointer (some ⟨q, 0, none⟩), .int .i64 0]) ∧ RunAt w' w4.heap.size q p nmR m A c) ∧ Below w4.heap.size w4 w') := Lib.hid hop
    have HF4 := Lib.hid ht4.2
    have HS4 := Lib.hid hS4
    have HB4 := Lib.hid hB4
    clear ht4 hB4 hS4 hrdD hop HWR
    go_wp2_with fail
    refine HOP.out.mono ?_
    rintro e w5 ⟨⟨q, Ar, cr, rfl, hrun5⟩, hb5⟩
    have hF5 := full_below HF4.out hb5
    have hU := Sy.used_any hF5
    obtain ⟨Z, hZ⟩ : ∃ Z, Z = (rb m).length := ⟨_, rfl⟩
    have hu : Fm.used (D1 262144 nmR (rb m)).now = Z := by rw [hZ]; simp [D1, Fm.used]
    rw [hu] at hU
    have hZ1 : 20 ≤ Z := by rw [hZ, rb_len]; omega
    have hZ2 : Z ≤ 40000 := by rw [hZ]; exact HSM.out.bytes
    obtain ⟨o, ho⟩ : ∃ o, o = a % Z := ⟨_, rfl⟩
    obtain ⟨bt, hbt⟩ : ∃ bt, bt = b % 8 := ⟨_, rfl⟩
    have hoZ : o < (rb m).length := by rw [ho, ← hZ]; exact Nat.mod_lt _ (by omega)
    have hb8 : bt < 8 := by omega
    have hfl := Fp10.flip_any hF5 nmR (by unfold maxLen; decide) (rb m) rfl nm_r (by simp [D1, Fm.get]) rfl o bt hoZ hb8
    rw [flip_D1] at hfl
    obtain ⟨c8, hc8⟩ : ∃ c8, c8 = turned ((rb m)[o]) bt := ⟨_, rfl⟩
    have hne8 : c8 ≠ (rb m)[o] := by rw [hc8]; exact turned_ne _ _ hb8
    rw [← hc8] at hfl
    have hm1 : ai.tmod (Z : Int) = (o : Int) := by rw [ha.out, Int.tmod_eq_emod_of_nonneg (by omega), ho]; omega
    have hm2 : bi.tmod 8 = (bt : Int) := by rw [hb.out, Int.tmod_eq_emod_of_nonneg (by omega), hbt]; omega
    have hi1 : IntKind.i64.wrap ai = ai := by rw [ha.out, IntKind.wrap_i64]; omega
    have hi2 : IntKind.i64.wrap (bt : Int) = (bt : Int) := by rw [IntKind.wrap_i64]; omega
    have HU := Lib.hid hU
    have HFL : Hid (Calls Try.prog 21 #[.pointer (some ⟨p, 0, none⟩), .string ⟨#[114]⟩, .int .i64 (o : Int), .int .i64 (bt : Int)] w5 fun e w' => e = .returned (.int .i64 0) ∧ To (grow (fun b => w2.heap.size ≤ b ∧ b < w3.heap.size) w3 w4) w5 w' p (D1 262144 nmR ((rb m).set o c8))) := Lib.hid hfl
    have HR5 := Lib.hid hrun5
    have HB5 := Lib.hid (HB4.out.trans (hb5.mono HB4.out.size))
    have HN8 := Lib.hid (show o < (rb m).length ∧ ∀ h, c8 ≠ (rb m)[o]'(h) from ⟨hoZ, fun _ => hne8⟩)
    have z1 : ¬ (Z : Int) < 1 := by omega
    have z2 : ¬ (Z : Int) = 0 := by omega
    have HF5s := Lib.hid hb5.size
    clear hrun5 hb5 hF5 hU hu hZ ho hbt hoZ hfl hc8 hne8 hb8 HOP
    go_wp2_with (first
      | (go_at_call 15; refine HU.out.mono ?_; rintro e wU ⟨rfl, hwU⟩; rw [hwU]; clear hwU wU)
      | (go_at_call 21; refine HFL.out.mono ?_; rintro e w6 ⟨rfl, ht6⟩; have HT6 := Lib.hid ht6; clear ht6))
    obtain ⟨Bt, hBt⟩ : ∃ Bt, Bt = (rb m).set o c8 := ⟨_, rfl⟩
    have hbads : bads Bt m m.length ≤ 1 := by
      have := bads_one (L := m) HN8.out.1 (HN8.out.2 _) m.length (Nat.le_refl _)
      rw [hBt]
      split at this <;> omega
    have hscn : ∃ T n, scan Bt = (T, n, 71) := by rw [hBt]; exact scan_set HSM.out o c8 HN8.out.1 (HN8.out.2 _)
    have hBl : Bt.length ≤ 40000 := by rw [hBt, List.length_set]; exact HSM.out.bytes
    have hT6 := HT6.out
    rw [← hBt] at hT6
    have hf6 := file_D1 hT6.2 (by unfold maxLen; decide) nm_r
    have hr6 := run_to HR5.out hT6 fun b hb => (HS4.out b hb).2
    have hb6 := Ly10.to_below hT6 HB5.out fun b hb => (HS4.out b hb).1
    have HK : Hid (∀ V, Below w6.heap.size w6 V → RunAt V w4.heap.size q p nmR m Ar cr ∧ FileAt V (grow (grow (fun b => w2.heap.size ≤ b ∧ b < w3.heap.size) w3 w4) w5 w6) p (D1 262144 nmR Bt) nmR Bt ∧ Reads V A2 m) := Lib.hid fun V hV =>
      ⟨hr6.below hV, hf6.below hV, HR2.out.keep (Nat.le_refl _) (hb6.trans (hV.mono hb6.size))⟩
    have HB6 := Lib.hid hb6
    have HBD := Lib.hid hbads
    have HSC := Lib.hid hscn
    have HBL := Lib.hid hBl
    have HBt := Lib.hid hBt
    have hN200 : N ≤ 200 := by rw [HNm.out]; exact HSM.out.len
    clear hBt hbads hscn hBl hT6 hf6 hr6 hb6 HT6 HF4 HS4 HR5 HB5 HFL HU HF5s hm1 hm2 hi1 hi2 z1 z2 hZ1 hZ2
    go_loopw [12, 13, 14, 15, 16, 71, 72, 73, 74, 75, 76, 77, 78, 79, 80, 81, 82, 83, 84, 85, 86, 87, 88, 89, 90, 91, 92, 93, 94, 95, 96, 97, 98, 99, 100, 101, 102, 103, 104, 105, 106, 107, 108, 109] (fun v i _ _ _ _ _ _ _ _ _ _ _ _ _ _ _ _ _ _ _ _ _ _ _ _ _ _ _ _ _ _ _ _ _ _ _ _ _ _ _ _ _ _ wr => ∃ (k j : Nat), k ≤ N ∧ j ≤ 1 ∧ i = .int .i64 k ∧ v = .int .i64 j ∧ Hid (j = bads Bt m k) ∧ Hid (Below w6.heap.size w6 wr)) (fun _ i _ _ _ _ _ _ _ _ _ _ _ _ _ _ _ _ _ _ _ _ _ _ _ _ _ _ _ _ _ _ _ _ _ _ _ _ _ _ _ _ _ _ _ => N - (intOf i).toNat)
    case atStart => exact ⟨0, 0, by omega, by omega, rfl, rfl, Lib.hid rfl, Lib.hid (Below.refl _ _)⟩
    case round =>
      obtain ⟨k, j, hk, hj, rfl, rfl, hjb, hB⟩ := hrel
      by_cases hlt : k < N
      · have hil : k < m.length := by rw [← HNm.out]; exact hlt
        obtain ⟨hrun, hfil, hrd⟩ := HK.out wr hB.out
        obtain ⟨b', o', rfl, p0, p1, p2⟩ := hrd.at_ hil
        have hget := Ge10.get_some hrun hfil (by have := HSM.out.bytes; omega) (by have := HSM.out.len; omega) HSM.out.sorted k hil (HSM.out.may _ (List.getElem_mem hil))
        have hcl : ∀ V, Below wr.heap.size wr V → V.cell? ⟨b', o' + k * 3, none⟩ = some (.string m[k].k) ∧ V.cell? ⟨b', o' + k * 3 + 1, none⟩ = some (.string m[k].v) ∧ V.cell? ⟨b', o' + k * 3 + 2, none⟩ = some (.bool m[k].g) := fun V hV => by
          obtain ⟨b2, o2, he, x0, x1, x2⟩ := (hrd.keep (Nat.le_refl _) hV).at_ hil
          cases he
          exact ⟨x0, x1, x2⟩
        have hbs : bads Bt m (k + 1) = j + if fine Bt m k then 0 else 1 := by rw [bads, ← hjb.out]
        have hgf := got_fine (Bt := Bt) hil
        have hgb := got_bad (Bt := Bt) (L := m) (i := k)
        have hj2 : bads Bt m (k + 1) ≤ 1 := by
          have h1 := bads_one (L := m) HN8.out.1 (HN8.out.2 _) (k + 1) (by omega)
          rw [HBt.out]
          split at h1 <;> omega
        obtain ⟨x, hx⟩ : ∃ x, x = m[k] := ⟨_, rfl⟩
        rw [← hx] at p0 p1 p2 hget hcl hgf
        obtain ⟨xk, xv, xg⟩ := x
        dsimp only at p0 p1 p2 hcl
        have HCL := Lib.hid hcl
        cases hf : fine Bt m k
        · have hg := hgb hf
          rw [hg] at hget
          rw [hf] at hbs
          have hj0 : j = 0 := by simp at hbs; omega
          subst hj0
          have HG : Hid (Calls Try.prog 16 #[.pointer (some ⟨q, 0, none⟩), .string xk] wr fun e w' => e = .returned (.tuple #[.agg #[.string ⟨#[]⟩, .string ⟨#[]⟩, .bool false], .bool false, .int .i64 71]) ∧ Below wr.heap.size wr w') := Lib.hid hget
          have HBS := Lib.hid hbs
          clear hf hg hgb hgf hget hbs hj2 hx hcl hrun hfil hrd hil hjb
          go_wp2_with fail
          refine HG.out.mono ?_
          rintro e w8 ⟨rfl, hb8⟩
          have hb9 : Below wr.heap.size wr (w8.alloc (.cells #[.string ⟨#[]⟩, .string ⟨#[]⟩, .bool false] 39)) := hb8.alloc hb8.size _
          have HB9 := Lib.hid (hB.out.trans (hb9.mono hB.out.size))
          clear hb8 hb9
          go_wp2
          exact ⟨⟨k + 1, 0 + 1, by omega, by omega, by go_num, by go_num, Lib.hid HBS.out.symm, HB9⟩, by simp [intOf]; omega⟩
        · have hg := hgf hf
          rw [hg] at hget
          rw [hf] at hbs
          have HG : Hid (Calls Try.prog 16 #[.pointer (some ⟨q, 0, none⟩), .string xk] wr fun e w' => e = .returned (.tuple #[.agg #[.string xk, .string xv, .bool xg], .bool true, .int .i64 0]) ∧ Below wr.heap.size wr w') := Lib.hid hget
          have HBS := Lib.hid hbs
          have hne : ∀ V : World, (binOp .neq 39 (.agg #[.string xk, .string xv, .bool xg]) (.agg #[.string xk, .string xv, .bool xg])).run Try.prog V = .ok (.bool false) V := fun V => by rw [run_ne, eqP_iff.2 rfl]; rfl
          clear hf hg hgb hgf hget hbs hj2 hx hcl hrun hfil hrd hil hjb
          go_wp2_with fail
          refine HG.out.mono ?_
          rintro e w8 ⟨rfl, hb8⟩
          obtain ⟨W9, hW9⟩ : ∃ W9, W9 = w8.alloc (.cells #[.string xk, .string xv, .bool xg] 39) := ⟨_, rfl⟩
          have hb9 : Below wr.heap.size wr W9 := by rw [hW9]; exact hb8.alloc hb8.size _
          obtain ⟨y0, y1, y2⟩ := HCL.out W9 hb9
          have hnw : W9.heap[w8.heap.size]? = some (pairO ⟨xk, xv, xg⟩) := by rw [hW9]; exact heap_new w8 _
          have z0 := cell_of hnw 0
          have z1 := cell_of hnw 1
          have z2 := cell_of hnw 2
          rw [hW9] at y0 y1 y2 z0 z1 z2
          have HB9 := Lib.hid (hB.out.trans (hb9.mono hB.out.size))
          have HW9 := Lib.hid hW9
          clear hb8 hb9 hnw hW9 p0 p1 p2
          go_wp2
          go_quiet (fail)
          go_wp2
          exact ⟨⟨k + 1, j, by omega, by omega, by go_num, rfl, Lib.hid HBS.out.symm, Lib.hid (Rq9.below_dn (by rw [← HW9.out]; exact HB9.out) _)⟩, by simp [intOf]; omega⟩
      · obtain rfl : k = N := by omega
        have hjN : j = bads Bt m m.length := by rw [hjb.out, HNm.out]
        obtain ⟨hrun, hfil, hrd⟩ := HK.out wr hB.out
        have hsn := Sn10.scan_any hrun hfil (by have := HSM.out.bytes; omega) (by have := HSM.out.len; omega) HSM.out.sorted HSM.out.may ⟨#[]⟩ ⟨#[]⟩ ((m.length : Int) + 1)
        rw [scanned_all, ← hjN, ← HNm.out] at hsn
        have HOPEN : Hid (∀ V, Below w6.heap.size w6 V → Calls Try.prog 12 #[.pointer (some ⟨p, 0, none⟩), .string ⟨#[114]⟩] V fun e w' => e = .returned (.tuple #[.pointer none, .int .i64 71]) ∧ Below V.heap.size V w') := Lib.hid fun V hV => by
          obtain ⟨_, hf, _⟩ := HK.out V hV
          obtain ⟨T, n0, hsc⟩ := HSC.out
          exact open_bad hf.full nmR (by unfold maxLen; decide) Bt T n0 71 (read_D1 262144 nmR Bt nm_r (by have := HBL.out; omega)) (by have := HBL.out; omega) hsc (by decide)
        by_cases hj0 : j = 0
        · subst hj0
          rw [if_pos rfl] at hsn
          have HSN : Hid (Calls Try.prog 18 #[.pointer (some ⟨q, 0, none⟩), .string ⟨#[]⟩, .string ⟨#[]⟩, .int .i64 ((k : Int) + 1)] wr fun e w' => (∃ A c, e = .returned (.tuple #[.slice A k c, .int .i64 0]) ∧ Reads w' A m) ∧ Below wr.heap.size wr w') :=
            Lib.hid (hsn.mono fun e w' ⟨A, c, h1, h2, h3⟩ => ⟨⟨A, c, by rw [h1]; show Ending.returned (.tuple #[.slice A m.length c, .int .i64 0]) = _; rw [← HNm.out], reads_of_own h2⟩, h3⟩)
          clear hsn hjN hrun hfil hrd hjb
          go_wp2_with fail
          refine HSN.out.mono ?_
          rintro e w10 ⟨⟨A10, c10, rfl, hr10⟩, hbX⟩
          have hb10 := hB.out.trans (hbX.mono hB.out.size)
          obtain ⟨_, _, hrd10⟩ := HK.out w10 hb10
          have HB10 := Lib.hid hb10
          have hsame := same_any w10 A10 A2 c10 c2 m m hr10 hrd10 (by have := HSM.out.len; omega)
          rw [same_iff.2 rfl, ← HNm.out] at hsame
          have HSA := Lib.hid hsame
          clear hb10 hbX hr10 hrd10 hsame
          go_wp2_with fail
          refine HSA.out.mono ?_
          rintro e wS ⟨rfl, hbS⟩
          have HBS := Lib.hid (HB10.out.trans (hbS.mono HB10.out.size))
          have HOP := Lib.hid (HOPEN.out wS HBS.out)
          clear hbS
          go_wp2_with fail
          refine HOP.out.mono ?_
          rintro e w11 ⟨rfl, hb11⟩
          have HB11 := Lib.hid (HBS.out.trans (hb11.mono HBS.out.size))
          have HAV := Lib.hid (alive_any w11)
          clear hb11
          go_wp2_with (go_at_call 7; refine HAV.out.mono ?_; rintro e w12 ⟨rfl, hb12⟩; have HB12 := Lib.hid (HB11.out.trans (hb12.mono HB11.out.size)); clear hb12)
          go_ret
          exact ⟨rfl, HB2.out.trans ((HB6.out.trans (HB12.out.mono HB6.out.size)).mono HB2.out.size)⟩
        · obtain rfl : j = 1 := by omega
          rw [if_neg (by omega)] at hsn
          have HSN : Hid (Calls Try.prog 18 #[.pointer (some ⟨q, 0, none⟩), .string ⟨#[]⟩, .string ⟨#[]⟩, .int .i64 ((k : Int) + 1)] wr fun e w' => (∃ A c, e = .returned (.tuple #[.slice A 0 c, .int .i64 71])) ∧ Below wr.heap.size wr w') :=
            Lib.hid (hsn.mono fun e w' ⟨A, c, h1, _, h3⟩ => ⟨⟨A, c, h1⟩, h3⟩)
          clear hsn hjN hrun hfil hrd hjb hj0
          go_wp2_with fail
          refine HSN.out.mono ?_
          rintro e w10 ⟨⟨A10, c10, rfl⟩, hbX⟩
          have hb10 := hB.out.trans (hbX.mono hB.out.size)
          obtain ⟨_, _, hrd10⟩ := HK.out w10 hb10
          have HB10 := Lib.hid hb10
          have HOP := Lib.hid (HOPEN.out w10 hb10)
          clear hb10 hbX hrd10
          go_wp2_with fail
          refine HOP.out.mono ?_
          rintro e w11 ⟨rfl, hb11⟩
          have HB11 := Lib.hid (HB10.out.trans (hb11.mono HB10.out.size))
          have HAV := Lib.hid (alive_any w11)
          clear hb11
          go_wp2_with (go_at_call 7; refine HAV.out.mono ?_; rintro e w12 ⟨rfl, hb12⟩; have HB12 := Lib.hid (HB11.out.trans (hb12.mono HB11.out.size)); clear hb12)
          go_ret
          exact ⟨rfl, HB2.out.trans ((HB6.out.trans (HB12.out.mono HB6.out.size)).mono HB2.out.size)⟩
  · go_wp2_with fail
    refine (alive_any _).mono ?_
    rintro e w2 ⟨rfl, hb3⟩
    go_wp2
    go_ret
    exact ⟨rfl, HB1.out.trans (hb3.mono HB1.out.size)⟩
theorem walk (W : World) (A : Option Addr) (c : Nat) (L : List Pr) (ai bi : Int) (hL : PairsAt W A L) (ha : 0 ≤ ai ∧ ai ≤ 65535) (hb : 0 ≤ bi ∧ bi ≤ 255) :
    Calls Try.prog 4 #[.slice A L.length c, .int .u16 ai, .int .u8 bi] W fun e w' => e = .returned (.bool true) ∧ Below W.heap.size W w' :=
  walk_of W A c L hL ai bi ai.toNat bi.toNat (Lib.hid (by omega)) (Lib.hid (by omega)) (by omega) (by omega)
end Go.Proofs.Ytmnaamjoikfpbaa.Sw10
