/- The law's alive: the chapter's examples. -/
import Derived.Test.YtmnaamjoikfpbaaLy10
import Derived.Test.YtmnaamjoikfpbaaLa9
namespace Go.Proofs.Ytmnaamjoikfpbaa.Av10
open Go Go.RowKit Go.Proofs.Ytmnaamjoikfpbaa.Dh Go.Proofs.Ytmnaamjoikfpbaa.Nm Go.Proofs.Ytmnaamjoikfpbaa.St Go.Proofs.Ytmnaamjoikfpbaa.Fl7 Go.Proofs.Ytmnaamjoikfpbaa.Pm9 Go.Proofs.Ytmnaamjoikfpbaa.Mt9 Go.Proofs.Ytmnaamjoikfpbaa.Mg9 Go.Proofs.Ytmnaamjoikfpbaa.Rd9 Go.Proofs.Ytmnaamjoikfpbaa.Fd10 Go.Proofs.Ytmnaamjoikfpbaa.Ck10 Go.Proofs.Ytmnaamjoikfpbaa.Po10 Go.Proofs.Ytmnaamjoikfpbaa.So10 Go.Proofs.Ytmnaamjoikfpbaa.Sz10 Go.Proofs.Ytmnaamjoikfpbaa.On10 Go.Proofs.Ytmnaamjoikfpbaa.Re10 Go.Proofs.Ytmnaamjoikfpbaa.Ge10 Go.Proofs.Ytmnaamjoikfpbaa.Sn10 Go.Proofs.Ytmnaamjoikfpbaa.Ly10
def pa : Pr := ⟨⟨#[97]⟩, ⟨#[49]⟩, false⟩
def pb : Pr := ⟨⟨#[98]⟩, ⟨#[]⟩, true⟩
def l2 : List Pr := [pa, pb]
theorem lt_ab : lt pa.k pb.k = true := by unfold lt; rw [ByteArray.toList_eq, ByteArray.toList_eq]; decide
theorem lt_ba : lt pb.k pa.k = false := lt_asymm lt_ab
theorem l2_sorted : Sorted l2 := by
  unfold l2 Sorted
  exact List.pairwise_cons.2 ⟨fun q hq => by rw [List.mem_singleton.1 hq]; exact lt_ab, List.pairwise_singleton _ _⟩
theorem l2_may : ∀ x ∈ l2, may x = true := by
  intro x hx
  rcases List.mem_cons.1 hx with rfl | hx
  · decide
  · rw [List.mem_singleton.1 hx]; decide
theorem l2_len : (rb l2).length = 53 := by rw [rb_len]; rfl
theorem nm_r : nameOk ⟨#[114]⟩ = true := by decide
theorem l2_fits : ∀ x ∈ l2, x.k.size ≤ 140737488351232 ∧ x.v.size ≤ 140737488351232 := fun x hx => by have := may_bound (l2_may x hx); omega
theorem within_all (q : Pr) : within ⟨#[]⟩ ⟨#[]⟩ q = true := by
  unfold within lt
  have e : Op.bytesLess q.k.toList (ByteArray.toList ⟨#[]⟩) = false := by
    have : ByteArray.toList ⟨#[]⟩ = [] := by rw [ByteArray.toList_eq]
    rw [this]
    cases q.k.toList <;> rfl
  rw [e]; rfl
theorem scan_all (L : List Pr) (n : Int) (h : (L.length : Int) ≤ n) : Pm9.scan ⟨#[]⟩ ⟨#[]⟩ n L = L := by
  unfold Pm9.scan
  rw [List.filter_eq_self.2 fun q _ => within_all q, List.take_of_length_le (by omega)]
theorem chk_two : chk [pb, pa] = 100 := by
  have h : [pb, pa].all may = true := by decide
  have h2 : rise [pb, pa] = false := by rw [rise, lt_ba]; rfl
  unfold chk
  rw [h, h2]; rfl
theorem chk_zero : chk [zp] = 2 := by
  have h : [zp].all may = false := by decide
  unfold chk; rw [h]; rfl
theorem chk_l2 : chk l2 = 0 := by
  unfold chk
  rw [List.all_eq_true.2 l2_may, rise_of_sorted l2_sorted]; rfl
abbrev rowO (x y : Pr) : Obj := .cells #[.string x.k, .string x.v, .bool x.g, .string y.k, .string y.v, .bool y.g] 39 (0, 0)
theorem reads_two {W : World} {b : Nat} {x y : Pr} (h : W.heap[b]? = some (rowO x y)) : Reads W (some ⟨b, 0, none⟩) [x, y] := fun _ => by
  refine ⟨b, 0, rfl, lt_of_at h, fun k hk => ?_⟩
  match k, hk with
  | 0, _ => exact ⟨cell_of h 0, cell_of h 1, cell_of h 2⟩
  | 1, _ => exact ⟨cell_of h 3, cell_of h 4, cell_of h 5⟩
theorem reads_one {W : World} {b : Nat} {x : Pr} (h : W.heap[b]? = some (pairO x)) : Reads W (some ⟨b, 0, none⟩) [x] := fun _ => by
  refine ⟨b, 0, rfl, lt_of_at h, fun k hk => ?_⟩
  match k, hk with
  | 0, _ => exact ⟨cell_of h 0, cell_of h 1, cell_of h 2⟩
theorem chain {a b c : World} (h : Hid (Below a.heap.size a b)) (k : Below b.heap.size b c) : Hid (Below a.heap.size a c) := Lib.hid (h.out.trans (k.mono h.out.size))
theorem ba {a b : World} {o : Obj} (h : Hid (Below a.heap.size a b)) : Below a.heap.size a (b.alloc o) := h.out.alloc h.out.size o
theorem chainA {a b c : World} {o : Obj} (h : Hid (Below a.heap.size a b)) (k : Below (b.alloc o).heap.size (b.alloc o) c) : Hid (Below a.heap.size a c) := Lib.hid ((ba h).trans (k.mono (ba h).size))
set_option maxRecDepth 40000 in
set_option maxHeartbeats 8000000 in
theorem alive_any (w : World) : Calls Try.prog 7 #[] w fun e w' => e = .returned (.bool true) ∧ Below w.heap.size w w' := by
  have H0 := Lib.hid (Nw.new_any w 1000 (by decide) (by decide))
  go_enter Try.func7, Try.ntmps7
  go_wp2_with fail
  refine H0.out.mono ?_
  rintro e w1 ⟨p, rfl, hb1, hF1⟩
  -- the row of two pairs
  obtain ⟨W2, hW2⟩ : ∃ W2, W2 = w1.alloc (.cells #[.string ⟨#[97]⟩, .string ⟨#[49]⟩, .bool false, .string ⟨#[98]⟩, .string ⟨#[]⟩, .bool true] 39) := ⟨_, rfl⟩
  have hrow2 : W2.heap[w1.heap.size]? = some (rowO pa pb) := by rw [hW2]; exact heap_new w1 _
  have hb12 : Below w1.heap.size w1 W2 := by rw [hW2]; exact (Below.refl _ _).alloc (Nat.le_refl _) _
  have hF2 := full_below hF1 hb12
  have hwr := write_D0 hF2 ⟨#[114]⟩ (by unfold maxLen; decide) nm_r (some ⟨w1.heap.size, 0, none⟩) 2 l2 (reads_two hrow2) (by decide) l2_sorted l2_may (by rw [l2_len]; decide)
  change Calls _ _ #[_, _, .slice (some ⟨w1.heap.size, 0, none⟩) 2 2] _ _ at hwr
  have HWR := Lib.hid hwr
  have HB2 := Lib.hid (hb1.trans (hb12.mono hb1.size))
  have HR2 := Lib.hid hrow2
  have HS2 := Lib.hid hb1.size
  have HW2 := Lib.hid hW2
  clear hb1 hF1 hrow2 hb12 hF2 hwr hW2
  go_wp2_with fail
  rw [← HW2.out]
  refine HWR.out.mono ?_
  rintro e w3 ⟨rfl, ht3⟩
  have hS : ∀ b, (w.heap.size ≤ b ∧ b < w1.heap.size) → b < W2.heap.size := fun b hb => by have := HW2.out; rw [this, size_alloc]; omega
  have hrow3 : w3.heap[w1.heap.size]? = some (rowO pa pb) := (ht3.1.block _ (lt_of_at HR2.out) (by omega)).trans HR2.out
  have hB3 : Below w.heap.size w w3 := Ly10.to_below ht3 HB2.out fun b hb => hb.1
  have hop := open_ok ht3.2 ⟨#[114]⟩ (by unfold maxLen; decide) l2 (read_D1 1000 ⟨#[114]⟩ (rb l2) nm_r (by rw [l2_len]; decide)) (by decide) (by rw [l2_len]; decide) l2_sorted l2_may
  have HOP := Lib.hid hop
  have HF3 := Lib.hid (file_D1 ht3.2 (by unfold maxLen; decide) nm_r)
  have HR3 := Lib.hid hrow3
  have HB3 := Lib.hid hB3
  clear ht3 hS hrow3 hB3 hop
  go_wp2_with fail
  refine HOP.out.mono ?_
  rintro e w4 ⟨⟨q, A, c, rfl, hrun⟩, hb4⟩
  have hf4 := HF3.out.below hb4
  have hg4 := Ge10.get_some hrun hf4 (by rw [l2_len]; decide) (by decide) l2_sorted 1 (by decide) (l2_may _ (List.getElem_mem _))
  rw [got_fine (L := l2) (i := 1) (by decide) (fine_rb l2 1 (by decide))] at hg4
  have HG4 : Hid (Calls Try.prog 16 #[.pointer (some ⟨q, 0, none⟩), .string ⟨#[98]⟩] w4 fun e w' => e = .returned (.tuple #[.agg #[.string ⟨#[98]⟩, .string ⟨#[]⟩, .bool true], .bool true, .int .i64 0]) ∧ Below w4.heap.size w4 w') := Lib.hid hg4
  have HB4 := Lib.hid (HB3.out.trans (hb4.mono HB3.out.size))
  have HR4 := Lib.hid ((hb4.block _ (lt_of_at HR3.out)).trans HR3.out)
  have HRun4 := Lib.hid hrun
  have HF4 := Lib.hid hf4
  clear hrun hb4 hf4 hg4
  go_wp2_with fail
  refine HG4.out.mono ?_
  rintro e w5 ⟨rfl, hb5⟩
  obtain ⟨W6, hW6⟩ : ∃ W6, W6 = w5.alloc (.cells #[.string ⟨#[98]⟩, .string ⟨#[]⟩, .bool true] 39) := ⟨_, rfl⟩
  have hb6 : Below w4.heap.size w4 W6 := by rw [hW6]; exact hb5.alloc hb5.size _
  have hbox : W6.heap[w5.heap.size]? = some (pairO pb) := by rw [hW6]; exact heap_new w5 _
  have hsc := scan_back (HRun4.out.below hb6) (HF4.out.below hb6) (by rw [l2_len]; decide) (by decide) l2_sorted l2_may ⟨#[]⟩ ⟨#[]⟩ 9
  rw [scan_all l2 9 (by decide)] at hsc
  have HSC : Hid (Calls Try.prog 18 #[.pointer (some ⟨q, 0, none⟩), .string ⟨#[]⟩, .string ⟨#[]⟩, .int .i64 9] W6 fun e w' => (∃ A c, e = .returned (.tuple #[.slice A 2 c, .int .i64 0]) ∧ Reads w' A l2) ∧ Below W6.heap.size W6 w') :=
    Lib.hid (hsc.mono fun e w' ⟨A, c, h1, h2, h3⟩ => ⟨⟨A, c, h1, reads_of_own h2⟩, h3⟩)
  have HB6 := Lib.hid (HB4.out.trans (hb6.mono HB4.out.size))
  have HR6 := Lib.hid ((hb6.block _ (lt_of_at HR4.out)).trans HR4.out)
  have HRun6 := Lib.hid (HRun4.out.below hb6)
  have HF6 := Lib.hid (HF4.out.below hb6)
  have HX6 := Lib.hid hbox
  have HW6 := Lib.hid hW6
  clear hb5 hb6 hbox hsc hW6
  go_wp2_with fail
  rw [← HW6.out]
  refine HSC.out.mono ?_
  rintro e w7 ⟨⟨A7, c7, rfl, hr7⟩, hb7⟩
  have HK : Hid (∀ V, Below w7.heap.size w7 V → V.heap[w1.heap.size]? = some (rowO pa pb) ∧ V.heap[w5.heap.size]? = some (pairO pb) ∧ Reads V A7 l2 ∧ RunAt V w3.heap.size q p ⟨#[114]⟩ l2 A c ∧ FileAt V (grow (fun b => w.heap.size ≤ b ∧ b < w1.heap.size) W2 w3) p (D1 1000 ⟨#[114]⟩ (rb l2)) ⟨#[114]⟩ (rb l2)) := Lib.hid fun V hV => by
    have hb := hb7.trans (hV.mono hb7.size)
    exact ⟨(hb.block _ (lt_of_at HR6.out)).trans HR6.out, (hb.block _ (lt_of_at HX6.out)).trans HX6.out, hr7.keep (Nat.le_refl _) hV, HRun6.out.below hb, HF6.out.below hb⟩
  have HQ : Hid (∀ V, Below w7.heap.size w7 V → V.cell? ⟨w5.heap.size, 0, none⟩ = some (.string ⟨#[98]⟩) ∧ V.cell? ⟨w5.heap.size, 1, none⟩ = some (.string ⟨#[]⟩) ∧ V.cell? ⟨w5.heap.size, 2, none⟩ = some (.bool true) ∧
      V.cell? ⟨w1.heap.size, 0, none⟩ = some (.string ⟨#[97]⟩) ∧ V.cell? ⟨w1.heap.size, 1, none⟩ = some (.string ⟨#[49]⟩) ∧ V.cell? ⟨w1.heap.size, 2, none⟩ = some (.bool false) ∧ V.cell? ⟨w1.heap.size, 3, none⟩ = some (.string ⟨#[98]⟩) ∧ V.cell? ⟨w1.heap.size, 4, none⟩ = some (.string ⟨#[]⟩) ∧ V.cell? ⟨w1.heap.size, 5, none⟩ = some (.bool true)) := Lib.hid fun V hV => by
    obtain ⟨h1, h2, _⟩ := HK.out V hV
    exact ⟨cell_of h2 0, cell_of h2 1, cell_of h2 2, cell_of h1 0, cell_of h1 1, cell_of h1 2, cell_of h1 3, cell_of h1 4, cell_of h1 5⟩
  have HSM : Hid (∀ V, Below w7.heap.size w7 V → Calls Try.prog 19 #[.slice A7 2 c7, .slice (some ⟨w1.heap.size, 0, none⟩) 2 2] V fun e w' => e = .returned (.bool true) ∧ Below V.heap.size V w') := Lib.hid fun V hV => by
    obtain ⟨h1, _, h3, _⟩ := HK.out V hV
    have := same_any V A7 (some ⟨w1.heap.size, 0, none⟩) c7 2 l2 l2 h3 (reads_two h1) (by decide)
    rw [same_iff.2 rfl] at this
    exact this
  have HW1 : Hid (∀ V, Below w7.heap.size w7 V → Calls Try.prog 10 #[.pointer (some ⟨p, 0, none⟩), .string ⟨#[114]⟩, .slice (some ⟨w1.heap.size, 0, none⟩) 2 2] V fun e w' => e = .returned (.int .i64 9) ∧ Below V.heap.size V w') := Lib.hid fun V hV => by
    obtain ⟨h1, _, _, _, h5⟩ := HK.out V hV
    exact Wr10.write_have h5.full ⟨#[114]⟩ (by unfold maxLen; decide) (some ⟨w1.heap.size, 0, none⟩) 2 l2 (reads_two h1) (by decide) l2_fits chk_l2 (size_D1 1000 ⟨#[114]⟩ (rb l2) nm_r)
  have HW2' : Hid (∀ V : World, Calls Try.prog 10 #[.pointer (some ⟨p, 0, none⟩), .string ⟨#[115]⟩, .slice (some ⟨V.heap.size, 0, none⟩) 2 2] (V.alloc (.cells #[.string ⟨#[98]⟩, .string ⟨#[]⟩, .bool true, .string ⟨#[97]⟩, .string ⟨#[49]⟩, .bool false] 39)) fun e w' => e = .returned (.int .i64 100) ∧ Below (V.alloc (.cells #[.string ⟨#[98]⟩, .string ⟨#[]⟩, .bool true, .string ⟨#[97]⟩, .string ⟨#[49]⟩, .bool false] 39)).heap.size (V.alloc (.cells #[.string ⟨#[98]⟩, .string ⟨#[]⟩, .bool true, .string ⟨#[97]⟩, .string ⟨#[49]⟩, .bool false] 39)) w') := Lib.hid fun V => by
    have := Wr10.write_bad (V.alloc (rowO pb pa)) p ⟨#[115]⟩ (some ⟨V.heap.size, 0, none⟩) 2 [pb, pa] (reads_two (heap_new V _)) (by decide) (fun x hx => l2_fits x (by
      rcases List.mem_cons.1 hx with rfl | hx
      · simp [l2]
      · rw [List.mem_singleton.1 hx]; simp [l2])) (by rw [chk_two]; decide)
    rw [chk_two] at this
    exact this
  have HW3 : Hid (∀ V : World, Calls Try.prog 10 #[.pointer (some ⟨p, 0, none⟩), .string ⟨#[115]⟩, .slice (some ⟨V.heap.size, 0, none⟩) 1 1] (V.alloc (.cells #[.string ⟨#[]⟩, .string ⟨#[]⟩, .bool false] 39)) fun e w' => e = .returned (.int .i64 2) ∧ Below (V.alloc (.cells #[.string ⟨#[]⟩, .string ⟨#[]⟩, .bool false] 39)).heap.size (V.alloc (.cells #[.string ⟨#[]⟩, .string ⟨#[]⟩, .bool false] 39)) w') := Lib.hid fun V => by
    have := Wr10.write_bad (V.alloc (pairO zp)) p ⟨#[115]⟩ (some ⟨V.heap.size, 0, none⟩) 1 [zp] (reads_one (heap_new V _)) (by decide) (fun x hx => by rw [List.mem_singleton.1 hx]; decide) (by rw [chk_zero]; decide)
    rw [chk_zero] at this
    exact this
  have HL : Hid (∀ V, Below w7.heap.size w7 V → Calls Try.prog 13 #[.pointer (some ⟨q, 0, none⟩)] V fun e w' => e = .returned (.int .i64 2) ∧ Below V.heap.size V w') := Lib.hid fun V hV => by
    obtain ⟨_, _, _, h4, _⟩ := HK.out V hV
    exact (On10.len_any h4).mono fun e w' y => ⟨y.1, by rw [y.2]; exact Below.refl _ _⟩
  have hse : ∀ V : World, (binOp .eql 39 (.agg #[.string ⟨#[98]⟩, .string ⟨#[]⟩, .bool true]) (.agg #[.string ⟨#[98]⟩, .string ⟨#[]⟩, .bool true])).run Try.prog V = .ok (.bool true) V := fun V => by rw [run_eq, eqP_iff.2 rfl]
  have HX0 : Hid (Below w7.heap.size w7 w7.drew) := Lib.hid (Below.refl _ _).drew
  have HB7 := Lib.hid (HB6.out.trans (hb7.mono HB6.out.size))
  obtain ⟨c0, c1, c2, c3, c4, c5, c6, c8, c9⟩ := HQ.out w7 (Below.refl _ _)
  clear hb7 hr7
  go_wp2
  go_region_held3 (fun V => V.cell? ⟨w5.heap.size, 0, none⟩ = some (.string ⟨#[98]⟩) ∧ V.cell? ⟨w5.heap.size, 1, none⟩ = some (.string ⟨#[]⟩) ∧ V.cell? ⟨w5.heap.size, 2, none⟩ = some (.bool true) ∧
      V.cell? ⟨w1.heap.size, 0, none⟩ = some (.string ⟨#[97]⟩) ∧ V.cell? ⟨w1.heap.size, 1, none⟩ = some (.string ⟨#[49]⟩) ∧ V.cell? ⟨w1.heap.size, 2, none⟩ = some (.bool false) ∧ V.cell? ⟨w1.heap.size, 3, none⟩ = some (.string ⟨#[98]⟩) ∧ V.cell? ⟨w1.heap.size, 4, none⟩ = some (.string ⟨#[]⟩) ∧ V.cell? ⟨w1.heap.size, 5, none⟩ = some (.bool true)) (first | exact HQ.out _ (Hid.out (by assumption)) | exact HQ.out _ (ba (by assumption)) | go_keep) (first
    | (go_at_call 19; (with_reducible refine (HSM.out _ (Hid.out (by assumption))).mono ?_); rintro e V1 ⟨rfl, hbx⟩; have HXa := chain (by assumption) hbx; clear hbx)
    | (go_at_call 10; (with_reducible refine (HW1.out _ (Hid.out (by assumption))).mono ?_); rintro e V2 ⟨rfl, hbx⟩; have HXb := chain (by assumption) hbx; clear hbx)
    | (go_at_call 10; (with_reducible refine (HW2'.out _).mono ?_); rintro e V3 ⟨rfl, hbx⟩; have HXc := chainA (by assumption) hbx; clear hbx)
    | (go_at_call 10; (with_reducible refine (HW3.out _).mono ?_); rintro e V4 ⟨rfl, hbx⟩; have HXd := chainA (by assumption) hbx; clear hbx)
    | (go_at_call 13; (with_reducible refine (HL.out _ (Hid.out (by assumption))).mono ?_); rintro e V5 ⟨rfl, hbx⟩; have HXe := chain (by assumption) hbx; clear hbx))
  go_wp2
  go_ret
  exact ⟨rfl, HB7.out.trans (HXe.out.mono HB7.out.size)⟩
end Go.Proofs.Ytmnaamjoikfpbaa.Av10
