/- ManTells' walk. -/
import Derived.Test.YtaoneiicoaiehaaRg11
import Derived.Test.YtaoneiicoaiehaaRq11
import Derived.Test.YtaoneiicoaiehaaNl11
namespace Go.Proofs.Ytaoneiicoaiehaa.Tw11
open Go Go.RowKit Go.Lib Go.Proofs.Ytaoneiicoaiehaa Go.Proofs.Ytaoneiicoaiehaa.Wm Go.Proofs.Ytaoneiicoaiehaa.Fl7 Go.Proofs.Ytaoneiicoaiehaa.Dh Go.Proofs.Ytaoneiicoaiehaa.Nu11 Go.Proofs.Ytaoneiicoaiehaa.Ma11 Go.Proofs.Ytaoneiicoaiehaa.Ck11 Go.Proofs.Ytaoneiicoaiehaa.Tx11 Go.Proofs.Ytaoneiicoaiehaa.Mn11 Go.Proofs.Ytaoneiicoaiehaa.Pg11 Go.Proofs.Ytaoneiicoaiehaa.Gb11 Go.Proofs.Ytaoneiicoaiehaa.Sv11 Go.Proofs.Ytaoneiicoaiehaa.Ld11 Go.Proofs.Ytaoneiicoaiehaa.Ap11 Go.Proofs.Ytaoneiicoaiehaa.Sa11 Go.Proofs.Ytaoneiicoaiehaa.Av11 Go.Proofs.Ytaoneiicoaiehaa.Nl11 Go.Proofs.Ytaoneiicoaiehaa.Rm11 Go.Proofs.Ytaoneiicoaiehaa.Rq11 Go.Proofs.Ytaoneiicoaiehaa.Rg11
/-- The man that came in (block a), its copy (block b). -/
structure Two (w0 w : World) (a b : Nat) (m : Man) (A : Option Addr) (c : Nat) (A' : Option Addr) (c' : Nat) : Prop where
  bel : Below w0.heap.size w0 w
  xa : w.heap[a]? = some (.cells #[.int .u64 (m.wal : Int), .slice A m.runs.length c, .int .u64 (m.next : Int)] 25)
  xb : w.heap[b]? = some (.cells #[.int .u64 (m.wal : Int), .slice A' m.runs.length c', .int .u64 (m.next : Int)] 25)
  ma : ManAt w m A c
  mb : ManAt w m A' c'
theorem Two.below {w0 w w' : World} {a b : Nat} {m : Man} {A A' : Option Addr} {c c' : Nat} (h : Two w0 w a b m A c A' c') (hb : Below w.heap.size w w') : Two w0 w' a b m A c A' c' :=
  ⟨h.bel.trans (hb.mono h.bel.size), (hb.block _ (lt_of_at h.xa)).trans h.xa, (hb.block _ (lt_of_at h.xb)).trans h.xb, h.ma.keep (Nat.le_refl _) hb, h.mb.keep (Nat.le_refl _) hb⟩
/-- What is got, a man of zeros where there is none. -/
def gm (s : List UInt8) : Man := (got s).1.getD ⟨0, [], 0⟩
theorem got_may {s : List UInt8} {m : Man} {k : Nat} (h : got s = (some m, k)) : may m = true := by
  unfold got at h
  split at h
  · cases h
  · split at h
    · split at h
      · rename_i hc
        injection h with h _
        injection h with h
        rw [← h]; exact hc.2
      · cases h
    · cases h
theorem gm_len (s : List UInt8) : (gm s).runs.length ≤ 256 := by
  unfold gm
  cases hg : got s with
  | mk o k =>
    cases o with
    | none => exact Nat.zero_le _
    | some m => exact (may_iff.1 (got_may hg)).1
theorem gets_is {w w' : World} {s : List UInt8} {e : Ending} (h : Gets w s e w') : Below w.heap.size w w' ∧ ∃ A c, e = .returned (.tuple #[manV (gm s) A c, .int .i64 ((got s).2 : Int)]) ∧ Nums w' A (gm s).runs := by
  obtain ⟨hb, ⟨m, h1, A, c, h2, h3⟩ | ⟨k, h1, _, h2⟩⟩ := h
  · unfold gm; rw [h1]; exact ⟨hb, A, c, h2, h3.nums⟩
  · unfold gm; rw [h1]; exact ⟨hb, none, 0, h2, Nums.nil _ _⟩
theorem rgets_is {w w' : World} {s : List UInt8} {e : Ending} (h : RGets w s e w') : Below w.heap.size w w' ∧ ∃ A c, e = .returned (.tuple #[manV (gm s) A c, .int .i64 ((got s).2 : Int)]) ∧ Nums w' A (gm s).runs := by
  obtain ⟨hb, ⟨m, h1, A, c, h2, h3⟩ | ⟨k, h1, _, h2⟩⟩ := h
  · unfold gm; rw [h1]; exact ⟨hb, A, c, h2, h3.nums⟩
  · unfold gm; rw [h1]; exact ⟨hb, none, 0, h2, Nums.nil _ _⟩
set_option maxHeartbeats 16000000 in
set_option maxRecDepth 100000 in
theorem walk (hsort : Sorts) (w : World) (m : Man) (A : Option Addr) (c : Nat) (s : ByteArray) (_hm : ManAt w m A c ∧ m.runs.length ≤ 9223372036854775807) (_hs : s.size ≤ 140737488351232) :
    Calls Try.prog 3 #[manV m A c, .string s] w fun e w' => e = .returned (.bool true) ∧ Below w.heap.size w w' := by
  obtain ⟨hm, hml⟩ := _hm
  obtain ⟨o, ho⟩ : ∃ o : Obj, o = .cells #[.int .u64 (m.wal : Int), .slice A m.runs.length c, .int .u64 (m.next : Int)] 25 := ⟨_, rfl⟩
  have hb0 : Below w.heap.size w (w.alloc o) := (Below.refl _ _).alloc (Nat.le_refl _) _
  have hlg := large_any (w.alloc o) m A c
  have HB0 := Lib.hid hb0
  have HNEW := Lib.hid (heap_new w o)
  have HM := Lib.hid hm
  unfold manV at hlg ⊢
  rw [ho] at hlg HB0 HNEW
  have HLG := Lib.hid hlg
  clear hb0 hlg ho hm
  go_enter Try.func3, Try.ntmps3
  go_wp2_with fail
  refine HLG.out.mono ?_
  rintro e w1 ⟨rfl, hb1⟩
  have hbx : w1.heap[w.heap.size]? = some (.cells #[.int .u64 (m.wal : Int), .slice A m.runs.length c, .int .u64 (m.next : Int)] 25) := (hb1.block _ (by rw [size_alloc]; exact Nat.lt_succ_self _)).trans HNEW.out
  have HBX := Lib.hid hbx
  have HB1 := Lib.hid (HB0.out.trans (hb1.mono (by rw [size_alloc]; omega)))
  clear hb1 hbx HLG HB0 HNEW
  by_cases hbig : 300 < m.runs.length
  · have hd : decide (300 < m.runs.length) = true := decide_eq_true hbig
    rw [hd]
    clear hd hbig
    have HA := Lib.hid (alive_any hsort w1)
    go_wp2_with fail
    refine HA.out.mono ?_
    rintro e w2 ⟨rfl, hba⟩
    have HBA := Lib.hid (HB1.out.trans (hba.mono HB1.out.size))
    clear hba HA
    go_wp2
    go_ret
    exact ⟨rfl, HBA.out⟩
  · have hd : decide (300 < m.runs.length) = false := decide_eq_false hbig
    rw [hd]
    clear hd
    by_cases hss : 16384 < s.size
    · have hz : (s.size : Int) > 16384 := by omega
      have hz2 : decide ((s.size : Int) > 16384) = true := decide_eq_true hz
      have HA := Lib.hid (alive_any hsort w1)
      go_wp2_with fail
      refine HA.out.mono ?_
      rintro e w2 ⟨rfl, hba⟩
      have HBA := Lib.hid (HB1.out.trans (hba.mono HB1.out.size))
      clear hba HA
      go_wp2
      go_ret
      exact ⟨rfl, HBA.out⟩
    · have hz : ¬ (s.size : Int) > 16384 := by omega
      have hz2 : decide ((s.size : Int) > 16384) = false := decide_eq_false hz
      have hl300 : m.runs.length ≤ 300 := by omega
      have hbx := HBX.out
      have x0 : w1.cell? ⟨w.heap.size, 0, none⟩ = some (.int .u64 (m.wal : Int)) := by rw [cell_of hbx]; rfl
      have x1 : w1.cell? ⟨w.heap.size, 1, none⟩ = some (.slice A m.runs.length c) := by rw [cell_of hbx]; rfl
      have x2 : w1.cell? ⟨w.heap.size, 2, none⟩ = some (.int .u64 (m.next : Int)) := by rw [cell_of hbx]; rfl
      have ha2 : (w1.alloc (.cells #[.int .u64 (m.wal : Int), .slice A m.runs.length c, .int .u64 (m.next : Int)] 25)).heap[w.heap.size]? = some (.cells #[.int .u64 (m.wal : Int), .slice A m.runs.length c, .int .u64 (m.next : Int)] 25) := (heap_alloc _ _ _ (lt_of_at hbx)).trans hbx
      have y0 : (w1.alloc (.cells #[.int .u64 (m.wal : Int), .slice A m.runs.length c, .int .u64 (m.next : Int)] 25)).cell? ⟨w.heap.size, 0, none⟩ = some (.int .u64 (m.wal : Int)) := by rw [cell_of ha2]; rfl
      have y1 : (w1.alloc (.cells #[.int .u64 (m.wal : Int), .slice A m.runs.length c, .int .u64 (m.next : Int)] 25)).cell? ⟨w.heap.size, 1, none⟩ = some (.slice A m.runs.length c) := by rw [cell_of ha2]; rfl
      have y2 : (w1.alloc (.cells #[.int .u64 (m.wal : Int), .slice A m.runs.length c, .int .u64 (m.next : Int)] 25)).cell? ⟨w.heap.size, 2, none⟩ = some (.int .u64 (m.next : Int)) := by rw [cell_of ha2]; rfl
      have hba : Below w1.heap.size w1 (w1.alloc (.cells #[.int .u64 (m.wal : Int), .slice A m.runs.length c, .int .u64 (m.next : Int)] 25)) := (Below.refl _ _).alloc (Nat.le_refl _) _
      have HXA := Lib.hid ha2
      have HBA := Lib.hid hba
      have HMA := Lib.hid (HM.out.keep (Nat.le_refl _) (HB1.out.trans (hba.mono HB1.out.size)))
      have HNIL : Hid (Nu11.Own (w1.heap.size + 1) [] (.slice none 0 0) (w1.alloc (.cells #[.int .u64 (m.wal : Int), .slice A m.runs.length c, .int .u64 (m.next : Int)] 25))) := Lib.hid (World.ownsRow_nil _ _ _ _)
      have HSZ : Hid (w1.heap.size + 1 ≤ (w1.alloc (.cells #[.int .u64 (m.wal : Int), .slice A m.runs.length c, .int .u64 (m.next : Int)] 25)).heap.size) := Lib.hid (by rw [size_alloc]; exact Nat.le_refl _)
      have HNB := Lib.hid (heap_new w1 (.cells #[.int .u64 (m.wal : Int), .slice A m.runs.length c, .int .u64 (m.next : Int)] 25))
      clear ha2 hba hbx
      go_wp2_with (at_builtin; refine wpList_app (B := w1.heap.size + 1) (H := []) (L := m.runs) rfl _ _ rfl rfl rfl ?c1 ?c2 HM.out.none ?c3 HSZ.out ?_)
      case c1 => exact HNIL.out
      case c2 => exact HMA.out.nums
      case c3 => show 0 + m.runs.length ≤ 1099511627776; omega
      intro v w2 hown hb2
      have hb5 : w2.heap[w1.heap.size]? = some (.cells #[.int .u64 (m.wal : Int), .slice A m.runs.length c, .int .u64 (m.next : Int)] 25) := (hb2.block _ (Nat.lt_succ_self _)).trans HNB.out
      obtain ⟨A', c', rfl⟩ : ∃ A' c', v = .slice A' m.runs.length c' := by
        rcases hown.shape with ⟨h1, h0⟩ | ⟨g, c', h, _⟩
        · exact ⟨none, 0, by rw [h1, show m.runs = [] from h0]; rfl⟩
        · exact ⟨_, c', h⟩
      have hown3 : Nu11.Own (w1.heap.size + 1) m.runs (.slice A' m.runs.length c') (w2.setCell ⟨w1.heap.size, 1, none⟩ (.slice A' m.runs.length c')) := own_set hown (Nat.lt_succ_self _)
      have hlw : w.heap.size < w1.heap.size := lt_of_at HBX.out
      have hbw2 : Below w.heap.size w w2 := (HB1.out.trans (HBA.out.mono HB1.out.size)).trans (hb2.mono (by omega))
      have hbw3 : Below w.heap.size w (w2.setCell ⟨w1.heap.size, 1, none⟩ (.slice A' m.runs.length c')) := hbw2.setCell (p := ⟨w1.heap.size, 1, none⟩) (by show w.heap.size ≤ w1.heap.size; omega) _
      have HT : Hid (Two w (w2.setCell ⟨w1.heap.size, 1, none⟩ (.slice A' m.runs.length c')) w.heap.size w1.heap.size m A c A' c') := Lib.hid ⟨hbw3,
        (heap_setCell_other w2 ⟨w1.heap.size, 1, none⟩ w.heap.size _ (by show w.heap.size ≠ w1.heap.size; omega)).trans ((hb2.block _ (by omega)).trans HXA.out),
        setCell_heap hb5 1 _, HM.out.keep (Nat.le_refl _) hbw3, man_own hown3 HM.out.wal HM.out.next HM.out.runs⟩
      have u0 : w2.cell? ⟨w1.heap.size, 0, none⟩ = some (.int .u64 (m.wal : Int)) := by rw [cell_of hb5]; rfl
      have u1 : w2.cell? ⟨w1.heap.size, 1, none⟩ = some (.slice A m.runs.length c) := by rw [cell_of hb5]; rfl
      have u2 : w2.cell? ⟨w1.heap.size, 2, none⟩ = some (.int .u64 (m.next : Int)) := by rw [cell_of hb5]; rfl
      have f1 := free_of hb5 1
      clear hb5 hown hown3 hbw2 hbw3 hb2 HNIL HSZ HNB HMA HBA HXA HBX HB1 x0 x1 x2 y0 y1 y2 hbig
      go_upto_region 5 with fail
      clear u0 u1 u2 f1
      generalize w2.setCell ⟨w1.heap.size, 1, none⟩ (.slice A' m.runs.length c') = w3 at HT ⊢
      obtain ⟨b5, hb5⟩ : ∃ b5, b5 = w1.heap.size := ⟨_, rfl⟩
      obtain ⟨b2, hb2⟩ : ∃ b2, b2 = w.heap.size := ⟨_, rfl⟩
      rw [← hb5, ← hb2] at HT ⊢
      clear hb5 hb2 hlw
      obtain ⟨g, hg⟩ : ∃ g, g = gm s.data.toList := ⟨_, rfl⟩
      have HG := Lib.hid hg
      have hgl : g.runs.length ≤ 256 := by rw [hg]; exact gm_len _
      obtain ⟨k, hk⟩ : ∃ k, k = (got s.data.toList).2 := ⟨_, rfl⟩
      have HK := Lib.hid hk
      clear hg hk
      cases hmay : may m with
      | false =>
        have hpv : putV m = .tuple #[.string ⟨#[]⟩, .int .i64 2] := by unfold putV; rw [hmay]; rfl
        have her : erg m = 2 := by unfold erg; rw [hmay]; rfl
        have HMAY := Lib.hid hmay
        have hck := check_any hsort HT.out.mb (by omega)
        rw [her] at hck
        unfold manV at hck
        have HCK := Lib.hid hck
        have hxb := HT.out.xb
        have x0 : w3.cell? ⟨b5, 0, none⟩ = some (.int .u64 (m.wal : Int)) := by rw [cell_of hxb]; rfl
        have x1 : w3.cell? ⟨b5, 1, none⟩ = some (.slice A' m.runs.length c') := by rw [cell_of hxb]; rfl
        have x2 : w3.cell? ⟨b5, 2, none⟩ = some (.int .u64 (m.next : Int)) := by rw [cell_of hxb]; rfl
        have HPV := Lib.hid hpv
        clear hck hmay hpv her hxb
        go_wp2_with fail
        refine HCK.out.mono ?_
        rintro e w4 ⟨rfl, hb4⟩
        have HT4 := Lib.hid (HT.out.below hb4)
        clear hb4 HCK HT x0 x1 x2
        have hpu := put_any hsort HT4.out.mb (by omega)
        rw [HPV.out] at hpu
        unfold manV at hpu
        have HPU := Lib.hid hpu
        have hxb := HT4.out.xb
        have x0 : w4.cell? ⟨b5, 0, none⟩ = some (.int .u64 (m.wal : Int)) := by rw [cell_of hxb]; rfl
        have x1 : w4.cell? ⟨b5, 1, none⟩ = some (.slice A' m.runs.length c') := by rw [cell_of hxb]; rfl
        have x2 : w4.cell? ⟨b5, 2, none⟩ = some (.int .u64 (m.next : Int)) := by rw [cell_of hxb]; rfl
        clear hpu hxb
        go_wp2_with fail
        refine HPU.out.mono ?_
        rintro e w5 ⟨rfl, hb5⟩
        have HT5 := Lib.hid (HT4.out.below hb5)
        clear hb5 HPU HT4 x0 x1 x2
        have hpu := rput_any HT5.out.ma (by omega)
        rw [HPV.out] at hpu
        unfold manV at hpu
        have HPU := Lib.hid hpu
        have hxa := HT5.out.xa
        have x0 : w5.cell? ⟨b2, 0, none⟩ = some (.int .u64 (m.wal : Int)) := by rw [cell_of hxa]; rfl
        have x1 : w5.cell? ⟨b2, 1, none⟩ = some (.slice A m.runs.length c) := by rw [cell_of hxa]; rfl
        have x2 : w5.cell? ⟨b2, 2, none⟩ = some (.int .u64 (m.next : Int)) := by rw [cell_of hxa]; rfl
        clear hpu hxa
        go_wp2_with fail
        refine HPU.out.mono ?_
        rintro e w6 ⟨rfl, hb6⟩
        have HT6 := Lib.hid (HT5.out.below hb6)
        clear hb6 HPU HT5 x0 x1 x2
        have HGE := Lib.hid (get_any hsort s w6 (by omega))
        go_wp2_with fail
        refine HGE.out.mono ?_
        intro e w7 hget
        obtain ⟨hb7, Ax, cx, rfl, hnx⟩ := gets_is hget
        rw [← HG.out, ← HK.out]
        rw [← HG.out] at hnx
        have hal : Below w7.heap.size w7 (w7.alloc (.cells #[.int .u64 (g.wal : Int), .slice Ax g.runs.length cx, .int .u64 (g.next : Int)] 25)) := (Below.refl _ _).alloc (Nat.le_refl _) _
        have HT8 := Lib.hid ((HT6.out.below hb7).below hal)
        have HNX := Lib.hid (hnx.keep (Nat.le_refl _) hal)
        have HBX8 := Lib.hid (heap_new w7 (.cells #[.int .u64 (g.wal : Int), .slice Ax g.runs.length cx, .int .u64 (g.next : Int)] 25))
        have hrg := rget_any s (w7.alloc (.cells #[.int .u64 (g.wal : Int), .slice Ax g.runs.length cx, .int .u64 (g.next : Int)] 25)) (by omega)
        have HRG := Lib.hid hrg
        unfold manV
        clear hget hb7 hnx hal HGE HT6 hrg
        go_wp2_with fail
        refine HRG.out.mono ?_
        intro e w9 hget
        obtain ⟨hb9, Ay, cy, rfl, hny⟩ := rgets_is hget
        rw [← HG.out, ← HK.out]
        rw [← HG.out] at hny
        have hal : Below w9.heap.size w9 (w9.alloc (.cells #[.int .u64 (g.wal : Int), .slice Ay g.runs.length cy, .int .u64 (g.next : Int)] 25)) := (Below.refl _ _).alloc (Nat.le_refl _) _
        obtain ⟨b11, hb11⟩ : ∃ b11, b11 = w7.heap.size := ⟨_, rfl⟩
        have hb10 := hb9.trans (hal.mono hb9.size)
        have HT10 := Lib.hid (HT8.out.below hb10)
        have HNX10 := Lib.hid (HNX.out.keep (Nat.le_refl _) hb10)
        have HNY10 := Lib.hid (hny.keep (Nat.le_refl _) hal)
        have hbx10 := (hb10.block _ (lt_of_at HBX8.out)).trans HBX8.out
        rw [← hb11] at hbx10 ⊢
        have HBY10 := Lib.hid (heap_new w9 (.cells #[.int .u64 (g.wal : Int), .slice Ay g.runs.length cy, .int .u64 (g.next : Int)] 25))
        have HBX10 := Lib.hid hbx10
        unfold manV
        clear hget hb9 hny hal hb10 HRG HT8 HNX HBX8 hb11 hbx10
        go_upto_region 10 with fail
        generalize w9.alloc (.cells #[.int .u64 (g.wal : Int), .slice Ay g.runs.length cy, .int .u64 (g.next : Int)] 25) = w10 at HT10 HNX10 HNY10 HBX10 HBY10 ⊢
        obtain ⟨b13, hb13⟩ : ∃ b13, b13 = w9.heap.size := ⟨_, rfl⟩
        rw [← hb13] at HBY10 ⊢
        clear hb13
        have hsm := same_any (a := m) (b := m) HT10.out.mb.nums HT10.out.ma.nums (by omega) (by omega) (c := c') (c' := c)
        rw [same_self] at hsm
        unfold manV at hsm
        have HSM := Lib.hid hsm
        have hxa := HT10.out.xa
        have hxb := HT10.out.xb
        have x0 : w10.cell? ⟨b2, 0, none⟩ = some (.int .u64 (m.wal : Int)) := by rw [cell_of hxa]; rfl
        have x1 : w10.cell? ⟨b2, 1, none⟩ = some (.slice A m.runs.length c) := by rw [cell_of hxa]; rfl
        have x2 : w10.cell? ⟨b2, 2, none⟩ = some (.int .u64 (m.next : Int)) := by rw [cell_of hxa]; rfl
        have y0 : w10.cell? ⟨b5, 0, none⟩ = some (.int .u64 (m.wal : Int)) := by rw [cell_of hxb]; rfl
        have y1 : w10.cell? ⟨b5, 1, none⟩ = some (.slice A' m.runs.length c') := by rw [cell_of hxb]; rfl
        have y2 : w10.cell? ⟨b5, 2, none⟩ = some (.int .u64 (m.next : Int)) := by rw [cell_of hxb]; rfl
        clear hsm hxa hxb
        go_wp2_with fail
        refine HSM.out.mono ?_
        rintro e w11 ⟨rfl, hb11⟩
        have HT11 := Lib.hid (HT10.out.below hb11)
        have hsm := same_any (a := g) (b := g) (HNX10.out.keep (Nat.le_refl _) hb11) (HNY10.out.keep (Nat.le_refl _) hb11) (by omega) (by omega) (c := cx) (c' := cy)
        rw [same_self] at hsm
        unfold manV at hsm
        have HSM2 := Lib.hid hsm
        have hbx := (hb11.block _ (lt_of_at HBX10.out)).trans HBX10.out
        have hby := (hb11.block _ (lt_of_at HBY10.out)).trans HBY10.out
        have u0 : w11.cell? ⟨b11, 0, none⟩ = some (.int .u64 (g.wal : Int)) := by rw [cell_of hbx]; rfl
        have u1 : w11.cell? ⟨b11, 1, none⟩ = some (.slice Ax g.runs.length cx) := by rw [cell_of hbx]; rfl
        have u2 : w11.cell? ⟨b11, 2, none⟩ = some (.int .u64 (g.next : Int)) := by rw [cell_of hbx]; rfl
        have v0 : w11.cell? ⟨b13, 0, none⟩ = some (.int .u64 (g.wal : Int)) := by rw [cell_of hby]; rfl
        have v1 : w11.cell? ⟨b13, 1, none⟩ = some (.slice Ay g.runs.length cy) := by rw [cell_of hby]; rfl
        have v2 : w11.cell? ⟨b13, 2, none⟩ = some (.int .u64 (g.next : Int)) := by rw [cell_of hby]; rfl
        clear hsm hbx hby hb11 HSM HT10 x0 x1 x2 y0 y1 y2
        go_wp2_with fail
        refine HSM2.out.mono ?_
        rintro e w12 ⟨rfl, hb12⟩
        have HT12 := Lib.hid (HT11.out.below hb12)
        clear hb12 HSM2 HT11 HNX10 HNY10 HBX10 HBY10 u0 u1 u2 v0 v1 v2
        have HA := Lib.hid (alive_any hsort w12)
        go_wp2_with fail
        refine HA.out.mono ?_
        rintro e w13 ⟨rfl, hba⟩
        have HBA := Lib.hid (HT12.out.bel.trans (hba.mono HT12.out.bel.size))
        clear hba HA
        go_wp2
        go_ret
        exact ⟨rfl, HBA.out⟩
      | true =>
        obtain ⟨S, hS⟩ : ∃ S, S = bs (by_ m) := ⟨_, rfl⟩
        have hSs : S.size ≤ 10000 := by rw [hS, bs_size, by_len]; omega
        have HSS := Lib.hid hS
        have hpv : putV m = .tuple #[.string S, .int .i64 0] := by unfold putV; rw [hmay, hS]; rfl
        have her : erg m = 0 := by unfold erg; rw [hmay]; rfl
        have HMAY := Lib.hid hmay
        have hck := check_any hsort HT.out.mb (by omega)
        rw [her] at hck
        unfold manV at hck
        have HCK := Lib.hid hck
        have hxb := HT.out.xb
        have x0 : w3.cell? ⟨b5, 0, none⟩ = some (.int .u64 (m.wal : Int)) := by rw [cell_of hxb]; rfl
        have x1 : w3.cell? ⟨b5, 1, none⟩ = some (.slice A' m.runs.length c') := by rw [cell_of hxb]; rfl
        have x2 : w3.cell? ⟨b5, 2, none⟩ = some (.int .u64 (m.next : Int)) := by rw [cell_of hxb]; rfl
        have HPV := Lib.hid hpv
        clear hck hmay hpv her hxb hS
        go_wp2_with fail
        refine HCK.out.mono ?_
        rintro e w4 ⟨rfl, hb4⟩
        have HT4 := Lib.hid (HT.out.below hb4)
        clear hb4 HCK HT x0 x1 x2
        have hpu := put_any hsort HT4.out.mb (by omega)
        rw [HPV.out] at hpu
        unfold manV at hpu
        have HPU := Lib.hid hpu
        have hxb := HT4.out.xb
        have x0 : w4.cell? ⟨b5, 0, none⟩ = some (.int .u64 (m.wal : Int)) := by rw [cell_of hxb]; rfl
        have x1 : w4.cell? ⟨b5, 1, none⟩ = some (.slice A' m.runs.length c') := by rw [cell_of hxb]; rfl
        have x2 : w4.cell? ⟨b5, 2, none⟩ = some (.int .u64 (m.next : Int)) := by rw [cell_of hxb]; rfl
        clear hpu hxb
        go_wp2_with fail
        refine HPU.out.mono ?_
        rintro e w5 ⟨rfl, hb5⟩
        have HT5 := Lib.hid (HT4.out.below hb5)
        clear hb5 HPU HT4 x0 x1 x2
        have hpu := rput_any HT5.out.ma (by omega)
        rw [HPV.out] at hpu
        unfold manV at hpu
        have HPU := Lib.hid hpu
        have hxa := HT5.out.xa
        have x0 : w5.cell? ⟨b2, 0, none⟩ = some (.int .u64 (m.wal : Int)) := by rw [cell_of hxa]; rfl
        have x1 : w5.cell? ⟨b2, 1, none⟩ = some (.slice A m.runs.length c) := by rw [cell_of hxa]; rfl
        have x2 : w5.cell? ⟨b2, 2, none⟩ = some (.int .u64 (m.next : Int)) := by rw [cell_of hxa]; rfl
        clear hpu hxa
        go_wp2_with fail
        refine HPU.out.mono ?_
        rintro e w6 ⟨rfl, hb6⟩
        have HT6 := Lib.hid (HT5.out.below hb6)
        clear hb6 HPU HT5 x0 x1 x2
        have HGE := Lib.hid (get_any hsort s w6 (by omega))
        go_wp2_with fail
        refine HGE.out.mono ?_
        intro e w7 hget
        obtain ⟨hb7, Ax, cx, rfl, hnx⟩ := gets_is hget
        rw [← HG.out, ← HK.out]
        rw [← HG.out] at hnx
        have hal : Below w7.heap.size w7 (w7.alloc (.cells #[.int .u64 (g.wal : Int), .slice Ax g.runs.length cx, .int .u64 (g.next : Int)] 25)) := (Below.refl _ _).alloc (Nat.le_refl _) _
        have HT8 := Lib.hid ((HT6.out.below hb7).below hal)
        have HNX := Lib.hid (hnx.keep (Nat.le_refl _) hal)
        have HBX8 := Lib.hid (heap_new w7 (.cells #[.int .u64 (g.wal : Int), .slice Ax g.runs.length cx, .int .u64 (g.next : Int)] 25))
        have hrg := rget_any s (w7.alloc (.cells #[.int .u64 (g.wal : Int), .slice Ax g.runs.length cx, .int .u64 (g.next : Int)] 25)) (by omega)
        have HRG := Lib.hid hrg
        unfold manV
        clear hget hb7 hnx hal HGE HT6 hrg
        go_wp2_with fail
        refine HRG.out.mono ?_
        intro e w9 hget
        obtain ⟨hb9, Ay, cy, rfl, hny⟩ := rgets_is hget
        rw [← HG.out, ← HK.out]
        rw [← HG.out] at hny
        have hal : Below w9.heap.size w9 (w9.alloc (.cells #[.int .u64 (g.wal : Int), .slice Ay g.runs.length cy, .int .u64 (g.next : Int)] 25)) := (Below.refl _ _).alloc (Nat.le_refl _) _
        obtain ⟨b11, hb11⟩ : ∃ b11, b11 = w7.heap.size := ⟨_, rfl⟩
        have hb10 := hb9.trans (hal.mono hb9.size)
        have HT10 := Lib.hid (HT8.out.below hb10)
        have HNX10 := Lib.hid (HNX.out.keep (Nat.le_refl _) hb10)
        have HNY10 := Lib.hid (hny.keep (Nat.le_refl _) hal)
        have hbx10 := (hb10.block _ (lt_of_at HBX8.out)).trans HBX8.out
        rw [← hb11] at hbx10 ⊢
        have HBY10 := Lib.hid (heap_new w9 (.cells #[.int .u64 (g.wal : Int), .slice Ay g.runs.length cy, .int .u64 (g.next : Int)] 25))
        have HBX10 := Lib.hid hbx10
        unfold manV
        clear hget hb9 hny hal hb10 HRG HT8 HNX HBX8 hb11 hbx10
        go_upto_region 10 with fail
        generalize w9.alloc (.cells #[.int .u64 (g.wal : Int), .slice Ay g.runs.length cy, .int .u64 (g.next : Int)] 25) = w10 at HT10 HNX10 HNY10 HBX10 HBY10 ⊢
        obtain ⟨b13, hb13⟩ : ∃ b13, b13 = w9.heap.size := ⟨_, rfl⟩
        rw [← hb13] at HBY10 ⊢
        clear hb13
        have hsm := same_any (a := m) (b := m) HT10.out.mb.nums HT10.out.ma.nums (by omega) (by omega) (c := c') (c' := c)
        rw [same_self] at hsm
        unfold manV at hsm
        have HSM := Lib.hid hsm
        have hxa := HT10.out.xa
        have hxb := HT10.out.xb
        have x0 : w10.cell? ⟨b2, 0, none⟩ = some (.int .u64 (m.wal : Int)) := by rw [cell_of hxa]; rfl
        have x1 : w10.cell? ⟨b2, 1, none⟩ = some (.slice A m.runs.length c) := by rw [cell_of hxa]; rfl
        have x2 : w10.cell? ⟨b2, 2, none⟩ = some (.int .u64 (m.next : Int)) := by rw [cell_of hxa]; rfl
        have y0 : w10.cell? ⟨b5, 0, none⟩ = some (.int .u64 (m.wal : Int)) := by rw [cell_of hxb]; rfl
        have y1 : w10.cell? ⟨b5, 1, none⟩ = some (.slice A' m.runs.length c') := by rw [cell_of hxb]; rfl
        have y2 : w10.cell? ⟨b5, 2, none⟩ = some (.int .u64 (m.next : Int)) := by rw [cell_of hxb]; rfl
        clear hsm hxa hxb
        go_wp2_with fail
        refine HSM.out.mono ?_
        rintro e w11 ⟨rfl, hb11⟩
        have HT11 := Lib.hid (HT10.out.below hb11)
        have hsm := same_any (a := g) (b := g) (HNX10.out.keep (Nat.le_refl _) hb11) (HNY10.out.keep (Nat.le_refl _) hb11) (by omega) (by omega) (c := cx) (c' := cy)
        rw [same_self] at hsm
        unfold manV at hsm
        have HSM2 := Lib.hid hsm
        have hbx := (hb11.block _ (lt_of_at HBX10.out)).trans HBX10.out
        have hby := (hb11.block _ (lt_of_at HBY10.out)).trans HBY10.out
        have u0 : w11.cell? ⟨b11, 0, none⟩ = some (.int .u64 (g.wal : Int)) := by rw [cell_of hbx]; rfl
        have u1 : w11.cell? ⟨b11, 1, none⟩ = some (.slice Ax g.runs.length cx) := by rw [cell_of hbx]; rfl
        have u2 : w11.cell? ⟨b11, 2, none⟩ = some (.int .u64 (g.next : Int)) := by rw [cell_of hbx]; rfl
        have v0 : w11.cell? ⟨b13, 0, none⟩ = some (.int .u64 (g.wal : Int)) := by rw [cell_of hby]; rfl
        have v1 : w11.cell? ⟨b13, 1, none⟩ = some (.slice Ay g.runs.length cy) := by rw [cell_of hby]; rfl
        have v2 : w11.cell? ⟨b13, 2, none⟩ = some (.int .u64 (g.next : Int)) := by rw [cell_of hby]; rfl
        clear hsm hbx hby hb11 HSM HT10 x0 x1 x2 y0 y1 y2
        go_wp2_with fail
        refine HSM2.out.mono ?_
        rintro e w12 ⟨rfl, hb12⟩
        have HT12 := Lib.hid (HT11.out.below hb12)
        clear hb12 HSM2 HT11 HNX10 HNY10 HBX10 HBY10 u0 u1 u2 v0 v1 v2
        have hgt := got_by (m := m) ⟨HT12.out.ma.wal, HT12.out.ma.next, HT12.out.ma.runs⟩ HMAY.out
        have HGE := Lib.hid (get_any hsort S w12 (by omega))
        have HGT : Hid (got S.data.toList = (some m, 0)) := Lib.hid (by rw [HSS.out]; exact hgt)
        clear hgt
        go_wp2_with fail
        refine HGE.out.mono ?_
        intro e w13 hget
        obtain ⟨hb13, Az, cz, rfl, hnz⟩ := gets_is hget
        have hgm : gm S.data.toList = m := by unfold gm; rw [HGT.out]; rfl
        rw [hgm] at hnz
        rw [hgm, HGT.out]
        have hal : Below w13.heap.size w13 (w13.alloc (.cells #[.int .u64 (m.wal : Int), .slice Az m.runs.length cz, .int .u64 (m.next : Int)] 25)) := (Below.refl _ _).alloc (Nat.le_refl _) _
        have HT14 := Lib.hid ((HT12.out.below hb13).below hal)
        have HNZ := Lib.hid (hnz.keep (Nat.le_refl _) hal)
        have hsm := same_any (a := m) (b := m) HNZ.out HT14.out.ma.nums (by omega) (by omega) (c := cz) (c' := c)
        rw [same_self] at hsm
        unfold manV at hsm
        have HSM := Lib.hid hsm
        have hxa := HT14.out.xa
        have x0 : (w13.alloc (.cells #[.int .u64 (m.wal : Int), .slice Az m.runs.length cz, .int .u64 (m.next : Int)] 25)).cell? ⟨b2, 0, none⟩ = some (.int .u64 (m.wal : Int)) := by rw [cell_of hxa]; rfl
        have x1 : (w13.alloc (.cells #[.int .u64 (m.wal : Int), .slice Az m.runs.length cz, .int .u64 (m.next : Int)] 25)).cell? ⟨b2, 1, none⟩ = some (.slice A m.runs.length c) := by rw [cell_of hxa]; rfl
        have x2 : (w13.alloc (.cells #[.int .u64 (m.wal : Int), .slice Az m.runs.length cz, .int .u64 (m.next : Int)] 25)).cell? ⟨b2, 2, none⟩ = some (.int .u64 (m.next : Int)) := by rw [cell_of hxa]; rfl
        have e00 : ((0 : Nat) : Int) = 0 := rfl
        rw [show ((some m, 0) : Option Man × Nat).2 = 0 from rfl, e00]
        unfold manV
        clear hsm hxa hget hb13 hnz hal hgm e00 HGE HT12
        go_wp2_with fail
        refine HSM.out.mono ?_
        rintro e w15 ⟨rfl, hb15⟩
        have HT15 := Lib.hid (HT14.out.below hb15)
        clear hb15 HSM HT14 x0 x1 x2
        have HA := Lib.hid (alive_any hsort w15)
        go_wp2_with fail
        refine HA.out.mono ?_
        rintro e w16 ⟨rfl, hba⟩
        have HBA := Lib.hid (HT15.out.bel.trans (hba.mono HT15.out.bel.size))
        clear hba HA
        go_wp2
        go_ret
        exact ⟨rfl, HBA.out⟩
end Go.Proofs.Ytaoneiicoaiehaa.Tw11
