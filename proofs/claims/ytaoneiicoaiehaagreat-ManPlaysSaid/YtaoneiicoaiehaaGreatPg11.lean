/- The contracts of man.Put and man.Get. -/
import Derived.Test.YtaoneiicoaiehaaGreatMn11
import Derived.Test.YtaoneiicoaiehaaGreatCk11
import Derived.Test.YtaoneiicoaiehaaGreatFb2
namespace Go.Proofs.YtaoneiicoaiehaaGreat.Pg11
open Go Go.RowKit Go.Lib Go.Proofs.YtaoneiicoaiehaaGreat.Wm Go.Proofs.YtaoneiicoaiehaaGreat.Fl7 Go.Proofs.YtaoneiicoaiehaaGreat.Dh Go.Proofs.YtaoneiicoaiehaaGreat.Nu11 Go.Proofs.YtaoneiicoaiehaaGreat.Ma11 Go.Proofs.YtaoneiicoaiehaaGreat.Ck11 Go.Proofs.YtaoneiicoaiehaaGreat.Tx11 Go.Proofs.YtaoneiicoaiehaaGreat.Mn11
/-- A man's bytes. -/
def by_ (m : Man) : List UInt8 := fr (tx m)
theorem by_len (m : Man) : (by_ m).length = 36 + 8 * m.runs.length := by unfold by_; rw [fr_len, tx_len]; omega
/-- What Put answers. -/
def putV (m : Man) : Value := if may m then .tuple #[.string (bs (by_ m)), .int .i64 0] else .tuple #[.string ⟨#[]⟩, .int .i64 2]
set_option maxHeartbeats 8000000 in
set_option maxRecDepth 100000 in
theorem put_any (hsort : Sorts) {w : World} {m : Man} {A : Option Addr} {c : Nat} (h : ManAt w m A c) (hlen : m.runs.length ≤ 1000000) :
    Calls Tryz.prog 31 #[manV m A c] w fun e w' => e = .returned (putV m) ∧ Below w.heap.size w w' := by
  have hb0 : Below w.heap.size w (w.alloc (.cells #[.int .u64 (m.wal : Int), .slice A m.runs.length c, .int .u64 (m.next : Int)] 36)) := (Below.refl _ _).alloc (Nat.le_refl _) _
  have h0 := h.keep (Nat.le_refl _) hb0
  have hck := check_any hsort h0 hlen
  have HB0 := Lib.hid hb0
  have HCK := Lib.hid hck
  have H0 := Lib.hid h0
  clear hb0 h0 hck
  unfold manV at HCK ⊢
  go_enter Tryz.func31, Tryz.ntmps31
  go_wp2_with fail
  refine HCK.out.mono ?_
  rintro e w1 ⟨rfl, hb1⟩
  have hbx : w1.heap[w.heap.size]? = some (.cells #[.int .u64 (m.wal : Int), .slice A m.runs.length c, .int .u64 (m.next : Int)] 36) := (hb1.block _ (by rw [size_alloc]; exact Nat.lt_succ_self _)).trans (heap_new _ _)
  have x0 : w1.cell? ⟨w.heap.size, 0, none⟩ = some (.int .u64 (m.wal : Int)) := by rw [cell_of hbx]; rfl
  have x1 : w1.cell? ⟨w.heap.size, 1, none⟩ = some (.slice A m.runs.length c) := by rw [cell_of hbx]; rfl
  have x2 : w1.cell? ⟨w.heap.size, 2, none⟩ = some (.int .u64 (m.next : Int)) := by rw [cell_of hbx]; rfl
  have h1 := H0.out.keep (Nat.le_refl _) hb1
  have htx := textOf_any h1 (by omega)
  unfold manV at htx
  have HTX := Lib.hid htx
  have HB1 := Lib.hid (HB0.out.trans (hb1.mono (by rw [size_alloc]; omega)))
  have HSZ := Lib.hid (show w.heap.size ≤ w1.heap.size from HB1.out.size)
  clear hb1 hbx h1 htx HCK
  cases hm : may m with
  | false =>
    have e1 : erg m = 2 := erg_bad hm
    have e2 : putV m = .tuple #[.string ⟨#[]⟩, .int .i64 2] := by unfold putV; rw [hm]; rfl
    have E2 := Lib.hid e2
    rw [e1]
    clear e1 e2 HTX hm x0 x1 x2
    go_wp2
    go_ret2
    exact ⟨by rw [E2.out]; rfl, HB1.out⟩
  | true =>
    have e1 : erg m = 0 := by unfold erg; rw [if_pos hm]
    have e2 : putV m = .tuple #[.string (bs (by_ m)), .int .i64 0] := by unfold putV; rw [if_pos hm]
    have hle := (may_iff.1 hm).1
    have E2 := Lib.hid e2
    rw [e1]
    clear e1 e2 hm
    go_wp2_with fail
    refine HTX.out.mono ?_
    rintro e w2 ⟨rfl, hb2⟩
    have hp := Fp7.put_ok (bs (tx m)) w2 (by rw [bs_size, tx_len]; omega)
    rw [bs_list] at hp
    have HP := Lib.hid hp
    have HB2 := Lib.hid (HB1.out.trans (hb2.mono HSZ.out))
    clear hp hb2
    go_wp2_with fail
    refine HP.out.mono ?_
    rintro e w3 ⟨rfl, hb3⟩
    have HB3 := Lib.hid (HB2.out.trans (hb3.mono HB2.out.size))
    clear hb3
    go_wp2
    go_ret2
    exact ⟨by rw [E2.out]; rfl, HB3.out⟩
instance (t : List UInt8) : Decidable (full t) := by unfold full; infer_instance
/-- The man that bytes tell, or why not. -/
def got (s : List UInt8) : Option Man × Nat :=
  if (scan s).2.2 ≠ 0 then (none, (scan s).2.2) else
    match (scan s).1 with
    | [t] => if (full t ∧ tx (mo t) = t) ∧ may (mo t) = true then (some (mo t), 0) else (none, 7)
    | _ => (none, 7)
/-- What Get leaves. -/
def Gets (w : World) (s : List UInt8) (e : Ending) (w' : World) : Prop :=
  Below w.heap.size w w' ∧
  ((∃ m, got s = (some m, 0) ∧ ∃ A c, e = .returned (.tuple #[manV m A c, .int .i64 0]) ∧ Nu11.Own w.heap.size m.runs (.slice A m.runs.length c) w') ∨
   (∃ k : Nat, got s = (none, k) ∧ k ≠ 0 ∧ e = .returned (.tuple #[zeroV, .int .i64 (k : Int)])))
theorem one_text {s t : List UInt8} (h : (scan s).1 = [t]) : t.length ≤ 4194304 := by
  by_cases hs : s = []
  · rw [hs, scan_nil] at h; cases h
  · obtain ⟨t', e, hf⟩ : ∃ t' e, first s = (t', e) := ⟨_, _, rfl⟩
    by_cases he : e = 0
    · subst he
      rw [scan_ok hs hf] at h
      have := first_small s t' hf
      injection h with h1 _
      rw [← h1]; exact this
    · rw [scan_why hs hf he] at h; cases h
theorem man_own {B : Nat} {W : World} {m : Man} {A : Option Addr} {c : Nat} (h : Nu11.Own B m.runs (.slice A m.runs.length c) W) (hw : m.wal < 18446744073709551616) (hn : m.next < 18446744073709551616) (hr : ∀ n ∈ m.runs, n < 18446744073709551616) : ManAt W m A c := by
  refine ⟨h.nums, fun h0 => ?_, hw, hn, hr⟩
  rcases h.shape with ⟨e, _⟩ | ⟨g, c', e, _⟩
  · injection e with e1 e2 e3; exact .inl ⟨e1, e3⟩
  · injection e with e1 e2 e3; exact .inr (by rw [e1]; simp)
theorem mo_fits (t : List UInt8) : (mo t).wal < 18446744073709551616 ∧ (mo t).next < 18446744073709551616 ∧ ∀ n ∈ (mo t).runs, n < 18446744073709551616 := ⟨rv_lt _, rv_lt _, rs_fits _ _⟩
theorem own_mono {B B' : Nat} {l : List Nat} {v : Value} {W : World} (h : Nu11.Own B l v W) (hB : B' ≤ B) : Nu11.Own B' l v W := by
  refine ⟨h.1, ?_⟩
  rcases h.2 with h | ⟨g, cap, cur, h1, h2, h3⟩
  · exact .inl h
  · exact .inr ⟨g, cap, cur, h1, Nat.le_trans hB h2, h3⟩
/-- The answer is stored. -/
theorem ans {r : Nat} {w W : World} {x : Array Value} (hB : Below r w W) (h : W.heap[r]? = some (.cells x 36)) (hx : x.size = 3) (a b c : Value) :
    let W' := ((W.setCell ⟨r, 0, none⟩ a).setCell ⟨r, 1, none⟩ b).setCell ⟨r, 2, none⟩ c
    (W'.cell? ⟨r, 0, none⟩ = some a ∧ W'.cell? ⟨r, 1, none⟩ = some b ∧ W'.cell? ⟨r, 2, none⟩ = some c) ∧ Below r w W' ∧ ∀ B l v, r < B → Nu11.Own B l v W → Nu11.Own B l v W' := by
  intro W'
  have hb : W'.heap[r]? = some (.cells (((x.setIfInBounds 0 a).setIfInBounds 1 b).setIfInBounds 2 c) 36) := setCell_heap (setCell_heap (setCell_heap h 0 a) 1 b) 2 c
  refine ⟨⟨?_, ?_, ?_⟩, ((hB.setCell (p := ⟨r, 0, none⟩) (Nat.le_refl _) _).setCell (p := ⟨r, 1, none⟩) (Nat.le_refl _) _).setCell (p := ⟨r, 2, none⟩) (Nat.le_refl _) _, fun B l v hr ho => own_set (own_set (own_set ho hr) hr) hr⟩
  · rw [cell_of hb]; simp [hx]
  · rw [cell_of hb]; simp [hx]
  · rw [cell_of hb]; simp [hx]
theorem zeros {r : Nat} {W : World} (h : W.heap[r]? = some (.cells #[.int .u64 0, .slice none 0 0, .int .u64 0] 36)) :
    (W.cell? ⟨r, 0, none⟩ = some (.int .u64 0) ∧ W.cell? ⟨r, 1, none⟩ = some (.slice none 0 0) ∧ W.cell? ⟨r, 2, none⟩ = some (.int .u64 0)) ∧ ∀ i, W.frozen? ⟨r, i, none⟩ = false :=
  ⟨⟨by rw [cell_of h]; rfl, by rw [cell_of h]; rfl, by rw [cell_of h]; rfl⟩, fun i => free_of h i⟩
set_option maxHeartbeats 8000000 in
set_option maxRecDepth 100000 in
theorem get_any (hsort : Sorts) (s : ByteArray) (w : World) (hm : s.size ≤ 1073741824) :
    Calls Tryz.prog 40 #[.string s] w (Gets w s.data.toList) := by
  have hb0 : Below w.heap.size w (w.alloc (.cells #[.int .u64 0, .slice none 0 0, .int .u64 0] 36)) := (Below.refl _ _).alloc (Nat.le_refl _) _
  have hsc := Fs7.scan_any s (w.alloc (.cells #[.int .u64 0, .slice none 0 0, .int .u64 0] 36)) (by omega)
  have HB0 := Lib.hid hb0
  have HSC := Lib.hid hsc
  clear hb0 hsc
  go_enter Tryz.func40, Tryz.ntmps40
  go_wp2_with fail
  refine HSC.out.mono ?_
  rintro e w1 ⟨A, c, rfl, hown, hb1⟩
  rw [size_alloc] at hown hb1
  have hbx : w1.heap[w.heap.size]? = some (.cells #[.int .u64 0, .slice none 0 0, .int .u64 0] 36) := (hb1.block _ (Nat.lt_succ_self _)).trans (heap_new _ _)
  obtain ⟨L, hL⟩ : ∃ L, L = (scan s.data.toList).1 := ⟨_, rfl⟩
  obtain ⟨k, hk⟩ : ∃ k, k = (scan s.data.toList).2.2 := ⟨_, rfl⟩
  obtain ⟨p, hp⟩ : ∃ p, p = (scan s.data.toList).2.1 := ⟨_, rfl⟩
  have HL := Lib.hid hL
  have HK := Lib.hid hk
  rw [← hL] at hown
  rw [← hL, ← hk, ← hp]
  have HOWN := Lib.hid hown
  have HBX := Lib.hid hbx
  have HB1 := Lib.hid (HB0.out.trans (hb1.mono (Nat.le_succ _)))
  clear hL hk hp hown hbx hb1 HSC
  by_cases hk0 : k = 0
  · have hk0z : (k : Int) = 0 := by omega
    have HK0 := Lib.hid hk0
    by_cases hl1 : L.length = 1
    · obtain ⟨t, rfl⟩ : ∃ t, L = [t] := by
        cases hL : L with
        | nil => rw [hL] at hl1; simp at hl1
        | cons t r => 
          cases hr : r with
          | nil => exact ⟨t, rfl⟩
          | cons u r' => rw [hL, hr] at hl1; simp at hl1
      have hrd := Fs7.rds_of_own HOWN.out
      obtain ⟨gb, go, rfl, hgc⟩ := hrd.at_ (k := 0) (by simp)
      rw [Nat.add_zero] at hgc
      simp only [List.map_cons, List.map_nil, List.getElem_cons_zero] at hgc
      have htl : t.length ≤ 4194304 := one_text (s := s.data.toList) HL.out.symm
      have HMO := Lib.hid (manOf_any (t := t) w1 (by omega))
      have HT := Lib.hid htl
      have HGC := Lib.hid hgc
      clear hrd hl1 htl
      simp only [List.length_cons, List.length_nil]
      go_wp2_with fail
      refine HMO.out.mono ?_
      rintro e w2 ⟨hb2, hc⟩
      have HB2 := Lib.hid (HB1.out.trans (hb2.mono HB1.out.size))
      have HBX2 := Lib.hid ((hb2.block _ (lt_of_at HBX.out)).trans HBX.out)
      have HS1 := Lib.hid HB1.out.size
      clear hb2 hgc HGC HMO
      rcases hc with ⟨hf, htx, A', c', rfl, hown'⟩ | ⟨hn, rfl⟩
      · have HF := Lib.hid hf
        have HTX := Lib.hid htx
        have hat := man_own hown' (mo_fits t).1 (mo_fits t).2.1 (mo_fits t).2.2
        have HOW2 := Lib.hid hown'
        have hlen : (mo t).runs.length ≤ 1000000 := by
          have h1 : (tx (mo t)).length = t.length := by rw [htx]
          rw [tx_len] at h1
          have := HT.out
          omega
        have hba : Below w2.heap.size w2 (w2.alloc (.cells #[.int .u64 ((mo t).wal : Int), .slice A' (mo t).runs.length c', .int .u64 ((mo t).next : Int)] 36)) := (Below.refl _ _).alloc (Nat.le_refl _) _
        have hck := check_any hsort (hat.keep (Nat.le_refl _) hba) hlen
        unfold manV at hck
        have HCK := Lib.hid hck
        have HBA := Lib.hid hba
        have HNEW := Lib.hid (heap_new w2 (.cells #[.int .u64 ((mo t).wal : Int), .slice A' (mo t).runs.length c', .int .u64 ((mo t).next : Int)] 36))
        clear hf htx hat hown' hlen hba hck
        unfold manV
        go_wp2_with fail
        refine HCK.out.mono ?_
        rintro e w3 ⟨rfl, hb3⟩
        have hb3' : Below w2.heap.size w2 w3 := HBA.out.trans (hb3.mono HBA.out.size)
        have HB3 := Lib.hid (HB2.out.trans (hb3'.mono HB2.out.size))
        have HBX3 := Lib.hid ((hb3'.block _ (lt_of_at HBX2.out)).trans HBX2.out)
        have HO3 := Lib.hid (HOW2.out.keep hb3')
        have hnew : w3.heap[w2.heap.size]? = some (.cells #[.int .u64 ((mo t).wal : Int), .slice A' (mo t).runs.length c', .int .u64 ((mo t).next : Int)] 36) := (hb3.block _ (by rw [size_alloc]; exact Nat.lt_succ_self _)).trans HNEW.out
        have n0 : w3.cell? ⟨w2.heap.size, 0, none⟩ = some (.int .u64 ((mo t).wal : Int)) := by rw [cell_of hnew]; rfl
        have n1 : w3.cell? ⟨w2.heap.size, 1, none⟩ = some (.slice A' (mo t).runs.length c') := by rw [cell_of hnew]; rfl
        have n2 : w3.cell? ⟨w2.heap.size, 2, none⟩ = some (.int .u64 ((mo t).next : Int)) := by rw [cell_of hnew]; rfl
        clear hb3 hb3' hnew HCK
        obtain ⟨⟨r0, r1, r2⟩, rf⟩ := zeros HBX3.out
        have rf0 := rf 0
        have rf1 := rf 1
        have rf2 := rf 2
        clear rf
        cases hmay : may (mo t) with
        | false =>
          have he : erg (mo t) = 2 := erg_bad hmay
          have hg : got s.data.toList = (none, 7) := by
            unfold got
            rw [if_neg (by rw [← HK.out, HK0.out]; simp), ← HL.out]
            simp only
            rw [if_neg (fun h => by rw [hmay] at h; cases h.2)]
          have HG := Lib.hid hg
          rw [he]
          clear hg he hmay
          go_wp2
          obtain ⟨⟨z0, z1, z2⟩, zb, _⟩ := ans HB3.out HBX3.out rfl (.int .u64 0) (.slice none 0 0) (.int .u64 0)
          generalize ((w3.setCell ⟨w.heap.size, 0, none⟩ (.int .u64 0)).setCell ⟨w.heap.size, 1, none⟩ (.slice none 0 0)).setCell ⟨w.heap.size, 2, none⟩ (.int .u64 0) = wz at z0 z1 z2 zb ⊢
          refine bodyPost_ret (v := .tuple #[zeroV, .int .i64 7]) (by simp [results, Tryz.results40, go_sem, z0, z1, z2, zeroV]) rfl ?_
          exact ⟨zb, .inr ⟨7, HG.out, by omega, rfl⟩⟩
        | true =>
          have he : erg (mo t) = 0 := by unfold erg; rw [if_pos hmay]
          have hg : got s.data.toList = (some (mo t), 0) := by
            unfold got
            rw [if_neg (by rw [← HK.out, HK0.out]; simp), ← HL.out]
            simp only
            rw [if_pos ⟨⟨HF.out, HTX.out⟩, hmay⟩]
          have HG := Lib.hid hg
          rw [he]
          clear hg he hmay
          go_wp2
          obtain ⟨⟨z0, z1, z2⟩, zb, zo⟩ := ans HB3.out HBX3.out rfl (.int .u64 ((mo t).wal : Int)) (.slice A' (mo t).runs.length c') (.int .u64 ((mo t).next : Int))
          have ho := own_mono (zo _ _ _ (Nat.lt_of_lt_of_le (lt_of_at HBX.out) (Nat.le_refl _)) HO3.out) HS1.out
          have HO := Lib.hid ho
          clear ho zo
          generalize ((w3.setCell ⟨w.heap.size, 0, none⟩ (.int .u64 ((mo t).wal : Int))).setCell ⟨w.heap.size, 1, none⟩ (.slice A' (mo t).runs.length c')).setCell ⟨w.heap.size, 2, none⟩ (.int .u64 ((mo t).next : Int)) = wz at z0 z1 z2 zb HO ⊢
          refine bodyPost_ret (v := .tuple #[manV (mo t) A' c', .int .i64 0]) (by simp [results, Tryz.results40, go_sem, z0, z1, z2, manV]) rfl ?_
          exact ⟨zb, .inl ⟨_, HG.out, A', c', rfl, HO.out⟩⟩
      · have hg : got s.data.toList = (none, 7) := by
          unfold got
          rw [if_neg (by rw [← HK.out, HK0.out]; simp), ← HL.out]
          simp only
          rw [if_neg (fun h => hn h.1)]
        have HG := Lib.hid hg
        clear hn hg
        unfold zeroV
        have HBN := Lib.hid (HB2.out.alloc (HB2.out.size) (.cells #[.int .u64 0, .slice none 0 0, .int .u64 0] 36))
        have HBXN := Lib.hid ((heap_alloc w2 (.cells #[.int .u64 0, .slice none 0 0, .int .u64 0] 36) _ (lt_of_at HBX2.out)).trans HBX2.out)
        obtain ⟨⟨r0, r1, r2⟩, rf⟩ := zeros HBXN.out
        have rf0 := rf 0
        have rf1 := rf 1
        have rf2 := rf 2
        clear rf
        go_wp2
        obtain ⟨⟨z0, z1, z2⟩, zb, _⟩ := ans HBN.out HBXN.out rfl (.int .u64 0) (.slice none 0 0) (.int .u64 0)
        generalize (((w2.alloc (.cells #[.int .u64 0, .slice none 0 0, .int .u64 0] 36)).setCell ⟨w.heap.size, 0, none⟩ (.int .u64 0)).setCell ⟨w.heap.size, 1, none⟩ (.slice none 0 0)).setCell ⟨w.heap.size, 2, none⟩ (.int .u64 0) = wz at z0 z1 z2 zb ⊢
        refine bodyPost_ret (v := .tuple #[zeroV, .int .i64 7]) (by simp [results, Tryz.results40, go_sem, z0, z1, z2, zeroV]) rfl ?_
        exact ⟨zb, .inr ⟨7, HG.out, by omega, rfl⟩⟩
    · have hg : got s.data.toList = (none, 7) := by
        unfold got
        rw [if_neg (by rw [← HK.out, HK0.out]; simp), ← HL.out]
        cases L with
        | nil => rfl
        | cons t r =>
          cases r with
          | nil => simp at hl1
          | cons _ _ => rfl
      have hl1z : ¬ (L.length : Int) = 1 := by omega
      have hl1b : ((L.length : Int) == 1) = false := by simpa using hl1z
      have HG := Lib.hid hg
      clear hg
      obtain ⟨⟨r0, r1, r2⟩, rf⟩ := zeros HBX.out
      have rf0 := rf 0
      have rf1 := rf 1
      have rf2 := rf 2
      clear rf
      go_wp2
      obtain ⟨⟨z0, z1, z2⟩, zb, _⟩ := ans HB1.out HBX.out rfl (.int .u64 0) (.slice none 0 0) (.int .u64 0)
      generalize ((w1.setCell ⟨w.heap.size, 0, none⟩ (.int .u64 0)).setCell ⟨w.heap.size, 1, none⟩ (.slice none 0 0)).setCell ⟨w.heap.size, 2, none⟩ (.int .u64 0) = wz at z0 z1 z2 zb ⊢
      refine bodyPost_ret (v := .tuple #[zeroV, .int .i64 7]) (by simp [results, Tryz.results40, go_sem, z0, z1, z2, zeroV]) rfl ?_
      exact ⟨zb, .inr ⟨7, HG.out, by omega, rfl⟩⟩
  · have hk0z : ¬ (k : Int) = 0 := by omega
    have hkb : ((k : Int) == 0) = false := by simpa using hk0z
    have HK0 := Lib.hid hk0
    obtain ⟨⟨r0, r1, r2⟩, rf⟩ := zeros HBX.out
    have rf0 := rf 0
    have rf1 := rf 1
    have rf2 := rf 2
    clear rf
    go_wp2
    obtain ⟨⟨z0, z1, z2⟩, zb, _⟩ := ans HB1.out HBX.out rfl (.int .u64 0) (.slice none 0 0) (.int .u64 0)
    generalize ((w1.setCell ⟨w.heap.size, 0, none⟩ (.int .u64 0)).setCell ⟨w.heap.size, 1, none⟩ (.slice none 0 0)).setCell ⟨w.heap.size, 2, none⟩ (.int .u64 0) = wz at z0 z1 z2 zb ⊢
    refine bodyPost_ret (v := .tuple #[zeroV, .int .i64 (k : Int)]) (by simp [results, Tryz.results40, go_sem, z0, z1, z2, zeroV]) rfl ?_
    exact ⟨zb, .inr ⟨k, by unfold got; rw [if_pos (by rw [← HK.out]; exact HK0.out), ← HK.out], HK0.out, rfl⟩⟩
end Go.Proofs.YtaoneiicoaiehaaGreat.Pg11
