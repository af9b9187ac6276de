/- ValueMay: which way a value and a row go. -/
import Derived.Test.YtjkfgchjdhgbgaaDoorVy
namespace Go.Proofs.YtjkfgchjdhgbgaaDoor.Vyw
open Go Go.RowKit Go.Proofs.YtjkfgchjdhgbgaaDoor.Vm Go.Proofs.YtjkfgchjdhgbgaaDoor.Vl Go.Proofs.YtjkfgchjdhgbgaaDoor.Ve Go.Proofs.YtjkfgchjdhgbgaaDoor.Vr Go.Proofs.YtjkfgchjdhgbgaaDoor.Vs Go.Proofs.YtjkfgchjdhgbgaaDoor.Vc Go.Proofs.YtjkfgchjdhgbgaaDoor.Vk Go.Proofs.YtjkfgchjdhgbgaaDoor.Vf Go.Proofs.YtjkfgchjdhgbgaaDoor.Vh Go.Proofs.YtjkfgchjdhgbgaaDoor.Vy Go.Proofs.YtjkfgchjdhgbgaaDoor.Vz
theorem cells_at {w : World} {ad : Addr} {l : List V} (h : Reads w (some ad) l) : ∀ j u, (cellsV l)[j]? = some u → w.cell? (ad.add j) = some u := by
  intro j u hj
  have hl : l ≠ [] := fun e => by subst e; simp [cellsV] at hj
  obtain ⟨b, o, e, _, _⟩ := h hl
  cases e
  exact reads_cells h j u hj
theorem copy_own (w : World) (A : Option Addr) (c : Nat) (l : List V) (hl : Reads w A l) (hA : LiesAt A c l) (hlen : l.length * 40 ≤ 140737488351232) :
    Calls Tryd.prog 9 #[.slice A l.length c] w (Vy.Own w l l.length) := by
  obtain ⟨i0, hi, hz0, hz1, hz2⟩ := info_parts infoV
  rcases hA with ⟨rfl, rfl, rfl⟩ | ⟨ad, rfl⟩
  · go_enter Tryd.func9, Tryd.ntmps9
    go_wp2_with (at_builtin; refine wpList_append_own_none rfl _ _ _ rfl w.heap.size 24 i0 4 Tryd.underlying25 hi _ 0 [] rfl (nil_own w _) rfl ?_)
    go_ret
    exact ⟨none, 0, rfl, Reads.nil _ _, Below.refl _ _⟩
  · have HN := Lib.hid (cells_at hl)
    have HO := Lib.hid (cellsV_one l)
    have HL := Lib.hid (cellsV_len l)
    obtain ⟨N, hN⟩ : ∃ N, N = l.length := ⟨_, rfl⟩
    have H1 := Lib.hid hN
    rw [← hN] at hlen ⊢
    rw [← hN] at HL
    have h63 : 0 + N ≤ maxLen := by unfold maxLen; omega
    have hby : (0 + N) * 40 ≤ 140737488355328 := by omega
    clear hl hN
    go_enter Tryd.func9, Tryd.ntmps9
    go_wp2_with (at_builtin; refine wpList_append_own_at _ rfl _ _ 25 rfl w.heap.size 24 i0 _ 4 40 Tryd.underlying25 hi hz0 hz1 hz2 rfl (by decide) (.slice none 0 0) 0 [] rfl (nil_own w _) ad N c (cellsV l) rfl HL.out HN.out HO.out h63 hby (Nat.le_refl _) ?_; intro v' w' hown hgrow _ _)
    have hown' : w'.ownsRow w.heap.size 24 4 v' l.length (cellsV l) := by
      rw [← H1.out]
      simpa using hown
    obtain ⟨A', c', e', hr⟩ := Vh.Reads.own hown'
    have HB : Hid (Below w.heap.size w w') := Lib.hid ((Below.refl _ _).grown hgrow (Nat.le_refl _) (by simp [Value.ownBlock]))
    have HR := Lib.hid hr
    have HE := Lib.hid e'
    clear hown hown' hgrow hr e'
    go_wp2
    go_ret
    exact ⟨A', c', by rw [H1.out, ← HE.out]; rfl, HR.out, HB.out⟩
theorem walk (v : V) (A : Option Addr) (c : Nat) (l : List V) (W : World) (hv : v.ok) (hl : RowAt W A c l) (hT : Tabs W) :
    Calls Tryd.prog 3 #[vv v, .slice A l.length c] W fun e w' => e = .returned (.bool true) ∧ Below W.heap.size W w' := by
  have HL : Hid (∀ W', Below W.heap.size W W' → Calls Tryd.prog 7 #[.slice A l.length c] W' (Vy.Told W')) := Lib.hid fun W' hW =>
    (long_any W' A c l (hl.reads.keep hW) hl.texts hl.count).mono fun _ _ ⟨r, h1, _, h3⟩ => ⟨r, h1, h3⟩
  have AL : Hid (∀ W', Below W.heap.size W W' → Calls Tryd.prog 8 #[] W' fun e w' => e = .returned (.bool true) ∧ Below W'.heap.size W' w') := Lib.hid fun W' hW => Va.alive W' (hT.keep hW)
  by_cases h1 : (16384 : Int) < (v.s.size : Int)
  · exact w_text v.k v.n v.r v.s A c l.length W HL AL h1
  have HC : Hid (∀ W', Below W.heap.size W W' → Calls Tryd.prog 9 #[.slice A l.length c] W' (Vy.Own W' l l.length)) := Lib.hid fun W' hW => copy_own W' A c l (hl.reads.keep hW) hl.lies hl.len
  have QC : ∀ b, may v = b → Hid (∀ W', Below W.heap.size W W' → Calls Tryd.prog 10 #[.agg #[.int .u8 v.k, .int .i64 v.n, .int .u64 (v.r : Int), .string v.s]] W' fun e w' => e = .returned (.int .i64 (erg b)) ∧ Below W'.heap.size W' w') :=
    fun b hb => Lib.hid fun W' hW => by rw [← hb]; exact check_any v W' (hT.keep hW) hv.s
  have QM : ∀ b, may v = b → Hid (∀ W', Below W.heap.size W W' → Calls Tryd.prog 11 #[.agg #[.int .u8 v.k, .int .i64 v.n, .int .u64 (v.r : Int), .string v.s]] W' fun e w' => e = .returned (.bool b) ∧ Below W'.heap.size W' w') :=
    fun b hb => Lib.hid fun W' hW => by rw [← hb]; exact refmay_any v W' (hT.keep hW) hv.r hv.s
  have GR : ∀ b, mayRow l = b → Hid (∀ W' A' c', Reads W' A' l → Below W.heap.size W W' → Calls Tryd.prog 12 #[.slice A' l.length c'] W' fun e w' => e = .returned (.int .i64 (erg b)) ∧ Below W'.heap.size W' w') :=
    fun b hb => Lib.hid fun W' A' c' hr hW => by rw [← hb]; exact row_any W' A' c' l hr hl.count hl.texts (hT.keep hW)
  have QR : ∀ b, mayRow l = b → Hid (∀ W', Below W.heap.size W W' → Calls Tryd.prog 13 #[.slice A l.length c] W' fun e w' => e = .returned (.bool b) ∧ Below W'.heap.size W' w') :=
    fun b hb => Lib.hid fun W' hW => by rw [← hb]; exact refrow_any W' A c l (hl.reads.keep hW) hl.count hl.texts hl.bits (hT.keep hW)
  have GS : Hid (∀ W' A' c', Reads W' A' l → Below W.heap.size W W' → Calls Tryd.prog 14 #[.slice A' l.length c', .slice A l.length c] W' fun e w' => e = .returned (.bool true) ∧ Below W'.heap.size W' w') :=
    Lib.hid fun W' A' c' hr hW => by
      have h := refsame_any W' A' A c' c l l hr (hl.reads.keep hW) ⟨hl.count, hl.count⟩
      rw [same_self] at h
      exact h
  cases hb : may v <;> cases hr : mayRow l
  · exact w_ff v.k v.n v.r v.s A c l.length l W HL AL h1 HC (QC _ hb) (QM _ hb) (GR _ hr) (QR _ hr) GS
  · exact w_fo v.k v.n v.r v.s A c l.length l W HL AL h1 HC (QC _ hb) (QM _ hb) (GR _ hr) (QR _ hr) GS
  · exact w_of v.k v.n v.r v.s A c l.length l W HL AL h1 HC (QC _ hb) (QM _ hb) (GR _ hr) (QR _ hr) GS
  · exact w_oo v.k v.n v.r v.s A c l.length l W HL AL h1 HC (QC _ hb) (QM _ hb) (GR _ hr) (QR _ hr) GS
end Go.Proofs.YtjkfgchjdhgbgaaDoor.Vyw
