/- The calls of layer 6's statements, from a world on: facts that a walk takes one by one. -/
import Derived.Test.YtbkaphcipbhmhaaDoorVz
import Derived.Test.YtbkaphcipbhmhaaDoorAl6
namespace Go.Proofs.YtbkaphcipbhmhaaDoor.Lq6
open Go Go.RowKit Go.Proofs Go.Proofs.YtbkaphcipbhmhaaDoor.Wm Go.Proofs.YtbkaphcipbhmhaaDoor.Vm Go.Proofs.YtbkaphcipbhmhaaDoor.Vr Go.Proofs.YtbkaphcipbhmhaaDoor.Vs Go.Proofs.YtbkaphcipbhmhaaDoor.Vc Go.Proofs.YtbkaphcipbhmhaaDoor.Vf Go.Proofs.YtbkaphcipbhmhaaDoor.Vh Go.Proofs.YtbkaphcipbhmhaaDoor.Vz Go.Proofs.YtbkaphcipbhmhaaDoor.Cm Go.Proofs.YtbkaphcipbhmhaaDoor.Kl6 Go.Proofs.YtbkaphcipbhmhaaDoor.Km6 Go.Proofs.YtbkaphcipbhmhaaDoor.Kp6 Go.Proofs.YtbkaphcipbhmhaaDoor.Kh6 Go.Proofs.YtbkaphcipbhmhaaDoor.Al6
def Own (w : World) (l : List V) (N : Nat) (e : Ending) (w' : World) : Prop := ∃ A c, e = .returned (.slice A N c) ∧ Reads w' A l ∧ Below w.heap.size w w'
theorem cells_at {w : World} {ad : Addr} {l : List V} (h : Reads w (some ad) l) : ∀ j u, (cellsV l)[j]? = some u → w.cell? (ad.add j) = some u := by
  intro j u hj
  have hl : l ≠ [] := fun e => by subst e; simp [cellsV] at hj
  obtain ⟨b, o, e, _, _⟩ := h hl
  cases e
  exact reads_cells h j u hj
theorem copy_own (w : World) (A : Option Addr) (c : Nat) (l : List V) (hl : Reads w A l) (hA : LiesAt A c l) (hlen : l.length * 40 ≤ 140737488351232) :
    Calls Tryd.prog 9 #[.slice A l.length c] w (Own w l l.length) := by
  obtain ⟨i0, hi, hz0, hz1, hz2⟩ := info_parts infoV
  rcases hA with ⟨rfl, rfl, rfl⟩ | ⟨ad, rfl⟩
  · go_enter Tryd.func9, Tryd.ntmps9
    go_wp2_with (at_builtin; refine wpList_append_own_none rfl _ _ _ rfl w.heap.size 38 i0 4 Tryd.underlying22 hi _ 0 [] rfl (nil_own w _) rfl ?_)
    go_ret
    exact ⟨none, 0, rfl, Reads.nil _ _, Below.refl _ _⟩
  · have HN := Lib.hid (cells_at hl)
    have HO := Lib.hid (cellsV_one l)
    have HL := Lib.hid (cellsV_len l)
    obtain ⟨N, hN⟩ : ∃ N, N = l.length := ⟨_, rfl⟩
    have H1 := Lib.hid hN
    rw [← hN] at hlen ⊢
    rw [← hN] at HL
    have h63 : 0 + N ≤ maxLen := by unfold maxLen; omega
    have hby : (0 + N) * 40 ≤ 140737488355328 := by omega
    clear hl hN
    go_enter Tryd.func9, Tryd.ntmps9
    go_wp2_with (at_builtin; refine wpList_append_own_at _ rfl _ _ 22 rfl w.heap.size 38 i0 _ 4 40 Tryd.underlying22 hi hz0 hz1 hz2 rfl (by decide) (.slice none 0 0) 0 [] rfl (nil_own w _) ad N c (cellsV l) rfl HL.out HN.out HO.out h63 hby (Nat.le_refl _) ?_; intro v' w' hown hgrow _ _)
    have hown' : w'.ownsRow w.heap.size 38 4 v' l.length (cellsV l) := by
      rw [← H1.out]
      simpa using hown
    obtain ⟨A', c', e', hr⟩ := Vh.Reads.own hown'
    have HB : Hid (Below w.heap.size w w') := Lib.hid ((Below.refl _ _).grown hgrow (Nat.le_refl _) (by simp [Value.ownBlock]))
    have HR := Lib.hid hr
    have HE := Lib.hid e'
    clear hown hown' hgrow hr e'
    go_wp2
    go_ret
    exact ⟨A', c', by rw [H1.out, ← HE.out]; rfl, HR.out, HB.out⟩
/-- A row that the walk may read, from the world w on. -/
structure Lst (w : World) (A : Option Addr) (l : List V) : Prop where
  reads : Reads w A l
  ok : ∀ v ∈ l, v.ok
  len : l.length ≤ 140737488351232
theorem Lst.keep {w w' : World} {A : Option Addr} {l : List V} (h : Lst w A l) (hb : Below w.heap.size w w') : Lst w' A l := ⟨h.reads.keep hb, h.ok, h.len⟩
theorem Lst.texts {w : World} {A : Option Addr} {l : List V} (h : Lst w A l) : Texts l := fun v hv => (h.ok v hv).s
theorem Lst.bits {w : World} {A : Option Addr} {l : List V} (h : Lst w A l) : ∀ v ∈ l, v.r < 18446744073709551616 := fun v hv => (h.ok v hv).r
theorem Lst.of {W : World} {A : Option Addr} {c : Nat} {l : List V} (h : RowAt W A c l) : Lst W A l := ⟨h.reads, h.ok, h.count⟩
theorem q_alive {w : World} (hT : Hid (Tabs w)) : Hid (∀ W', Hid (Below w.heap.size w W') → Calls Tryd.prog 8 #[] W' fun e w' => e = .returned (.bool true) ∧ Below W'.heap.size W' w') :=
  Lib.hid fun W' hb => alive_any W' (hT.out.keep hb.out)
theorem q_put {w : World} {A : Option Addr} {l : List V} (h : Hid (Lst w A l)) (c : Nat) (hT : Hid (Tabs w)) : Hid (∀ W', Hid (Below w.heap.size w W') → Calls Tryd.prog 10 #[.slice A l.length c] W' fun e w' => e = .returned (.tuple #[.string (bs (kputS l)), .int .i64 (erg (mayK l))]) ∧ Below W'.heap.size W' w') :=
  Lib.hid fun W' hb => put_any W' A c l (h.out.reads.keep hb.out) h.out.len h.out.ok (hT.out.keep hb.out)
theorem q_get (s : List UInt8) (hs : s.length ≤ 100000) {w : World} (hT : Hid (Tabs w)) : Hid (∀ W', Hid (Below w.heap.size w W') → Calls Tryd.prog 14 #[.string (bs s)] W' (GotK W' (kget s))) :=
  Lib.hid fun W' hb => get_any s W' hs (hT.out.keep hb.out)
theorem q_same {w : World} {A A' : Option Addr} {l m : List V} (h : Hid (Lst w A l)) (h' : Hid (Lst w A' m)) (c c' : Nat) : Hid (∀ W', Hid (Below w.heap.size w W') → Calls Tryd.prog 11 #[.slice A l.length c, .slice A' m.length c'] W' fun e w' => e = .returned (.bool (same l m)) ∧ Below W'.heap.size W' w') :=
  Lib.hid fun W' hb => refsame_any W' A A' c c' l m (h.out.reads.keep hb.out) (h'.out.reads.keep hb.out) ⟨h.out.len, h'.out.len⟩
theorem q_long {w : World} {A : Option Addr} {l : List V} (h : Hid (Lst w A l)) (c : Nat) : Hid (∀ W', Hid (Below w.heap.size w W') → Calls Tryd.prog 7 #[.slice A l.length c] W' (LongEnd l W')) :=
  Lib.hid fun W' hb => long_any W' A c l (h.out.reads.keep hb.out) h.out.texts h.out.len
theorem q_copy {W w : World} {A : Option Addr} {c : Nat} {l : List V} (h : RowAt W A c l) (hb0 : Below W.heap.size W w) : Hid (∀ W', Hid (Below w.heap.size w W') → Calls Tryd.prog 9 #[.slice A l.length c] W' (Own W' l l.length)) :=
  Lib.hid fun W' hb => copy_own W' A c l (h.reads.keep (hb0.trans (hb.out.mono hb0.size))) h.lies h.len
theorem kput_max {l : List V} (h : mayK l = true) : (kputAll l).length ≤ 1624 := by
  obtain ⟨h1, h2⟩ := mayK_is h
  have := kputAll_len h2
  omega
theorem kget_kput {l : List V} (h : mayK l = true) (hok : ∀ v ∈ l, v.ok) : kget (kputAll l) = some l :=
  reads_put 8 l (mayK_is h).1 (fun v hv => ⟨(mayK_is h).2 v hv, hok v hv⟩)
theorem kget_is {s : List UInt8} {l : List V} (h : kget s = some l) : s = kputAll l ∧ mayK l = true ∧ ∀ v ∈ l, v.ok := by
  obtain ⟨h1, h2, h3⟩ := reads_sound 8 s l h
  exact ⟨h1, is_mayK h2 (fun v hv => (h3 v hv).1), fun v hv => (h3 v hv).2⟩
end Go.Proofs.YtbkaphcipbhmhaaDoor.Lq6
