/- The calls of layer 5's statements, from a world on: facts that a walk takes one by one. -/
import Derived.Test.YthoiolihkomgmaaDoorVz
import Derived.Test.YthoiolihkomgmaaDoorAl5
import Derived.Test.YthoiolihkomgmaaDoorQf5
namespace Go.Proofs.YthoiolihkomgmaaDoor.Lq5
open Go Go.RowKit Go.Proofs Go.Proofs.YthoiolihkomgmaaDoor.Wm Go.Proofs.YthoiolihkomgmaaDoor.Vm Go.Proofs.YthoiolihkomgmaaDoor.Vr Go.Proofs.YthoiolihkomgmaaDoor.Vs Go.Proofs.YthoiolihkomgmaaDoor.Vc Go.Proofs.YthoiolihkomgmaaDoor.Vf Go.Proofs.YthoiolihkomgmaaDoor.Vh Go.Proofs.YthoiolihkomgmaaDoor.Vz Go.Proofs.YthoiolihkomgmaaDoor.Cm Go.Proofs.YthoiolihkomgmaaDoor.Pv5 Go.Proofs.YthoiolihkomgmaaDoor.Rv5 Go.Proofs.YthoiolihkomgmaaDoor.Rr5 Go.Proofs.YthoiolihkomgmaaDoor.Rs5 Go.Proofs.YthoiolihkomgmaaDoor.Pw5 Go.Proofs.YthoiolihkomgmaaDoor.Qf5 Go.Proofs.YthoiolihkomgmaaDoor.Al5
def Own (w : World) (l : List V) (N : Nat) (e : Ending) (w' : World) : Prop := ∃ A c, e = .returned (.slice A N c) ∧ Reads w' A l ∧ Below w.heap.size w w'
theorem cells_at {w : World} {ad : Addr} {l : List V} (h : Reads w (some ad) l) : ∀ j u, (cellsV l)[j]? = some u → w.cell? (ad.add j) = some u := by
  intro j u hj
  have hl : l ≠ [] := fun e => by subst e; simp [cellsV] at hj
  obtain ⟨b, o, e, _, _⟩ := h hl
  cases e
  exact reads_cells h j u hj
theorem copy_own (w : World) (A : Option Addr) (c : Nat) (l : List V) (hl : Reads w A l) (hA : LiesAt A c l) (hlen : l.length * 40 ≤ 140737488351232) :
    Calls Tryd.prog 9 #[.slice A l.length c] w (Own w l l.length) := by
  obtain ⟨i0, hi, hz0, hz1, hz2⟩ := info_parts infoV
  rcases hA with ⟨rfl, rfl, rfl⟩ | ⟨ad, rfl⟩
  · go_enter Tryd.func9, Tryd.ntmps9
    go_wp2_with (at_builtin; refine wpList_append_own_none rfl _ _ _ rfl w.heap.size 24 i0 4 Tryd.underlying25 hi _ 0 [] rfl (nil_own w _) rfl ?_)
    go_ret
    exact ⟨none, 0, rfl, Reads.nil _ _, Below.refl _ _⟩
  · have HN := Lib.hid (cells_at hl)
    have HO := Lib.hid (cellsV_one l)
    have HL := Lib.hid (cellsV_len l)
    obtain ⟨N, hN⟩ : ∃ N, N = l.length := ⟨_, rfl⟩
    have H1 := Lib.hid hN
    rw [← hN] at hlen ⊢
    rw [← hN] at HL
    have h63 : 0 + N ≤ maxLen := by unfold maxLen; omega
    have hby : (0 + N) * 40 ≤ 140737488355328 := by omega
    clear hl hN
    go_enter Tryd.func9, Tryd.ntmps9
    go_wp2_with (at_builtin; refine wpList_append_own_at _ rfl _ _ 25 rfl w.heap.size 24 i0 _ 4 40 Tryd.underlying25 hi hz0 hz1 hz2 rfl (by decide) (.slice none 0 0) 0 [] rfl (nil_own w _) ad N c (cellsV l) rfl HL.out HN.out HO.out h63 hby (Nat.le_refl _) ?_; intro v' w' hown hgrow _ _)
    have hown' : w'.ownsRow w.heap.size 24 4 v' l.length (cellsV l) := by
      rw [← H1.out]
      simpa using hown
    obtain ⟨A', c', e', hr⟩ := Vh.Reads.own hown'
    have HB : Hid (Below w.heap.size w w') := Lib.hid ((Below.refl _ _).grown hgrow (Nat.le_refl _) (by simp [Value.ownBlock]))
    have HR := Lib.hid hr
    have HE := Lib.hid e'
    clear hown hown' hgrow hr e'
    go_wp2
    go_ret
    exact ⟨A', c', by rw [H1.out, ← HE.out]; rfl, HR.out, HB.out⟩
/-- A row that the walk may read, from the world w on. -/
structure Row (w : World) (A : Option Addr) (l : List V) : Prop where
  reads : Reads w A l
  ok : ∀ v ∈ l, v.ok
  len : l.length ≤ 140737488351232
theorem Row.keep {w w' : World} {A : Option Addr} {l : List V} (h : Row w A l) (hb : Below w.heap.size w w') : Row w' A l := ⟨h.reads.keep hb, h.ok, h.len⟩
theorem Row.texts {w : World} {A : Option Addr} {l : List V} (h : Row w A l) : Texts l := fun v hv => (h.ok v hv).s
theorem Row.bits {w : World} {A : Option Addr} {l : List V} (h : Row w A l) : ∀ v ∈ l, v.r < 18446744073709551616 := fun v hv => (h.ok v hv).r
theorem Row.of {W : World} {A : Option Addr} {c : Nat} {l : List V} (h : RowAt W A c l) : Row W A l := ⟨h.reads, h.ok, h.count⟩
theorem q_alive {w : World} (hT : Hid (Tabs w)) : Hid (∀ W', Hid (Below w.heap.size w W') → Calls Tryd.prog 8 #[] W' fun e w' => e = .returned (.bool true) ∧ Below W'.heap.size W' w') :=
  Lib.hid fun W' hb => alive_any W' (hT.out.keep hb.out)
theorem q_put (k n : Int) (r : Nat) (s : ByteArray) (hv : V.ok ⟨k, n, r, s⟩) {w : World} (hT : Hid (Tabs w)) : Hid (∀ W', Hid (Below w.heap.size w W') → Calls Tryd.prog 10 #[.agg #[.int .u8 k, .int .i64 n, .int .u64 (r : Int), .string s]] W' fun e w' => e = .returned (.tuple #[.string (bs (putS ⟨k, n, r, s⟩)), .int .i64 (erg (may ⟨k, n, r, s⟩))]) ∧ Below W'.heap.size W' w') :=
  Lib.hid fun W' hb => put_any ⟨k, n, r, s⟩ W' (hT.out.keep hb.out) hv.s hv.r
theorem q_may (k n : Int) (r : Nat) (s : ByteArray) (hv : V.ok ⟨k, n, r, s⟩) {w : World} (hT : Hid (Tabs w)) : Hid (∀ W', Hid (Below w.heap.size w W') → Calls Tryd.prog 13 #[.agg #[.int .u8 k, .int .i64 n, .int .u64 (r : Int), .string s]] W' fun e w' => e = .returned (.bool (may ⟨k, n, r, s⟩)) ∧ Below W'.heap.size W' w') :=
  Lib.hid fun W' hb => refmay_any ⟨k, n, r, s⟩ W' (hT.out.keep hb.out) hv.r hv.s
theorem q_refput (k n : Int) (r : Nat) (s : ByteArray) (hv : V.ok ⟨k, n, r, s⟩) (hm : may ⟨k, n, r, s⟩ = true) (w : World) : Hid (∀ W', Hid (Below w.heap.size w W') → Calls Tryd.prog 15 #[.agg #[.int .u8 k, .int .i64 n, .int .u64 (r : Int), .string s]] W' fun e w' => e = .returned (.string (bs (put ⟨k, n, r, s⟩))) ∧ Below W'.heap.size W' w') :=
  Lib.hid fun W' _ => refput_any ((may_is _).1 hm) W' hv.r
theorem q_putRow {w : World} {A : Option Addr} {l : List V} (h : Hid (Row w A l)) (c : Nat) (hT : Hid (Tabs w)) : Hid (∀ W', Hid (Below w.heap.size w W') → Calls Tryd.prog 11 #[.slice A l.length c] W' fun e w' => e = .returned (.tuple #[.string (bs (putRowS l)), .int .i64 (erg (mayRow l))]) ∧ Below W'.heap.size W' w') :=
  Lib.hid fun W' hb => putRow_any W' A c l (h.out.reads.keep hb.out) h.out.len h.out.texts h.out.bits (hT.out.keep hb.out)
theorem q_row {w : World} {A : Option Addr} {l : List V} (h : Hid (Row w A l)) (c : Nat) (hT : Hid (Tabs w)) : Hid (∀ W', Hid (Below w.heap.size w W') → Calls Tryd.prog 14 #[.slice A l.length c] W' fun e w' => e = .returned (.bool (mayRow l)) ∧ Below W'.heap.size W' w') :=
  Lib.hid fun W' hb => refrow_any W' A c l (h.out.reads.keep hb.out) h.out.len h.out.texts h.out.bits (hT.out.keep hb.out)
theorem q_refputRow {w : World} {A : Option Addr} {l : List V} (h : Hid (Row w A l)) (c : Nat) (hm : mayRow l = true) : Hid (∀ W', Hid (Below w.heap.size w W') → Calls Tryd.prog 16 #[.slice A l.length c] W' fun e w' => e = .returned (.string (bs (putRow l))) ∧ Below W'.heap.size W' w') :=
  Lib.hid fun W' hb => refputRow_any W' A c l (h.out.reads.keep hb.out) hm h.out.bits
theorem q_same {w : World} {A A' : Option Addr} {l m : List V} (h : Hid (Row w A l)) (h' : Hid (Row w A' m)) (c c' : Nat) : Hid (∀ W', Hid (Below w.heap.size w W') → Calls Tryd.prog 12 #[.slice A l.length c, .slice A' m.length c'] W' fun e w' => e = .returned (.bool (same l m)) ∧ Below W'.heap.size W' w') :=
  Lib.hid fun W' hb => refsame_any W' A A' c c' l m (h.out.reads.keep hb.out) (h'.out.reads.keep hb.out) ⟨h.out.len, h'.out.len⟩
theorem q_long {w : World} {A : Option Addr} {l : List V} (h : Hid (Row w A l)) (c : Nat) : Hid (∀ W', Hid (Below w.heap.size w W') → Calls Tryd.prog 7 #[.slice A l.length c] W' (LongEnd l W')) :=
  Lib.hid fun W' hb => long_any W' A c l (h.out.reads.keep hb.out) h.out.texts h.out.len
theorem q_copy {W w : World} {A : Option Addr} {c : Nat} {l : List V} (h : RowAt W A c l) (hb0 : Below W.heap.size W w) : Hid (∀ W', Hid (Below w.heap.size w W') → Calls Tryd.prog 9 #[.slice A l.length c] W' (Own W' l l.length)) :=
  Lib.hid fun W' hb => copy_own W' A c l (h.reads.keep (hb0.trans (hb.out.mono hb0.size))) h.lies h.len
theorem q_getRow (s : List UInt8) (hs : s.length ≤ 80000) {w : World} (hT : Hid (Tabs w)) : Hid (∀ W', Hid (Below w.heap.size w W') → Calls Tryd.prog 19 #[.string (bs s)] W' (RowGot W' s (Cm.row s))) :=
  Lib.hid fun W' hb => getRow_any s W' hs (hT.out.keep hb.out) (tabs_lt (hT.out.keep hb.out))
theorem same_self (l : List V) : same l l = true := same_iff.2 rfl
end Go.Proofs.YthoiolihkomgmaaDoor.Lq5
