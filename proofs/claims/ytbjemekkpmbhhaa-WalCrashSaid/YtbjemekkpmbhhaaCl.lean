/- The closures that keep a call that changes: what each does to a disk's files. -/
import Derived.Test.YtbjemekkpmbhhaaCm
import Derived.StillTailTactics
namespace Go.Proofs.Ytbjemekkpmbhhaa.Cl
open Go Go.RowKit Go.Lib Go.Proofs.Ytbjemekkpmbhhaa.Mp Go.Proofs.Ytbjemekkpmbhhaa.Dh Go.Proofs.Ytbjemekkpmbhhaa.Ext Go.Proofs.Ytbjemekkpmbhhaa.Bc Go.Proofs.Ytbjemekkpmbhhaa.Fm Go.Proofs.Ytbjemekkpmbhhaa.Dk
/-- What a call does to the files on one side of a disk. -/
def Did (S : Nat → Prop) (w w' : World) (p : Nat) (d : Dsk) (b : Bool) (c : Cmd) : Prop :=
  ∃ es' c', view es' = Cmd.run (view (d.es b)) c ∧ Ran S w w' p (d.put es' c' b)
abbrev cap1 (v : Value) : Obj := .cells #[v] 9 (0, 0)
abbrev capn (v : Value) : Obj := .cells #[v] 3 (0, 0)
theorem do_app {S : Nat → Prop} {w : World} {p : Nat} {d : Dsk} (b : Bool) (h : DskAt w S p d) (k s : ByteArray) (hok : Cmd.ok (view (d.es b)) (.app k s)) (b1 b2 : Nat) (h1 : w.heap[b1]? = some (cap1 (.string k))) (h2 : w.heap[b2]? = some (cap1 (.string s))) :
    Calls Try.prog 50 #[.pointer (some ⟨p, off b, none⟩), .pointer (some ⟨b1, 0, none⟩), .pointer (some ⟨b2, 0, none⟩)] w fun e w' => e = .returned (.tuple #[]) ∧ Did S w w' p d b (.app k s) := by
  have HC := Lib.hid (Cm.ext_any b h k s hok)
  have c1 : w.cell? ⟨b1, 0, none⟩ = some (.string k) := by rw [cell_of h1]; rfl
  have c2 : w.cell? ⟨b2, 0, none⟩ = some (.string s) := by rw [cell_of h2]; rfl
  clear h h1 h2 hok
  go_enter Try.func50, Try.ntmps50
  go_wp2_with (go_at_call 51; refine HC.out.mono ?_; rintro e w' ⟨rfl, hd⟩; have HD := Lib.hid hd; clear hd)
  go_end0
  exact ⟨rfl, HD.out⟩
theorem do_cut {S : Nat → Prop} {w : World} {p : Nat} {d : Dsk} (b : Bool) (h : DskAt w S p d) (k : ByteArray) (n : Nat) (hok : Cmd.ok (view (d.es b)) (.cut k n)) (hu : used (view (d.es b)) ≤ 16777216) (b1 b2 : Nat) (h1 : w.heap[b1]? = some (cap1 (.string k))) (h2 : w.heap[b2]? = some (capn (.int .i64 n))) :
    Calls Try.prog 42 #[.pointer (some ⟨p, off b, none⟩), .pointer (some ⟨b1, 0, none⟩), .pointer (some ⟨b2, 0, none⟩)] w fun e w' => e = .returned (.tuple #[]) ∧ Did S w w' p d b (.cut k n) := by
  have HC := Lib.hid (Cm.cut_any b h k n hok hu)
  have c1 : w.cell? ⟨b1, 0, none⟩ = some (.string k) := by rw [cell_of h1]; rfl
  have c2 : w.cell? ⟨b2, 0, none⟩ = some (.int .i64 n) := by rw [cell_of h2]; rfl
  clear h h1 h2 hok
  go_enter Try.func42, Try.ntmps42
  go_wp2_with (go_at_call 43; refine HC.out.mono ?_; rintro e w' ⟨rfl, hd⟩; have HD := Lib.hid hd; clear hd)
  go_end0
  exact ⟨rfl, HD.out⟩
theorem do_rem {S : Nat → Prop} {w : World} {p : Nat} {d : Dsk} (b : Bool) (h : DskAt w S p d) (k : ByteArray) (hu : used (view (d.es b)) ≤ 16777216) (b1 : Nat) (h1 : w.heap[b1]? = some (cap1 (.string k))) :
    Calls Try.prog 66 #[.pointer (some ⟨p, off b, none⟩), .pointer (some ⟨b1, 0, none⟩)] w fun e w' => e = .returned (.tuple #[]) ∧ Did S w w' p d b (.rem k) := by
  have HC := Lib.hid (Cm.rem_any b h k hu)
  have c1 : w.cell? ⟨b1, 0, none⟩ = some (.string k) := by rw [cell_of h1]; rfl
  clear h h1
  go_enter Try.func66, Try.ntmps66
  go_wp2_with (go_at_call 67; refine HC.out.mono ?_; rintro e w' ⟨rfl, hd⟩; have HD := Lib.hid hd; clear hd)
  go_end0
  exact ⟨rfl, HD.out⟩
/-- The bytes of which a torn call is done. -/
def torn (s : ByteArray) (n : Int) : ByteArray := s.extract 0 (min n s.size).toNat
theorem torn_size (s : ByteArray) (n : Int) : (torn s n).size ≤ s.size := by simp [torn]; omega
theorem do_torn {S : Nat → Prop} {w : World} {p : Nat} {d : Dsk} (b : Bool) (h : DskAt w S p d) (k s : ByteArray) (n : Int) (hn : 0 < n ∧ n ≤ 9223372036854775807) (hok : Cmd.ok (view (d.es b)) (.app k s)) (b1 b2 : Nat) (h1 : w.heap[b1]? = some (cap1 (.string k))) (h2 : w.heap[b2]? = some (cap1 (.string s))) :
    Calls Try.prog 52 #[.pointer (some ⟨p, off b, none⟩), .int .i64 n, .pointer (some ⟨b1, 0, none⟩), .pointer (some ⟨b2, 0, none⟩)] w fun e w' => e = .returned (.tuple #[]) ∧ Did S w w' p d b (.app k (torn s n)) := by
  have hok' : Cmd.ok (view (d.es b)) (.app k (torn s n)) := by
    have := torn_size s n
    simp only [Cmd.ok] at hok ⊢; omega
  have hsz : s.size ≤ 16777216 := by simp only [Cmd.ok] at hok; omega
  have HC := Lib.hid (Cm.ext_any b (w := w.drew) (⟨h.blk, h.now, h.sure, h.ne, h.wf1, h.wf2, h.texts⟩ : DskAt w.drew S p d) k (torn s n) hok')
  have c1 : w.drew.cell? ⟨b1, 0, none⟩ = some (.string k) := by show w.cell? _ = _; rw [cell_of h1]; rfl
  have c2 : w.drew.cell? ⟨b2, 0, none⟩ = some (.string s) := by show w.cell? _ = _; rw [cell_of h2]; rfl
  have HC0 := HC.out
  clear HC h h1 h2 hok hok'
  have HT := Lib.hid (show torn s n = s.extract 0 (min n s.size).toNat from rfl)
  unfold torn at HC0
  obtain ⟨W, hW⟩ : ∃ W, W = w.drew := ⟨_, rfl⟩
  rw [← hW] at c1 c2 HC0
  have HW := Lib.hid hW
  clear hW
  have hn1 := hn.1
  have hn2 := hn.2
  clear hn
  go_enter Try.func52, Try.ntmps52
  go_wp2
  refine wp_region_still_tail 8 (by kernel_rfl) (by kernel_rfl) ?_
  simp only [List.take_succ_cons, List.take_zero, List.drop_succ_cons, List.drop_zero]
  change wpStill _ _ w.drew _ _ _
  rw [← HW.out]
  by_cases hle : n ≤ s.size
  · have hlt : ¬ (s.size : Int) < n := by omega
    have hn0 : 0 ≤ n := by omega
    rw [show min n (s.size : Int) = n by omega] at HC0 HT
    have HC := Lib.hid HC0
    clear HC0
    repeat (with_reducible refine wpStill_step (fun K hK => ?_); go_simp; with_reducible refine hK _ ?_; clear hK K)
    with_reducible refine wpStill_nil ?_
    change wpList _ _ _ _ _ w.drew
    rw [← HW.out]
    go_wp2_with (go_at_call 51; refine HC.out.mono ?_; rintro e w' ⟨rfl, hd⟩; have HD := Lib.hid hd; clear hd)
    go_end0
    rw [HW.out] at HD
    rw [HT.out]
    obtain ⟨es', c', h1, h2⟩ := HD.out
    exact ⟨rfl, es', c', h1, h2.tread.of_drew, h2.at_, h2.plain⟩
  · have hlt : (s.size : Int) < n := by omega
    rw [show min n (s.size : Int) = s.size by omega] at HC0 HT
    have hx : s.extract 0 (s.size : Int).toNat = s := by simp
    rw [hx] at HC0 HT
    clear hx
    have HC := Lib.hid HC0
    clear HC0
    repeat (with_reducible refine wpStill_step (fun K hK => ?_); go_simp; with_reducible refine hK _ ?_; clear hK K)
    with_reducible refine wpStill_nil ?_
    change wpList _ _ _ _ _ w.drew
    rw [← HW.out]
    go_wp2_with (go_at_call 51; refine HC.out.mono ?_; rintro e w' ⟨rfl, hd⟩; have HD := Lib.hid hd; clear hd)
    go_end0
    rw [HW.out] at HD
    rw [HT.out]
    obtain ⟨es', c', h1, h2⟩ := HD.out
    exact ⟨rfl, es', c', h1, h2.tread.of_drew, h2.at_, h2.plain⟩
end Go.Proofs.Ytbjemekkpmbhhaa.Cl
