/- The contract of wal's Open. The contract of wal's Open: the walk. -/
import Derived.Test.YtbjemekkpmbhhaaW8a
import Derived.Test.YtbjemekkpmbhhaaRp
import Derived.Test.YtbjemekkpmbhhaaFs7
import Derived.OwnWalk
import Derived.Deep.QuietTactic
import Derived.BigQuiet
namespace Go.Proofs.Ytbjemekkpmbhhaa.Wo8
open Go Go.RowKit Go.Lib Go.Proofs.Ytbjemekkpmbhhaa.Dh Go.Proofs.Ytbjemekkpmbhhaa.Fm Go.Proofs.Ytbjemekkpmbhhaa.Dk Go.Proofs.Ytbjemekkpmbhhaa.St Go.Proofs.Ytbjemekkpmbhhaa.Fl7 Go.Proofs.Ytbjemekkpmbhhaa.Fs7 Go.Proofs.Ytbjemekkpmbhhaa.Fo8 Go.Proofs.Ytbjemekkpmbhhaa.Wl8 Go.Proofs.Ytbjemekkpmbhhaa.Wa8 Go.Proofs.Ytbjemekkpmbhhaa.Wp8 Go.Proofs.Ytbjemekkpmbhhaa.Wr8
def boxD (p : Nat) : Obj := .cells #[.pointer (some ⟨p, 0, none⟩)] 25 (0, 0)
def boxI (n : Nat) : Obj := .cells #[.int .i64 (n : Int)] 3 (0, 0)
def boxE (n : Nat) : Obj := .cells #[.int .i64 (n : Int)] 26 (0, 0)
/-- What the cut of an opening is: where the end is torn the file is cut to what is good. -/
def cutS (k : ByteArray) (D : St) (n e : Nat) : Int × St := if e = 70 then stTruncate D k (n : Int) else (0, D)
/-- What the sync of an opening is: where something is loose. -/
def syncS (D : St) : Int × St := if D.loose = [] then (0, D) else stSync D
theorem cut_step {w : World} {S : Nat → Prop} {p be bd bk bg n e : Nat} {k : ByteArray} {D : St} (h : Full w S p D) (h1 : w.heap[be]? = some (boxE e)) (h2 : w.heap[bd]? = some (boxD p)) (h3 : w.heap[bk]? = some (boxS k)) (h4 : w.heap[bg]? = some (boxI n))
    (hk : k.size ≤ maxLen) (hn : n ≤ 9223372036854775807) (hlen : D.loose.length ≤ 1099511627776) :
    Calls Try.prog 23 #[pt be, pt bd, pt bk, pt bg] w fun en w' => en = .returned (.int .i64 (cutS k D n e).1) ∧ To S w w' p (cutS k D n e).2 := by
  have c1 : w.cell? ⟨be, 0, none⟩ = some (.int .i64 (e : Int)) := cell_of h1 0
  have c2 : w.cell? ⟨bd, 0, none⟩ = some (.pointer (some ⟨p, 0, none⟩)) := cell_of h2 0
  have c3 : w.cell? ⟨bk, 0, none⟩ = some (.string k) := cell_of h3 0
  have c4 : w.cell? ⟨bg, 0, none⟩ = some (.int .i64 (n : Int)) := cell_of h4 0
  unfold cutS
  by_cases he : e = 70
  · rw [if_pos he]
    have hz : ((e : Int) != 70) = false := by rw [he]; rfl
    have HC := Lib.hid (Tr.truncate_any h k n hk ⟨by omega, by omega⟩ hlen)
    clear h h1 h2 h3 h4 he
    go_enter Try.func23, Try.ntmps23
    go_wp2_with (go_at_call 24; refine HC.out.mono ?_; rintro en w' ⟨rfl, hd⟩; have HD := Lib.hid hd; clear hd)
    go_ret
    exact ⟨rfl, HD.out⟩
  · rw [if_neg he]
    have hz : ((e : Int) != 70) = true := by
      have : (e : Int) ≠ 70 := by omega
      simpa using this
    have HD := Lib.hid (To.refl h)
    clear h h1 h2 h3 h4 he
    go_enter Try.func23, Try.ntmps23
    go_wp2
    go_ret
    exact ⟨rfl, HD.out⟩
theorem sync_step {w : World} {S : Nat → Prop} {p bd : Nat} {D : St} (h : Full w S p D) (h2 : w.heap[bd]? = some (boxD p)) (hlen : D.loose.length ≤ 1099511627776) :
    Calls Try.prog 25 #[pt bd] w fun en w' => en = .returned (.int .i64 (syncS D).1) ∧ To S w w' p (syncS D).2 := by
  have c2 : w.cell? ⟨bd, 0, none⟩ = some (.pointer (some ⟨p, 0, none⟩)) := cell_of h2 0
  have HL := Lib.hid (Sy.loose_any h hlen)
  unfold syncS
  by_cases he : D.loose = []
  · rw [if_pos he]
    have hz : ((D.loose.length : Int) == 0) = true := by rw [he]; rfl
    have HD := Lib.hid (To.refl h)
    clear h h2 he
    go_enter Try.func25, Try.ntmps25
    go_wp2_with fail
    refine HL.out.mono ?_
    rintro en w1 ⟨rfl, rfl⟩
    go_wp2
    go_ret
    exact ⟨rfl, HD.out⟩
  · rw [if_neg he]
    have hz : ((D.loose.length : Int) == 0) = false := by
      rw [beq_eq_false_iff_ne]
      intro hx
      exact he (List.length_eq_zero_iff.1 (by omega))
    have HC := Lib.hid (Sy.sync_any h hlen)
    clear h h2 he
    go_enter Try.func25, Try.ntmps25
    go_wp2_with fail
    refine HL.out.mono ?_
    rintro en w1 ⟨rfl, rfl⟩
    go_wp2_with (go_at_call 27; refine HC.out.mono ?_; rintro en w' ⟨rfl, hd⟩; have HD := Lib.hid hd; clear hd)
    go_ret
    exact ⟨rfl, HD.out⟩
theorem cut_loose (D : St) (k : ByteArray) (n e : Nat) : (cutS k D n e).2.loose.length ≤ D.loose.length + 1 := by
  unfold cutS stTruncate
  split
  · split
    · simp
    · split
      · simp
      · split
        · simp
        · split
          · simp
          · split
            · simp
            · exact doing_loose D _
  · simp
def opensOf (be bd bk bg : Nat) : Obj := .cells #[.func (.func 23) #[] #[pt be, pt bd, pt bk, pt bg], .func (.func 25) #[] #[pt bd]] 73 (0, 0)
/-- What the steps of an opening answer and leave. -/
def stepsS (k : ByteArray) (D : St) (n e : Nat) : Int × St := if (cutS k D n e).1 ≠ 0 then cutS k D n e else syncS (cutS k D n e).2
theorem open_tail {W : World} {S : Nat → Prop} {p be bd bk bg bc n e : Nat} {k : ByteArray} {D : St} (h : Full W S p D)
    (h1 : W.heap[be]? = some (boxE e)) (h2 : W.heap[bd]? = some (boxD p)) (h3 : W.heap[bk]? = some (boxS k)) (h4 : W.heap[bg]? = some (boxI n)) (hc : W.heap[bc]? = some (opensOf be bd bk bg)) (nd : ¬ S bd) (nc : ¬ S bc)
    (hk : k.size ≤ maxLen) (hn : n ≤ 9223372036854775807) (hlen : D.loose.length ≤ 1099511627000) :
    Calls Try.prog 22 #[.slice (some ⟨bc, 0, none⟩) 2 2] W fun en W' => en = .returned (.int .i64 (stepsS k D n e).1) ∧ To S W W' p (stepsS k D n e).2 := by
  have hal := cut_loose D k n e
  unfold stepsS
  obtain ⟨a, ha⟩ : ∃ a, a = cutS k D n e := ⟨_, rfl⟩
  rw [← ha] at hal ⊢
  obtain ⟨s, hsy⟩ : ∃ s, s = syncS a.2 := ⟨_, rfl⟩
  rw [← hsy]
  let Q : Nat → World → Prop := fun i V => match i with
    | 0 => V = W
    | 1 => a.1 = 0 ∧ To S W V p a.2
    | _ => a.1 = 0 ∧ s.1 = 0 ∧ To S W V p s.2
  let J : Int → World → Prop := fun r V => (r ≠ 0 ∧ a.1 = r ∧ To S W V p a.2) ∨ (r ≠ 0 ∧ a.1 = 0 ∧ s.1 = r ∧ To S W V p s.2)
  have hstep : ∀ i, i < 2 → ∀ V, Q i V → StepAt bc i (Q (i + 1)) J V := by
    intro i hi V hv
    rcases i with _ | _ | i
    · obtain rfl : V = W := hv
      refine ⟨_, _, _, (cell_of hc 0).trans rfl, fun _ _ => by go_simp, ?_⟩
      refine (cut_step h h1 h2 h3 h4 hk hn (by omega)).mono ?_
      rintro en V' ⟨rfl, ht⟩
      rw [← ha] at ht ⊢
      refine ⟨_, rfl, ?_⟩
      by_cases hz : a.1 = 0
      · exact .inl ⟨hz, hz, ht⟩
      · exact .inr ⟨hz, .inl ⟨hz, rfl, ht⟩⟩
    · obtain ⟨ha0, ht⟩ : a.1 = 0 ∧ To S W V p a.2 := hv
      refine ⟨_, _, _, (cell_of (To.keep ht hc nc) 1).trans rfl, fun _ _ => by go_simp, ?_⟩
      refine (sync_step ht.2 (To.keep ht h2 nd) (by omega)).mono ?_
      rintro en V' ⟨rfl, ht2⟩
      rw [← hsy] at ht2 ⊢
      have ht3 := To.trans ht ht2
      refine ⟨_, rfl, ?_⟩
      by_cases hz : s.1 = 0
      · exact .inl ⟨hz, ha0, hz, ht3⟩
      · exact .inr ⟨hz, .inr ⟨hz, ha0, rfl, ht3⟩⟩
    · omega
  refine (follow_any 2 bc 2 (by omega) Q J hstep W rfl).mono ?_
  rintro en V ⟨r, rfl, ⟨rfl, hv⟩ | ⟨hr, hj⟩⟩
  · obtain ⟨ha0, hs0, ht⟩ : a.1 = 0 ∧ s.1 = 0 ∧ To S W V p s.2 := hv
    rw [if_neg (fun x => x ha0), hs0]
    exact ⟨rfl, ht⟩
  · rcases hj with ⟨hz, hra, ht⟩ | ⟨hz, ha0, hrs, ht⟩
    · subst hra
      rw [if_pos hz]
      exact ⟨rfl, ht⟩
    · subst hrs
      rw [if_neg (fun x => x ha0)]
      exact ⟨rfl, ht⟩
end Go.Proofs.Ytbjemekkpmbhhaa.Wo8
namespace Go.Proofs.Ytbjemekkpmbhhaa.Wq8
open Go Go.RowKit Go.Lib Go.Proofs.Ytbjemekkpmbhhaa.Dh Go.Proofs.Ytbjemekkpmbhhaa.Fm Go.Proofs.Ytbjemekkpmbhhaa.Dk Go.Proofs.Ytbjemekkpmbhhaa.Cl Go.Proofs.Ytbjemekkpmbhhaa.St Go.Proofs.Ytbjemekkpmbhhaa.Rd Go.Proofs.Ytbjemekkpmbhhaa.Fl7 Go.Proofs.Ytbjemekkpmbhhaa.Fs7 Go.Proofs.Ytbjemekkpmbhhaa.Fo8 Go.Proofs.Ytbjemekkpmbhhaa.Wl8 Go.Proofs.Ytbjemekkpmbhhaa.Wa8 Go.Proofs.Ytbjemekkpmbhhaa.Wp8 Go.Proofs.Ytbjemekkpmbhhaa.Wr8 Go.Proofs.Ytbjemekkpmbhhaa.Wo8
theorem below3 (w : World) (a b c : Obj) : Below w.heap.size w (((w.alloc a).alloc b).alloc c) := (sized w a b).alloc (by rw [size_alloc, size_alloc]; omega) _
theorem to_below {w w' : World} {S : Nat → Prop} {p : Nat} {D : St} (h : Full w S p D) (hb : Below w.heap.size w w') : To S w w' p D := ⟨tread_below S hb, (full_below h hb).up grow_up⟩
/-- What an opening that failed leaves. -/
def Failed (S : Nat → Prop) (w : World) (p : Nat) (r : Int) (D' : St) (e : Ending) (w' : World) : Prop :=
  e = .returned (.tuple #[.pointer none, .slice none 0 0, .int .i64 r]) ∧ To S w w' p D'
/-- The read failed. -/
theorem open_unread {w : World} {S : Nat → Prop} {p : Nat} {k : ByteArray} {D : St} (h : Full w S p D) (hk : k.size ≤ maxLen) (E : Int) (hE : E = (stRead D k 0 16777216).2) (h0 : E ≠ 0) (h3 : E ≠ 3) :
    Calls Try.prog 7 #[.pointer (some ⟨p, 0, none⟩), .string k] w (Failed S w p E D) := by
  have hR := Rp.read_at (full_below h (sized w (boxD p) (boxS k))) k 0 16777216 hk (by decide) (by decide)
  rw [← hE] at hR
  have hlast := to_below h (below3 w (boxD p) (boxS k) (cap1 (.string k)))
  simp only [boxD, boxS] at hR hlast
  unfold ret at hR
  have HR := Lib.hid hR
  have HL := Lib.hid hlast
  have e0 : (E != 0) = true := by simpa using h0
  have e3 : (E != 3) = true := by simpa using h3
  clear h hk hR h0 h3 hE hlast
  go_enter Try.func7, Try.ntmps7
  go_wp2_with fail
  refine HR.out.mono ?_
  rintro e w1 ⟨rfl, rfl⟩
  go_wp2
  go_ret3
  exact ⟨rfl, HL.out⟩
/-- What was read, where the file is there or not. -/
structure WasRead (D : St) (k : ByteArray) (E : Int) (b : ByteArray) (T : List (List UInt8)) (n e : Nat) : Prop where
  why : E = 0 ∨ E = 3
  read : ret (stRead D k 0 16777216).1 (stRead D k 0 16777216).2 = ret b.data.toList E
  small : b.size ≤ 16777216
  scan : scan b.data.toList = (T, n, e)
theorem open_bad {w : World} {S : Nat → Prop} {p : Nat} {k : ByteArray} {D : St} (h : Full w S p D) (hk : k.size ≤ maxLen) (E : Int) (b : ByteArray) (T : List (List UInt8)) (n : Nat) (hr : WasRead D k E b T n 71) :
    Calls Try.prog 7 #[.pointer (some ⟨p, 0, none⟩), .string k] w (Failed S w p 71 D) := by
  have hR := Rp.read_at (full_below h (sized w (boxD p) (boxS k))) k 0 16777216 hk (by decide) (by decide)
  rw [hr.read] at hR
  have hS := Fs7.scan_any b (((w.alloc (boxD p)).alloc (boxS k)).alloc (cap1 (.string k))) (by have := hr.small; omega)
  rw [hr.scan] at hS
  have hlast : ∀ V2 o1 o2, Below (((w.alloc (boxD p)).alloc (boxS k)).alloc (cap1 (.string k))).heap.size (((w.alloc (boxD p)).alloc (boxS k)).alloc (cap1 (.string k))) V2 → To S w ((V2.alloc o1).alloc o2) p D := fun V2 o1 o2 hb =>
    to_below h ((((below3 w (boxD p) (boxS k) (cap1 (.string k))).trans (hb.mono (by simp only [size_alloc]; omega))).alloc (by have := hb.size; simp only [size_alloc] at this; omega) o1).alloc (by have := hb.size; simp only [size_alloc] at this ⊢; omega) o2)
  have hy := hr.why
  simp only [boxD, boxS, cap1] at hR hS hlast
  unfold ret at hR
  have HR := Lib.hid hR
  have HS := Lib.hid hS
  have HL := Lib.hid hlast
  clear h hk hR hS hr hlast
  rcases hy with rfl | rfl
  all_goals
    go_enter Try.func7, Try.ntmps7
    go_wp2_with fail
    refine HR.out.mono ?_
    rintro e w1 ⟨rfl, rfl⟩
    go_wp2_with fail
    refine HS.out.mono ?_
    rintro e w2 ⟨A, c, rfl, hown, hb⟩
    have HZ := Lib.hid (fun o1 o2 => HL.out w2 o1 o2 hb)
    clear hb hown HL HS HR
    go_wp2
    go_quiet (fail)
    go_wp2
    go_ret3
    exact ⟨rfl, Ap.drewN (HZ.out _ _) _⟩
theorem row_keep {w w' : World} {B B' : Nat} {e : TypeId} {v : Value} {n : Nat} {xs : List Value} (h : w.ownsRow B e 1 v n xs) (hB : B' ≤ B) (hk : ∀ g, B ≤ g → g < w.heap.size → w'.heap[g]? = w.heap[g]?) : w'.ownsRow B' e 1 v n xs := by
  refine ⟨h.1, ?_⟩
  rcases h.2 with h0 | ⟨g, cap, cur, h1, h2, h3, h4⟩
  · exact .inl h0
  · exact .inr ⟨g, cap, cur, h1, by omega, (hk g h2 (lt_of_at h3)).trans h3, h4⟩
theorem row_block {w : World} {B : Nat} {e : TypeId} {A : Option Addr} {m c n : Nat} {xs : List Value} (h : w.ownsRow B e 1 (.slice A m c) n xs) : ∀ a, A = some a → B ≤ a.block ∧ a.block < w.heap.size := by
  intro a ha
  subst ha
  rcases h.2 with ⟨h1, _⟩ | ⟨g, cap, cur, h1, h2, h3, _⟩
  · cases h1
  · cases h1
    exact ⟨h2, lt_of_at h3⟩
/-- What an opening that was done leaves. -/
def Opened (S : Nat → Prop) (w : World) (p : Nat) (k : ByteArray) (D' : St) (T : List (List UInt8)) (n : Nat) (en : Ending) (w' : World) : Prop :=
  ∃ q A c S', en = .returned (.tuple #[.pointer (some ⟨q, 0, none⟩), .slice A T.length c, .int .i64 0]) ∧ Tread S w w' ∧ WalAt w' S' p q k D' ⟨T.length, n, 0⟩ ∧ (∀ b, S' b → grow S w w' b) ∧ w.heap.size ≤ q ∧
    w'.ownsRow w.heap.size 9 1 (.slice A T.length c) T.length (cellsS T) ∧ ∀ a, A = some a → ¬ S' a.block ∧ a.block ≠ q
/-- What the steps of an opening leave, in the midst of it. -/
structure Mid (S : Nat → Prop) (w : World) (p : Nat) (k : ByteArray) (n N2 : Nat) (T : List (List UInt8)) (A : Option Addr) (c : Nat) (D' : St) (w' : World) : Prop where
  to : To S w w' p D'
  c1 : w'.cell? ⟨w.heap.size, 0, none⟩ = some (.pointer (some ⟨p, 0, none⟩))
  c2 : w'.cell? ⟨w.heap.size + 1, 0, none⟩ = some (.string k)
  c3 : w'.cell? ⟨N2, 0, none⟩ = some (.int .i64 (n : Int))
  done : Opened S w p k D' T n (.returned (.tuple #[.pointer (some ⟨w'.heap.size, 0, none⟩), .slice A T.length c, .int .i64 0])) (w'.alloc (walO p k ⟨T.length, n, 0⟩))
theorem steps_mid {w V2 : World} {S : Nat → Prop} {p : Nat} {k : ByteArray} {D : St} (h : Full w S p D) (low : ∀ b, S b → b < w.heap.size) (hk : k.size ≤ maxLen) (hlen : D.loose.length ≤ 1099511627000) (T : List (List UInt8)) (n e : Nat) (hn : n ≤ 9223372036854775807) (A : Option Addr) (c : Nat)
    (hb : Below (((w.alloc (boxD p)).alloc (boxS k)).alloc (cap1 (.string k))).heap.size (((w.alloc (boxD p)).alloc (boxS k)).alloc (cap1 (.string k))) V2) (hown : V2.ownsRow (((w.alloc (boxD p)).alloc (boxS k)).alloc (cap1 (.string k))).heap.size 9 1 (.slice A T.length c) T.length (cellsS T)) :
    Calls Try.prog 22 #[.slice (some ⟨V2.heap.size + 1 + 1, 0, none⟩) 2 2] (((V2.alloc (boxI n)).alloc (boxE e)).alloc (opensOf (V2.heap.size + 1) w.heap.size (w.heap.size + 1) V2.heap.size)) fun en w' => en = .returned (.int .i64 (stepsS k D n e).1) ∧ Mid S w p k n V2.heap.size T A c (stepsS k D n e).2 w' := by
  obtain ⟨V1, hV1⟩ : ∃ V1, V1 = ((w.alloc (boxD p)).alloc (boxS k)).alloc (cap1 (.string k)) := ⟨_, rfl⟩
  have z1 : V1.heap.size = w.heap.size + 1 + 1 + 1 := by rw [hV1]; simp only [size_alloc]
  have b1 : Below w.heap.size w V1 := by rw [hV1]; exact below3 w _ _ _
  rw [← hV1] at hb hown
  have z2 := hb.size
  obtain ⟨V4, hV4⟩ : ∃ V4, V4 = ((V2.alloc (boxI n)).alloc (boxE e)).alloc (opensOf (V2.heap.size + 1) w.heap.size (w.heap.size + 1) V2.heap.size) := ⟨_, rfl⟩
  rw [← hV4]
  have z4 : V4.heap.size = V2.heap.size + 1 + 1 + 1 := by rw [hV4]; simp only [size_alloc]
  have b4 : Below V2.heap.size V2 V4 := by rw [hV4]; exact below3 V2 _ _ _
  have d1 : V1.heap[w.heap.size]? = some (boxD p) := by
    rw [hV1, heap_alloc _ _ _ (by simp only [size_alloc]; omega), heap_alloc _ _ _ (by simp only [size_alloc]; omega)]; exact heap_new w _
  have d2 : V1.heap[w.heap.size + 1]? = some (boxS k) := by
    rw [hV1, heap_alloc _ _ _ (by simp only [size_alloc]; omega)]
    have := heap_new (w.alloc (boxD p)) (boxS k)
    rw [size_alloc] at this; exact this
  have e1 : V4.heap[w.heap.size]? = some (boxD p) := (b4.block _ (by omega)).trans ((hb.block _ (by omega)).trans d1)
  have e2 : V4.heap[w.heap.size + 1]? = some (boxS k) := (b4.block _ (by omega)).trans ((hb.block _ (by omega)).trans d2)
  have e3 : V4.heap[V2.heap.size]? = some (boxI n) := by
    rw [hV4, heap_alloc _ _ _ (by simp only [size_alloc]; omega), heap_alloc _ _ _ (by simp only [size_alloc]; omega)]; exact heap_new V2 _
  have e4 : V4.heap[V2.heap.size + 1]? = some (boxE e) := by
    rw [hV4, heap_alloc _ _ _ (by simp only [size_alloc]; omega)]
    have := heap_new (V2.alloc (boxI n)) (boxE e)
    rw [size_alloc] at this; exact this
  have e5 : V4.heap[V2.heap.size + 1 + 1]? = some (opensOf (V2.heap.size + 1) w.heap.size (w.heap.size + 1) V2.heap.size) := by
    rw [hV4]
    have := heap_new ((V2.alloc (boxI n)).alloc (boxE e)) (opensOf (V2.heap.size + 1) w.heap.size (w.heap.size + 1) V2.heap.size)
    simp only [size_alloc] at this; exact this
  have bw : Below w.heap.size w V4 := (b1.trans (hb.mono b1.size)).trans (b4.mono (by omega))
  have hf := full_below h bw
  refine (open_tail hf e4 e1 e2 e3 e5 (fun hx => by have := low _ hx; omega) (fun hx => by have := low _ hx; omega) hk hn hlen).mono ?_
  rintro en w' ⟨rfl, ht⟩
  have z5 := ht.1.size
  have nS : ∀ b, w.heap.size ≤ b → ¬ S b := fun b hb hx => by have := low _ hx; omega
  refine ⟨rfl, to_pre bw ht, cell_of (To.keep ht e1 (nS _ (by omega))) 0, cell_of (To.keep ht e2 (nS _ (by omega))) 0, cell_of (To.keep ht e3 (nS _ (by omega))) 0, ?_⟩
  have hb5 : Below w'.heap.size w' (w'.alloc (walO p k ⟨T.length, n, 0⟩)) := (Below.refl _ w').alloc (Nat.le_refl _) _
  have hlow : ∀ b, grow S V4 w' b → b < w'.heap.size := grow_low (fun b hb => by have := low b hb; omega) z5
  have hrow : (w'.alloc (walO p k ⟨T.length, n, 0⟩)).ownsRow w.heap.size 9 1 (.slice A T.length c) T.length (cellsS T) := by
    refine row_keep hown (by omega) fun g hg hg2 => ?_
    rw [heap_alloc _ _ _ (by omega), ht.1.block g (by omega) (nS g (by omega)), b4.block g hg2]
  refine ⟨w'.heap.size, A, c, grow S V4 w', rfl, (to_pre bw ht).1.trans (tread_below _ hb5), ⟨full_below ht.2 hb5, fun b hb => by have := hlow b hb; rw [size_alloc]; omega, fun hx => by have := hlow _ hx; omega, heap_new w' _⟩, ?_, by omega, hrow, ?_⟩
  · rintro b (hb | hb)
    · exact .inl hb
    · exact .inr ⟨by omega, by rw [size_alloc]; omega⟩
  · intro a ha
    have hbk := row_block hown a ha
    refine ⟨?_, by omega⟩
    rintro (hx | hx)
    · exact nS _ (by omega) hx
    · omega
/-- What an opening comes to, behind a read that was good. -/
def OpenEnd (S : Nat → Prop) (w : World) (p : Nat) (k : ByteArray) (a : Int × St) (T : List (List UInt8)) (n : Nat) (en : Ending) (w' : World) : Prop :=
  (a.1 ≠ 0 → Failed S w p a.1 a.2 en w') ∧ (a.1 = 0 → Opened S w p k a.2 T n en w')
set_option maxRecDepth 20000 in
set_option maxHeartbeats 2000000 in
theorem open_read {w : World} {S : Nat → Prop} {p : Nat} {k : ByteArray} {D : St} (h : Full w S p D) (low : ∀ b, S b → b < w.heap.size) (hk : k.size ≤ maxLen) (hlen : D.loose.length ≤ 1099511627000) (E : Int) (b : ByteArray) (T : List (List UInt8)) (n e : Nat) (hr : WasRead D k E b T n e) (hn : n ≤ 9223372036854775807) (he : e ≠ 71) :
    Calls Try.prog 7 #[.pointer (some ⟨p, 0, none⟩), .string k] w (OpenEnd S w p k (stepsS k D n e) T n) := by
  have hR := Rp.read_at (full_below h (sized w (boxD p) (boxS k))) k 0 16777216 hk (by decide) (by decide)
  rw [hr.read] at hR
  have hS := Fs7.scan_any b (((w.alloc (boxD p)).alloc (boxS k)).alloc (cap1 (.string k))) (by have := hr.small; omega)
  rw [hr.scan] at hS
  have hM := fun V2 A c hb hown => steps_mid (V2 := V2) h low hk hlen T n e hn A c hb hown
  obtain ⟨a, ha⟩ : ∃ a, a = stepsS k D n e := ⟨_, rfl⟩
  rw [← ha] at hM ⊢
  have hy := hr.why
  have hz : ((e : Int) == 71) = false := by rw [beq_eq_false_iff_ne]; omega
  simp only [boxD, boxS, boxI, boxE, opensOf, pt, cap1] at hR hS hM
  unfold ret at hR
  have HR := Lib.hid hR
  have HS := Lib.hid hS
  have HM := Lib.hid hM
  clear h hk hR hS hr hM ha hlen hn he low
  rcases hy with rfl | rfl
  all_goals
    go_enter Try.func7, Try.ntmps7
    go_wp2_with fail
    refine HR.out.mono ?_
    rintro e w1 ⟨rfl, rfl⟩
    go_wp2_with fail
    refine HS.out.mono ?_
    rintro e w2 ⟨A, c, rfl, hown, hb⟩
    have HZ := Lib.hid (HM.out w2 A c hb hown)
    clear hb hown HM HS HR
    go_wp2_with fail
    refine HZ.out.mono ?_
    rintro e w3 ⟨rfl, hm⟩
    have c1 := hm.c1
    have c2 := hm.c2
    have c3 := hm.c3
    have HT := Lib.hid hm
    clear hm HZ
    by_cases h0 : a.1 = 0
    · have hz0 : (a.1 != 0) = false := by rw [h0]; rfl
      have H0 := Lib.hid h0
      clear h0
      go_wp2
      go_ret3
      exact ⟨fun h => absurd H0.out h, fun _ => HT.out.done⟩
    · have hz0 : (a.1 != 0) = true := by simpa using h0
      have H0 := Lib.hid h0
      clear h0
      go_wp2
      go_ret3
      exact ⟨fun _ => ⟨rfl, HT.out.to⟩, fun h => absurd h H0.out⟩
end Go.Proofs.Ytbjemekkpmbhhaa.Wq8
