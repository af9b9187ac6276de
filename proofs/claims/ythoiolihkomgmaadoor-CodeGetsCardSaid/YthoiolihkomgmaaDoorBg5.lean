/- The document's size, begins, Value and whole. -/
import Derived.Test.YthoiolihkomgmaaDoorTb5
import Derived.Test.YthoiolihkomgmaaDoorRv5
import Derived.Deep.QuietTactic
import Derived.BigQuiet
import Derived.Handy
namespace Go.Proofs.YthoiolihkomgmaaDoor.Bg5
open Go Go.RowKit Go.Proofs Go.Proofs.YthoiolihkomgmaaDoor.Wm Go.Proofs.YthoiolihkomgmaaDoor.Vm Go.Proofs.YthoiolihkomgmaaDoor.Ve Go.Proofs.YthoiolihkomgmaaDoor.Vs Go.Proofs.YthoiolihkomgmaaDoor.Vc Go.Proofs.YthoiolihkomgmaaDoor.Vk Go.Proofs.YthoiolihkomgmaaDoor.Cm Go.Proofs.YthoiolihkomgmaaDoor.Cu5 Go.Proofs.YthoiolihkomgmaaDoor.Cg5 Go.Proofs.YthoiolihkomgmaaDoor.Op5 Go.Proofs.YthoiolihkomgmaaDoor.Tb5 Go.Proofs.YthoiolihkomgmaaDoor.Pv5 Go.Proofs.YthoiolihkomgmaaDoor.Rv5
attribute [local go_sem ↓] Go.wp_at_zero Go.wp_at_succ
theorem at_bs (l : List UInt8) (i : Nat) (h : i < (bs l).size) : (bs l)[i]'h = l.getD i 0 := by
  have : i < l.length := h
  simp [bs, ByteArray.getElem_eq_getElem_data, List.getD_eq_getElem?_getD, this]
/-- A text of two bytes and more, or fewer. -/
structure Hd (S : ByteArray) (n : Nat) (k c : UInt8) : Prop where
  size : S.size = n
  b0 : ∀ h : 0 < S.size, S[0]'h = k
  b1 : ∀ h : 1 < S.size, S[1]'h = c
theorem hd_of (l : List UInt8) : Hd (bs l) l.length (l.getD 0 0) (l.getD 1 0) := ⟨bs_size l, at_bs l 0, at_bs l 1⟩
def Kd (k : UInt8) : Prop := (k.toNat : Int) ≠ 1 ∧ (k.toNat : Int) ≠ 2 ∧ (k.toNat : Int) ≠ 3 ∧ (k.toNat : Int) ≠ 4 ∧ (k.toNat : Int) ≠ 5
theorem size_nil (w : World) : Calls Tryd.prog 30 #[.string ⟨#[]⟩] w fun e w' => e = .returned (.int .i64 (-1)) ∧ w = w' := by
  go_enter Tryd.func30, Tryd.ntmps30
  go_wp2
  go_ret
  exact ⟨rfl, rfl⟩
set_option maxRecDepth 20000 in
theorem size_1 {S : ByteArray} {n : Nat} {c : UInt8} (w : World) (h : Hd S n 1 c) (h0 : 0 < n)  : Calls Tryd.prog 30 #[.string S] w fun e w' => e = .returned (.int .i64 2) ∧ w = w' := by
  have hn := h.size
  have hp : 0 < S.size := by omega
  have hx0 := h.b0 hp
  clear h
  go_enter Tryd.func30, Tryd.ntmps30
  go_wp2
  go_ret
  exact ⟨rfl, rfl⟩
set_option maxRecDepth 20000 in
theorem size_2 {S : ByteArray} {n : Nat} {c : UInt8} (w : World) (h : Hd S n 2 c) (h0 : 0 < n)  : Calls Tryd.prog 30 #[.string S] w fun e w' => e = .returned (.int .i64 9) ∧ w = w' := by
  have hn := h.size
  have hp : 0 < S.size := by omega
  have hx0 := h.b0 hp
  clear h
  go_enter Tryd.func30, Tryd.ntmps30
  go_wp2
  go_ret
  exact ⟨rfl, rfl⟩
set_option maxRecDepth 20000 in
theorem size_3 {S : ByteArray} {n : Nat} {c : UInt8} (w : World) (h : Hd S n 3 c) (h0 : 0 < n)  : Calls Tryd.prog 30 #[.string S] w fun e w' => e = .returned (.int .i64 9) ∧ w = w' := by
  have hn := h.size
  have hp : 0 < S.size := by omega
  have hx0 := h.b0 hp
  clear h
  go_enter Tryd.func30, Tryd.ntmps30
  go_wp2
  go_ret
  exact ⟨rfl, rfl⟩
set_option maxRecDepth 20000 in
theorem size_o {S : ByteArray} {n : Nat} {k c : UInt8} (w : World) (h : Hd S n k c) (hk : Kd k) (h0 : 0 < n)  : Calls Tryd.prog 30 #[.string S] w fun e w' => e = .returned (.int .i64 1) ∧ w = w' := by
  have hn := h.size
  have hp : 0 < S.size := by omega
  have hx0 := h.b0 hp
  obtain ⟨e1, e2, e3, e4, e5⟩ := hk
  have f1 : ((k.toNat : Int) == 1) = false := by simpa using e1
  have f2 : ((k.toNat : Int) == 2) = false := by simpa using e2
  have f3 : ((k.toNat : Int) == 3) = false := by simpa using e3
  have f4 : ((k.toNat : Int) == 4) = false := by simpa using e4
  have f5 : ((k.toNat : Int) == 5) = false := by simpa using e5
  clear h
  go_enter Tryd.func30, Tryd.ntmps30
  go_wp2
  go_ret
  exact ⟨rfl, rfl⟩
set_option maxRecDepth 20000 in
theorem size_4s {S : ByteArray} {c : UInt8} (w : World) (h : Hd S 1 4 c)  : Calls Tryd.prog 30 #[.string S] w fun e w' => e = .returned (.int .i64 (-1)) ∧ w = w' := by
  have hn := h.size
  have hp : 0 < S.size := by omega
  have hx0 := h.b0 hp
  clear h
  go_enter Tryd.func30, Tryd.ntmps30
  go_wp2
  go_ret
  exact ⟨rfl, rfl⟩
set_option maxRecDepth 20000 in
theorem size_4l {S : ByteArray} {n : Nat} {c : UInt8} (w : World) (h : Hd S n 4 c) (h0 : 1 < n)  : Calls Tryd.prog 30 #[.string S] w fun e w' => e = .returned (.int .i64 (2 + (c.toNat : Int))) ∧ w = w' := by
  have hn := h.size
  have hp : 0 < S.size := by omega
  have hx0 := h.b0 hp
  have hp1 : 1 < S.size := by omega
  have hx1 := h.b1 hp1
  clear h
  have hc := c.toNat_lt
  have hz : ¬ (n : Int) < 2 := by omega
  have hw : IntKind.i64.wrap (c.toNat : Int) = (c.toNat : Int) := by rw [wrap_i64 (by omega)]; unfold toI; rw [if_pos (by omega)]
  go_enter Tryd.func30, Tryd.ntmps30
  go_wp2
  go_ret
  exact ⟨rfl, rfl⟩
set_option maxRecDepth 20000 in
theorem size_5s {S : ByteArray} {c : UInt8} (w : World) (h : Hd S 1 5 c)  : Calls Tryd.prog 30 #[.string S] w fun e w' => e = .returned (.int .i64 (-1)) ∧ w = w' := by
  have hn := h.size
  have hp : 0 < S.size := by omega
  have hx0 := h.b0 hp
  clear h
  go_enter Tryd.func30, Tryd.ntmps30
  go_wp2
  go_ret
  exact ⟨rfl, rfl⟩
set_option maxRecDepth 20000 in
theorem size_5l {S : ByteArray} {n : Nat} {c : UInt8} (w : World) (h : Hd S n 5 c) (h0 : 1 < n)  : Calls Tryd.prog 30 #[.string S] w fun e w' => e = .returned (.int .i64 (2 + (c.toNat : Int))) ∧ w = w' := by
  have hn := h.size
  have hp : 0 < S.size := by omega
  have hx0 := h.b0 hp
  have hp1 : 1 < S.size := by omega
  have hx1 := h.b1 hp1
  clear h
  have hc := c.toNat_lt
  have hz : ¬ (n : Int) < 2 := by omega
  have hw : IntKind.i64.wrap (c.toNat : Int) = (c.toNat : Int) := by rw [wrap_i64 (by omega)]; unfold toI; rw [if_pos (by omega)]
  go_enter Tryd.func30, Tryd.ntmps30
  go_wp2
  go_ret
  exact ⟨rfl, rfl⟩
theorem kind_of {k : UInt8} {i : Nat} (h : k.toNat = i) : k = UInt8.ofNat i := by rw [← h]; simp
theorem size_any (l : List UInt8) (w : World) : Calls Tryd.prog 30 #[.string (bs l)] w fun e w' => e = .returned (.int .i64 (sz l)) ∧ w = w' := by
  cases l with
  | nil => exact size_nil w
  | cons k t =>
    have h := hd_of (k :: t)
    have h0 : 0 < (k :: t).length := by simp
    by_cases h1 : k.toNat = 1
    · rw [show sz (k :: t) = 2 by simp [sz, h1]]
      obtain rfl := kind_of h1
      exact size_1 w h h0
    by_cases h2 : k.toNat = 2
    · rw [show sz (k :: t) = 9 by simp [sz, h2]]
      obtain rfl := kind_of h2
      exact size_2 w h h0
    by_cases h3 : k.toNat = 3
    · rw [show sz (k :: t) = 9 by simp [sz, h3]]
      obtain rfl := kind_of h3
      exact size_3 w h h0
    by_cases h4 : k.toNat = 4
    · cases t with
      | nil =>
        rw [show sz [k] = -1 by simp [sz, h4]]
        obtain rfl := kind_of h4
        exact size_4s w h
      | cons c r =>
        rw [show sz (k :: c :: r) = 2 + (c.toNat : Int) by simp [sz, h4]]
        obtain rfl := kind_of h4
        exact size_4l w h (by simp)
    by_cases h5 : k.toNat = 5
    · cases t with
      | nil =>
        rw [show sz [k] = -1 by simp [sz, h5]]
        obtain rfl := kind_of h5
        exact size_5s w h
      | cons c r =>
        rw [show sz (k :: c :: r) = 2 + (c.toNat : Int) by simp [sz, h5]]
        obtain rfl := kind_of h5
        exact size_5l w h (by simp)
    · rw [show sz (k :: t) = 1 by simp [sz, h1, h2, h3, h4, h5]]
      have hk : Kd k := by unfold Kd; omega
      exact size_o w h hk h0
theorem real_begins (l : List UInt8) (w : World) : Calls Tryd.prog 45 #[.string (bs l)] w fun e w' => e = .returned (.bool (decide (l.length < 8))) ∧ w = w' := by
  have hs := bs_size l
  go_enter Tryd.func45, Tryd.ntmps45
  go_wp2
  go_ret
  exact ⟨congrArg (fun b => Ending.returned (.bool b)) (by simp; omega), rfl⟩
theorem begins_nil (w : World) : Calls Tryd.prog 31 #[.string ⟨#[]⟩] w fun e w' => e = .returned (.bool true) ∧ w = w' := by
  go_enter Tryd.func31, Tryd.ntmps31
  go_wp2
  go_ret
  exact ⟨rfl, rfl⟩
set_option maxRecDepth 20000 in
theorem begins_1 {S : ByteArray} {n : Nat} {c : UInt8} (w : World) (h : Hd S n 1 c) (h0 : 0 < n)  : Calls Tryd.prog 31 #[.string S] w fun e w' => e = .returned (.bool true) ∧ w = w' := by
  have hn := h.size
  have hp : 0 < S.size := by omega
  have hx0 := h.b0 hp
  clear h
  go_enter Tryd.func31, Tryd.ntmps31
  go_wp2
  go_ret
  exact ⟨rfl, rfl⟩
set_option maxRecDepth 20000 in
theorem begins_2 {S : ByteArray} {n : Nat} {c : UInt8} (w : World) (h : Hd S n 2 c) (h0 : 0 < n)  : Calls Tryd.prog 31 #[.string S] w fun e w' => e = .returned (.bool true) ∧ w = w' := by
  have hn := h.size
  have hp : 0 < S.size := by omega
  have hx0 := h.b0 hp
  clear h
  go_enter Tryd.func31, Tryd.ntmps31
  go_wp2
  go_ret
  exact ⟨rfl, rfl⟩
set_option maxRecDepth 20000 in
theorem begins_o {S : ByteArray} {n : Nat} {k c : UInt8} (w : World) (h : Hd S n k c) (hk : Kd k) (h0 : 0 < n)  : Calls Tryd.prog 31 #[.string S] w fun e w' => e = .returned (.bool false) ∧ w = w' := by
  have hn := h.size
  have hp : 0 < S.size := by omega
  have hx0 := h.b0 hp
  obtain ⟨e1, e2, e3, e4, e5⟩ := hk
  have f1 : ((k.toNat : Int) == 1) = false := by simpa using e1
  have f2 : ((k.toNat : Int) == 2) = false := by simpa using e2
  have f3 : ((k.toNat : Int) == 3) = false := by simpa using e3
  have f4 : ((k.toNat : Int) == 4) = false := by simpa using e4
  have f5 : ((k.toNat : Int) == 5) = false := by simpa using e5
  clear h
  go_enter Tryd.func31, Tryd.ntmps31
  go_wp2
  go_ret
  exact ⟨rfl, rfl⟩
theorem begins_3 (t : List UInt8) (w : World) : Calls Tryd.prog 31 #[.string (bs (3 :: t))] w fun e w' => e = .returned (.bool (decide (t.length < 8))) ∧ w = w' := by
  have h := hd_of (3 :: t)
  have hn : (bs (3 :: t)).size = t.length + 1 := h.size
  have hp : 0 < (bs (3 :: t)).size := by omega
  have hx0 : (bs (3 :: t))[0]'hp = 3 := h.b0 hp
  have hex : (bs (3 :: t)).extract 1 (t.length + 1) = bs t := bs_drop (3 :: t) 1
  have HR := Lib.hid (fun W => real_begins t W)
  generalize bs (3 :: t) = S at hn hp hx0 hex ⊢
  have hz1 : (1 : Int) ≤ (t.length : Int) + 1 := by omega
  clear h
  go_enter Tryd.func31, Tryd.ntmps31
  go_wp2_with fail
  with_reducible refine (HR.out _).mono ?_
  rintro e w1 ⟨rfl, rfl⟩
  go_wp2
  go_ret
  exact ⟨rfl, rfl⟩
set_option maxRecDepth 20000 in
theorem begins_4s {S : ByteArray} {c : UInt8} (w : World) (h : Hd S 1 4 c)  : Calls Tryd.prog 31 #[.string S] w fun e w' => e = .returned (.bool true) ∧ w = w' := by
  have hn := h.size
  have hp : 0 < S.size := by omega
  have hx0 := h.b0 hp
  clear h
  go_enter Tryd.func31, Tryd.ntmps31
  go_wp2
  go_ret
  exact ⟨rfl, rfl⟩
set_option maxRecDepth 20000 in
theorem begins_4l {S : ByteArray} {n : Nat} {c : UInt8} (w : World) (h : Hd S n 4 c) (h0 : 1 < n)  : Calls Tryd.prog 31 #[.string S] w fun e w' => e = .returned (.bool (decide (c.toNat ≤ 100))) ∧ w = w' := by
  have hn := h.size
  have hp : 0 < S.size := by omega
  have hx0 := h.b0 hp
  have hp1 : 1 < S.size := by omega
  have hx1 := h.b1 hp1
  clear h
  have hc := c.toNat_lt
  have hz : ¬ (n : Int) < 2 := by omega
  have hz2 : decide ((n : Int) < 2) = false := decide_eq_false hz
  have hw : IntKind.i64.wrap (c.toNat : Int) = (c.toNat : Int) := by rw [wrap_i64 (by omega)]; unfold toI; rw [if_pos (by omega)]
  go_enter Tryd.func31, Tryd.ntmps31
  go_wp2
  go_ret
  exact ⟨congrArg (fun b => Ending.returned (.bool b)) (by simp; omega), rfl⟩
theorem below_dn (w : World) : ∀ n, Below w.heap.size w (w.drewN n)
  | 0 => Below.refl _ _
  | n + 1 => (below_dn w n).drew
set_option maxRecDepth 20000 in
theorem begins_5s {S : ByteArray} {c : UInt8} (w : World) (h : Hd S 1 5 c)  : Calls Tryd.prog 31 #[.string S] w fun e w' => e = .returned (.bool true) ∧ Below w.heap.size w w' := by
  have hn := h.size
  have hp : 0 < S.size := by omega
  have hx0 := h.b0 hp
  clear h
  go_enter Tryd.func31, Tryd.ntmps31
  go_wp2
  go_quiet (fail)
  go_wp2
  go_ret
  exact ⟨rfl, below_dn _ _⟩
set_option maxRecDepth 20000 in
theorem begins_5x {S : ByteArray} {n : Nat} {c : UInt8} (w : World) (h : Hd S n 5 c) (h0 : 1 < n) (h100 : 100 < c.toNat)  : Calls Tryd.prog 31 #[.string S] w fun e w' => e = .returned (.bool false) ∧ Below w.heap.size w w' := by
  have hn := h.size
  have hp : 0 < S.size := by omega
  have hx0 := h.b0 hp
  have hp1 : 1 < S.size := by omega
  have hx1 := h.b1 hp1
  clear h
  have hc := c.toNat_lt
  have hz2 : decide ((n : Int) < 2) = false := decide_eq_false (by omega)
  have hw : IntKind.i64.wrap (c.toNat : Int) = (c.toNat : Int) := by rw [wrap_i64 (by omega)]; unfold toI; rw [if_pos (by omega)]
  have hz3 : decide ((c.toNat : Int) ≤ 100) = false := decide_eq_false (by omega)
  go_enter Tryd.func31, Tryd.ntmps31
  go_wp2
  go_quiet (fail)
  go_wp2
  go_ret
  exact ⟨rfl, below_dn _ _⟩
set_option maxRecDepth 20000 in
theorem begins_5l (c : UInt8) (r : List UInt8) (w : World) (hT : Tabs w) (h100 : c.toNat ≤ 100) (hr : r.length ≤ c.toNat) : Calls Tryd.prog 31 #[.string (bs (5 :: c :: r))] w fun e w' => e = .returned (.bool (tb r c.toNat)) ∧ Below w.heap.size w w' := by
  have h := hd_of (5 :: c :: r)
  have hn : (bs (5 :: c :: r)).size = r.length + 2 := h.size
  have hp : 0 < (bs (5 :: c :: r)).size := by omega
  have hx0 : (bs (5 :: c :: r))[0]'hp = 5 := h.b0 hp
  have hp1 : 1 < (bs (5 :: c :: r)).size := by omega
  have hx1 : (bs (5 :: c :: r))[1]'hp1 = c := h.b1 hp1
  have hex : (bs (5 :: c :: r)).extract 2 (r.length + 2) = bs r := bs_drop (5 :: c :: r) 2
  generalize bs (5 :: c :: r) = S at hn hp hx0 hp1 hx1 hex ⊢
  have hc := c.toNat_lt
  have hw : IntKind.i64.wrap (c.toNat : Int) = (c.toNat : Int) := by rw [wrap_i64 (by omega)]; unfold toI; rw [if_pos (by omega)]
  obtain ⟨n, hnn⟩ : ∃ n, n = c.toNat := ⟨_, rfl⟩
  have HR : Hid (∀ W, Hid (Below w.heap.size w W) → Calls Tryd.prog 46 #[.string (bs r), .int .i64 (n : Int)] W fun e w' => e = .returned (.bool (tb r n)) ∧ Below W.heap.size W w') := Lib.hid fun W hW => by
    rw [hnn]; exact text_begins r c.toNat W (hT.keep hW.out) hr h100
  have hcn : (c.toNat : Int) = (n : Int) := by rw [hnn]
  rw [hcn] at hw
  rw [← hnn] at h100 hr ⊢
  obtain ⟨L, hL⟩ : ∃ L, L = r.length + 2 := ⟨_, rfl⟩
  rw [← hL] at hn hex
  have hz2 : decide ((L : Int) < 2) = false := decide_eq_false (by omega)
  have hz4 : (2 : Int) ≤ (L : Int) := by omega
  have hz5 : (1 : Int) < (L : Int) := by omega
  have hz6 : (0 : Int) < (L : Int) := by omega
  have hz3 : decide ((n : Int) ≤ 100) = true := decide_eq_true (by omega)
  clear h hT hnn hr hL
  go_enter Tryd.func31, Tryd.ntmps31
  go_wp2
  go_region_held3 (fun _ => True) (trivial) (first
    | (go_at_call 46; (with_reducible refine (HR.out _ (Lib.hid (Below.refl _ w).drew)).mono ?_); rintro e w1 ⟨rfl, hb⟩; have HB := Lib.hid hb; clear hb))
  all_goals
    go_wp2
    go_ret
    exact ⟨rfl, ((Below.refl _ w).drew).trans (HB.out.mono (Nat.le_refl _))⟩
theorem begins_any (l : List UInt8) (w : World) (hT : Tabs w) (hs : sz l < 0 ∨ (l.length : Int) < sz l) :
    Calls Tryd.prog 31 #[.string (bs l)] w fun e w' => e = .returned (.bool (rb l)) ∧ Below w.heap.size w w' := by
  have up : ∀ {r : Bool}, (Calls Tryd.prog 31 #[.string (bs l)] w fun e w' => e = .returned (.bool r) ∧ w = w') → Calls Tryd.prog 31 #[.string (bs l)] w fun e w' => e = .returned (.bool r) ∧ Below w.heap.size w w' :=
    fun h => h.mono fun _ _ hh => ⟨hh.1, hh.2 ▸ Below.refl _ _⟩
  cases l with
  | nil => exact up (begins_nil w)
  | cons k t =>
    have h := hd_of (k :: t)
    have h0 : 0 < (k :: t).length := by simp
    by_cases h1 : k.toNat = 1
    · rw [show rb (k :: t) = true by simp [rb, h1]]
      obtain rfl := kind_of h1
      exact up (begins_1 w h h0)
    by_cases h2 : k.toNat = 2
    · rw [show rb (k :: t) = true by simp [rb, h2]]
      obtain rfl := kind_of h2
      exact up (begins_2 w h h0)
    by_cases h3 : k.toNat = 3
    · rw [show rb (k :: t) = decide (t.length < 8) by simp [rb, h3]]
      obtain rfl := kind_of h3
      exact up (begins_3 t w)
    by_cases h4 : k.toNat = 4
    · cases t with
      | nil =>
        rw [show rb [k] = true by simp [rb, h4]]
        obtain rfl := kind_of h4
        exact up (begins_4s w h)
      | cons c r =>
        rw [show rb (k :: c :: r) = decide (c.toNat ≤ 100) by simp [rb, h4]]
        obtain rfl := kind_of h4
        exact up (begins_4l w h (by simp))
    by_cases h5 : k.toNat = 5
    · cases t with
      | nil =>
        rw [show rb [k] = true by simp [rb, h5]]
        obtain rfl := kind_of h5
        exact begins_5s w h
      | cons c r =>
        have es : sz (k :: c :: r) = 2 + (c.toNat : Int) := by simp [sz, h5]
        rw [es] at hs
        simp only [List.length_cons] at hs
        obtain rfl := kind_of h5
        by_cases h100 : c.toNat ≤ 100
        · rw [show rb (UInt8.ofNat 5 :: c :: r) = tb r c.toNat by simp [rb, h100]]
          exact begins_5l c r w hT h100 (by omega)
        · rw [show rb (UInt8.ofNat 5 :: c :: r) = false by simp [rb, h100]]
          exact begins_5x w h (by simp) (by show 100 < c.toNat; omega)
    · rw [show rb (k :: t) = false by simp [rb, h1, h2, h3, h4, h5]]
      have hk : Kd k := by unfold Kd; omega
      exact up (begins_o w h hk h0)
theorem getL_drop (l : List UInt8) (j : Nat) (h : j < l.length) : getL (l.drop j) = (l.getD j 0).toNat + 256 * getL (l.drop (j + 1)) := by
  rw [List.drop_eq_getElem_cons h]
  simp [getL, List.getD_eq_getElem?_getD, h]
theorem getL_small (l : List UInt8) (h : l.length ≤ 8) : getL l < 18446744073709551616 := by
  have h1 := getL_lt l
  have h2 : 256 ^ l.length ≤ 256 ^ 8 := Nat.pow_le_pow_right (by omega) h
  omega
set_option maxRecDepth 20000 in
theorem refvalue_any (l : List UInt8) (w : World) (hl : l.length ≤ 8) :
    Calls Tryd.prog 47 #[.string (bs l)] w fun e w' => e = .returned (.int .u64 (getL l : Int)) ∧ w = w' := by
  have hat := at_bs l
  have hsz := bs_size l
  obtain ⟨S, hS⟩ : ∃ S, S = bs l := ⟨_, rfl⟩
  rw [← hS] at hsz ⊢
  have HS := Lib.hid hS
  obtain ⟨L, hL⟩ : ∃ L, L = l.length := ⟨_, rfl⟩
  rw [← hL] at hsz hl
  have HL := Lib.hid hL
  clear hat hS hL
  go_enter Tryd.func47, Tryd.ntmps47
  go_wp2
  go_loop [3, 4, 8, 9, 10, 11, 12, 13, 14, 15, 16, 17, 18] (fun v i _ _ _ _ _ _ _ _ _ _ _ => ∃ k : Nat, k ≤ L ∧ i = .int .i64 ((k : Int) - 1) ∧ v = .int .u64 (getL (l.drop k) : Int)) (fun _ i _ _ _ _ _ _ _ _ _ _ _ => ((intOf i) + 1).toNat)
  case atStart => exact ⟨L, by omega, rfl, by rw [HL.out, List.drop_length]; rfl⟩
  case round =>
    obtain ⟨k, hk, rfl, rfl⟩ := hrel
    by_cases h0 : k = 0
    · subst h0
      go_wp2
      go_ret
      exact ⟨rfl, rfl⟩
    · obtain ⟨j, rfl⟩ : ∃ j, k = j + 1 := ⟨k - 1, by omega⟩
      have hjl : j < l.length := by rw [← HL.out]; omega
      have hjS : j < S.size := by omega
      obtain ⟨c, hc⟩ : ∃ c, l.getD j 0 = c := ⟨_, rfl⟩
      have hx : S[j]'hjS = c := by
        have := at_bs l j (by rw [bs_size]; exact hjl)
        simp only [HS.out]; rw [this, hc]
      have hg := getL_drop l j hjl
      rw [hc] at hg
      have hsm := getL_small (l.drop j) (by rw [List.length_drop, ← HL.out]; omega)
      obtain ⟨G, hG⟩ : ∃ G, G = getL (l.drop (j + 1)) := ⟨_, rfl⟩
      rw [← hG] at hg ⊢
      have HG := Lib.hid hg
      have hcl := c.toNat_lt
      have hji : ((j + 1 : Nat) : Int) - 1 = (j : Int) := by omega
      have hb1 : G < 72057594037927936 := by omega
      rw [hji]
      clear hG hg hsm hc hji
      go_wp2
      go_round
      case rel => exact ⟨j, by omega, by go_num, congrArg (Value.int .u64) (by rw [HG.out]; omega)⟩
      case measure => simp [intOf]
theorem whole_o {S : ByteArray} {n : Nat} {k c : UInt8} (w : World) (h : Hd S n k c) (hk : Kd k) (h0 : 0 < n) :
    Calls Tryd.prog 32 #[.string S] w fun e w' => e = .returned (ag (k.toNat : Int) 0 0 ⟨#[]⟩) ∧ Below w.heap.size w w' := by
  have hn := h.size
  have hp : 0 < S.size := by omega
  have hx0 := h.b0 hp
  obtain ⟨e1, e2, e3, e4, e5⟩ := hk
  have f1 : ((k.toNat : Int) == 1) = false := by simpa using e1
  have f2 : ((k.toNat : Int) == 2) = false := by simpa using e2
  have f3 : ((k.toNat : Int) == 3) = false := by simpa using e3
  have f4 : ((k.toNat : Int) == 4) = false := by simpa using e4
  have f5 : ((k.toNat : Int) == 5) = false := by simpa using e5
  clear h
  unfold ag
  go_enter Tryd.func32, Tryd.ntmps32
  go_wp2
  go_returns
  exact ⟨rfl, ((Below.refl _ _).alloc (Nat.le_refl _) _).alloc (by simp) _⟩
theorem whole_1 {S : ByteArray} {n : Nat} {c : UInt8} (w : World) (h : Hd S n 1 c) (h0 : 1 < n) :
    Calls Tryd.prog 32 #[.string S] w fun e w' => e = .returned (ag 1 (c.toNat : Int) 0 ⟨#[]⟩) ∧ Below w.heap.size w w' := by
  have hn := h.size
  have hp : 0 < S.size := by omega
  have hx0 := h.b0 hp
  have hp1 : 1 < S.size := by omega
  have hx1 := h.b1 hp1
  have hc := c.toNat_lt
  have hw : IntKind.i64.wrap (c.toNat : Int) = (c.toNat : Int) := by rw [wrap_i64 (by omega)]; unfold toI; rw [if_pos (by omega)]
  clear h
  unfold ag
  go_enter Tryd.func32, Tryd.ntmps32
  go_wp2
  go_returns
  exact ⟨rfl, ((Below.refl _ _).alloc (Nat.le_refl _) _).alloc (by simp) _⟩
theorem whole_2 (t : List UInt8) (w : World) (h8 : t.length ≤ 8) :
    Calls Tryd.prog 32 #[.string (bs (2 :: t))] w fun e w' => e = .returned (ag 2 (toI (getL t)) 0 ⟨#[]⟩) ∧ Below w.heap.size w w' := by
  have h := hd_of (2 :: t)
  have hn : (bs (2 :: t)).size = t.length + 1 := h.size
  have hp : 0 < (bs (2 :: t)).size := by omega
  have hx0 : (bs (2 :: t))[0]'hp = 2 := h.b0 hp
  have hex : (bs (2 :: t)).extract 1 (t.length + 1) = bs t := bs_drop (2 :: t) 1
  have HR := Lib.hid (fun W => refvalue_any t W h8)
  have hsm := getL_small t h8
  have hw := wrap_i64 hsm
  generalize bs (2 :: t) = S at hn hp hx0 hex ⊢
  generalize getL t = G at HR hsm hw ⊢
  generalize toI G = q at hw ⊢
  have hz1 : (1 : Int) ≤ (t.length : Int) + 1 := by omega
  clear h hsm
  unfold ag
  go_enter Tryd.func32, Tryd.ntmps32
  go_wp2_with fail
  with_reducible refine (HR.out _).mono ?_
  rintro e w1 ⟨rfl, rfl⟩
  go_wp2
  go_returns
  exact ⟨rfl, ((Below.refl _ _).alloc (Nat.le_refl _) _).alloc (by simp) _⟩
theorem whole_3 (t : List UInt8) (w : World) (h8 : t.length ≤ 8) :
    Calls Tryd.prog 32 #[.string (bs (3 :: t))] w fun e w' => e = .returned (ag 3 0 (getL t : Int) ⟨#[]⟩) ∧ Below w.heap.size w w' := by
  have h := hd_of (3 :: t)
  have hn : (bs (3 :: t)).size = t.length + 1 := h.size
  have hp : 0 < (bs (3 :: t)).size := by omega
  have hx0 : (bs (3 :: t))[0]'hp = 3 := h.b0 hp
  have hex : (bs (3 :: t)).extract 1 (t.length + 1) = bs t := bs_drop (3 :: t) 1
  have HR := Lib.hid (fun W => refvalue_any t W h8)
  have hsm := getL_small t h8
  have hw := wrap_i64 hsm
  generalize bs (3 :: t) = S at hn hp hx0 hex ⊢
  generalize getL t = G at HR hsm hw ⊢
  clear hw
  have hz1 : (1 : Int) ≤ (t.length : Int) + 1 := by omega
  clear h hsm
  unfold ag
  go_enter Tryd.func32, Tryd.ntmps32
  go_wp2_with fail
  with_reducible refine (HR.out _).mono ?_
  rintro e w1 ⟨rfl, rfl⟩
  go_wp2
  go_returns
  exact ⟨rfl, ((Below.refl _ _).alloc (Nat.le_refl _) _).alloc (by simp) _⟩
theorem whole_4 (c : UInt8) (t : List UInt8) (w : World) :
    Calls Tryd.prog 32 #[.string (bs (4 :: c :: t))] w fun e w' => e = .returned (ag 4 0 0 (bs t)) ∧ Below w.heap.size w w' := by
  have h := hd_of (4 :: c :: t)
  have hn : (bs (4 :: c :: t)).size = t.length + 2 := h.size
  have hp : 0 < (bs (4 :: c :: t)).size := by omega
  have hx0 : (bs (4 :: c :: t))[0]'hp = 4 := h.b0 hp
  have hex : (bs (4 :: c :: t)).extract 2 (t.length + 2) = bs t := bs_drop (4 :: c :: t) 2
  generalize bs (4 :: c :: t) = S at hn hp hx0 hex ⊢
  have hz1 : (2 : Int) ≤ (t.length : Int) + 2 := by omega
  clear h
  unfold ag
  go_enter Tryd.func32, Tryd.ntmps32
  go_wp2
  go_returns
  exact ⟨rfl, ((Below.refl _ _).alloc (Nat.le_refl _) _).alloc (by simp) _⟩
theorem whole_5 (c : UInt8) (t : List UInt8) (w : World) :
    Calls Tryd.prog 32 #[.string (bs (5 :: c :: t))] w fun e w' => e = .returned (ag 5 0 0 (bs t)) ∧ Below w.heap.size w w' := by
  have h := hd_of (5 :: c :: t)
  have hn : (bs (5 :: c :: t)).size = t.length + 2 := h.size
  have hp : 0 < (bs (5 :: c :: t)).size := by omega
  have hx0 : (bs (5 :: c :: t))[0]'hp = 5 := h.b0 hp
  have hex : (bs (5 :: c :: t)).extract 2 (t.length + 2) = bs t := bs_drop (5 :: c :: t) 2
  generalize bs (5 :: c :: t) = S at hn hp hx0 hex ⊢
  have hz1 : (2 : Int) ≤ (t.length : Int) + 2 := by omega
  clear h
  unfold ag
  go_enter Tryd.func32, Tryd.ntmps32
  go_wp2
  go_returns
  exact ⟨rfl, ((Below.refl _ _).alloc (Nat.le_refl _) _).alloc (by simp) _⟩
end Go.Proofs.YthoiolihkomgmaaDoor.Bg5
