/- The contract of value.Check: which values may be; which rows. -/
import Derived.Test.YtbkaphcipbhmhaaDoorVr
import Derived.Test.YtbkaphcipbhmhaaDoorVs
namespace Go.Proofs.YtbkaphcipbhmhaaDoor.Vc
open Go Go.RowKit Go.Proofs.YtbkaphcipbhmhaaDoor.Vm Go.Proofs.YtbkaphcipbhmhaaDoor.Vl Go.Proofs.YtbkaphcipbhmhaaDoor.Ve Go.Proofs.YtbkaphcipbhmhaaDoor.Vr Go.Proofs.YtbkaphcipbhmhaaDoor.Vs
/-- May the value be? -/
def may (v : V) : Bool :=
  if v.k = 0 then eqI v.k v.n v.r v.s v.k 0 0 ⟨#[]⟩
  else if v.k = 1 then (if v.n = 0 ∨ v.n = 1 then eqI v.k 0 v.r v.s v.k 0 0 ⟨#[]⟩ else false)
  else if v.k = 2 then eqI v.k 0 v.r v.s v.k 0 0 ⟨#[]⟩
  else if v.k = 3 then (if Rm.canon v.r = v.r then eqI v.k v.n 0 v.s v.k 0 0 ⟨#[]⟩ else false)
  else if v.k = 4 then (if v.s.size ≤ 100 then eqI v.k v.n v.r ⟨#[]⟩ v.k 0 0 ⟨#[]⟩ else false)
  else if v.k = 5 then (if utf8 v.s = true then (if v.s.size ≤ 100 then eqI v.k v.n v.r ⟨#[]⟩ v.k 0 0 ⟨#[]⟩ else false) else false)
  else false
/-- A block more for v, one more for what is left of it. -/
def two (w : World) (k n : Int) (r : Int) (s : ByteArray) (k' n' r' : Int) (s' : ByteArray) : World :=
  (w.alloc (.cells #[.int .u8 k, .int .i64 n, .int .u64 r, .string s] 38)).alloc (.cells #[.int .u8 k', .int .i64 n', .int .u64 r', .string s'] 38)
theorem below_two (w : World) (k n : Int) (r : Int) (s : ByteArray) (k' n' r' : Int) (s' : ByteArray) : Below w.heap.size w (two w k n r s k' n' r' s') :=
  ((Below.refl _ _).alloc (Nat.le_refl _) _).alloc (by simp) _
theorem bcell {W w1 : World} (hb : Below W.heap.size W w1) : (∀ b o, b < W.heap.size → w1.cell? ⟨b, o, none⟩ = W.cell? ⟨b, o, none⟩) ∧ (∀ b o, b < W.heap.size → w1.frozen? ⟨b, o, none⟩ = W.frozen? ⟨b, o, none⟩) :=
  ⟨fun b o h => hb.cell (p := ⟨b, o, none⟩) h, fun b o h => hb.frozen (p := ⟨b, o, none⟩) h⟩
theorem below_q (w : World) (o o' : Obj) (n : Nat) : Below w.heap.size w ((((w.alloc o).alloc o')).drewN n) :=
  hb_drewN (Lib.hid (((Below.refl _ _).alloc (Nat.le_refl _) _).alloc (by simp) _)) n
theorem below_more {w wr W0 w1 : World} (hb : Hid (Below w.heap.size w wr)) (h1 : Below W0.heap.size W0 w1) (h0 : Below wr.heap.size wr W0) : Below w.heap.size w w1 := (chain hb h1 h0).out
set_option maxRecDepth 20000 in
theorem may0 (n : Int) (r : Nat) (s : ByteArray) (w : World) :
    Calls Tryd.prog 29 #[.agg #[.int .u8 0, .int .i64 n, .int .u64 (r : Int), .string s]] w fun e w' => e = .returned (.bool (eqI 0 n r s 0 0 0 ⟨#[]⟩)) ∧ Below w.heap.size w w' := by
  have he := run_eqI 0 n (r : Int) s 0 0 0 ⟨#[]⟩
  generalize eqI 0 n (r : Int) s 0 0 0 ⟨#[]⟩ = B at he ⊢
  go_enter Tryd.func29, Tryd.ntmps29
  go_wp2
  go_ret
  exact ⟨rfl, (((Below.refl w.heap.size w).alloc (Nat.le_refl _) _).alloc (by simp) _)⟩
set_option maxRecDepth 20000 in
theorem may1 (n : Int) (r : Nat) (s : ByteArray) (w : World) (hn : n = 0 ∨ n = 1) :
    Calls Tryd.prog 29 #[.agg #[.int .u8 1, .int .i64 n, .int .u64 (r : Int), .string s]] w fun e w' => e = .returned (.bool (eqI 1 0 r s 1 0 0 ⟨#[]⟩)) ∧ Below w.heap.size w w' := by
  have he := run_eqI 1 0 (r : Int) s 1 0 0 ⟨#[]⟩
  generalize eqI 1 0 (r : Int) s 1 0 0 ⟨#[]⟩ = B at he ⊢
  rcases hn with rfl | rfl
  all_goals
    go_enter Tryd.func29, Tryd.ntmps29
    go_wp2
    go_ret
    exact ⟨rfl, (((Below.refl w.heap.size w).alloc (Nat.le_refl _) _).alloc (by simp) _)⟩
set_option maxRecDepth 20000 in
theorem may1n (n : Int) (r : Nat) (s : ByteArray) (w : World) (h0 : ¬ n = 0) (h1 : ¬ n = 1) :
    Calls Tryd.prog 29 #[.agg #[.int .u8 1, .int .i64 n, .int .u64 (r : Int), .string s]] w fun e w' => e = .returned (.bool (false)) ∧ Below w.heap.size w w' := by
  have b0 : (n != 0) = true := by simpa using h0
  have b1 : (n != 1) = true := by simpa using h1
  go_enter Tryd.func29, Tryd.ntmps29
  go_wp2
  go_ret
  exact ⟨rfl, (((Below.refl w.heap.size w).alloc (Nat.le_refl _) _).alloc (by simp) _)⟩
set_option maxRecDepth 20000 in
theorem may2 (n : Int) (r : Nat) (s : ByteArray) (w : World) :
    Calls Tryd.prog 29 #[.agg #[.int .u8 2, .int .i64 n, .int .u64 (r : Int), .string s]] w fun e w' => e = .returned (.bool (eqI 2 0 r s 2 0 0 ⟨#[]⟩)) ∧ Below w.heap.size w w' := by
  have he := run_eqI 2 0 (r : Int) s 2 0 0 ⟨#[]⟩
  generalize eqI 2 0 (r : Int) s 2 0 0 ⟨#[]⟩ = B at he ⊢
  go_enter Tryd.func29, Tryd.ntmps29
  go_wp2
  go_ret
  exact ⟨rfl, (((Below.refl w.heap.size w).alloc (Nat.le_refl _) _).alloc (by simp) _)⟩
set_option maxRecDepth 20000 in
theorem may3 (n : Int) (r : Nat) (s : ByteArray) (w : World) (hr : Rm.canon r = r) :
    Calls Tryd.prog 29 #[.agg #[.int .u8 3, .int .i64 n, .int .u64 (r : Int), .string s]] w fun e w' => e = .returned (.bool (eqI 3 n 0 s 3 0 0 ⟨#[]⟩)) ∧ Below w.heap.size w w' := by
  have he := run_eqI 3 n 0 s 3 0 0 ⟨#[]⟩
  generalize eqI 3 n 0 s 3 0 0 ⟨#[]⟩ = B at he ⊢
  have HC : Hid (∀ W, Calls Tryd.prog 52 #[.int .u64 (r : Int)] W fun e w' => e = .returned (.int .u64 (Rm.canon r : Int)) ∧ w' = W) :=
    Lib.hid fun W => (canon_any r W).mono fun _ _ ⟨a, b⟩ => ⟨a, b.symm⟩
  rw [hr] at HC
  clear hr
  go_enter Tryd.func29, Tryd.ntmps29
  go_wp2
  go_quiet ((go_at_call 52; exact Calls.quiet_of_same (HC.out _)))
  go_wp2
  go_ret
  exact ⟨rfl, (below_q _ _ _ _).setCell (by simp) _⟩
set_option maxRecDepth 20000 in
theorem may3n (n : Int) (r : Nat) (s : ByteArray) (w : World) (hr : ¬ Rm.canon r = r) :
    Calls Tryd.prog 29 #[.agg #[.int .u8 3, .int .i64 n, .int .u64 (r : Int), .string s]] w fun e w' => e = .returned (.bool (false)) ∧ Below w.heap.size w w' := by
  have HC : Hid (∀ W, Calls Tryd.prog 52 #[.int .u64 (r : Int)] W fun e w' => e = .returned (.int .u64 (Rm.canon r : Int)) ∧ w' = W) :=
    Lib.hid fun W => (canon_any r W).mono fun _ _ ⟨a, b⟩ => ⟨a, b.symm⟩
  obtain ⟨c, hc⟩ : ∃ c, c = Rm.canon r := ⟨_, rfl⟩
  rw [← hc] at HC hr
  clear hc
  have hr1 : ¬ (r : Int) = (c : Int) := by omega
  clear hr
  go_enter Tryd.func29, Tryd.ntmps29
  go_wp2
  go_quiet ((go_at_call 52; exact Calls.quiet_of_same (HC.out _)))
  go_wp2
  go_ret
  exact ⟨rfl, below_q _ _ _ _⟩
set_option maxRecDepth 20000 in
theorem may4 (n : Int) (r : Nat) (s : ByteArray) (w : World) (hs : s.size ≤ 100) :
    Calls Tryd.prog 29 #[.agg #[.int .u8 4, .int .i64 n, .int .u64 (r : Int), .string s]] w fun e w' => e = .returned (.bool (eqI 4 n r ⟨#[]⟩ 4 0 0 ⟨#[]⟩)) ∧ Below w.heap.size w w' := by
  have he := run_eqI 4 n (r : Int) ⟨#[]⟩ 4 0 0 ⟨#[]⟩
  generalize eqI 4 n (r : Int) ⟨#[]⟩ 4 0 0 ⟨#[]⟩ = B at he ⊢
  go_enter Tryd.func29, Tryd.ntmps29
  go_wp2
  go_ret
  exact ⟨rfl, (((Below.refl w.heap.size w).alloc (Nat.le_refl _) _).alloc (by simp) _)⟩
set_option maxRecDepth 20000 in
theorem may4n (n : Int) (r : Nat) (s : ByteArray) (w : World) (hs : 100 < s.size) :
    Calls Tryd.prog 29 #[.agg #[.int .u8 4, .int .i64 n, .int .u64 (r : Int), .string s]] w fun e w' => e = .returned (.bool (false)) ∧ Below w.heap.size w w' := by
  go_enter Tryd.func29, Tryd.ntmps29
  go_wp2
  go_ret
  exact ⟨rfl, (((Below.refl w.heap.size w).alloc (Nat.le_refl _) _).alloc (by simp) _)⟩
set_option maxRecDepth 20000 in
theorem may5 (n : Int) (r : Nat) (s : ByteArray) (w : World) (hT : Tabs w) (hm : s.size ≤ 9223372036854775807) (hu : utf8 s = true) (hs : s.size ≤ 100) :
    Calls Tryd.prog 29 #[.agg #[.int .u8 5, .int .i64 n, .int .u64 (r : Int), .string s]] w fun e w' => e = .returned (.bool (eqI 5 n r ⟨#[]⟩ 5 0 0 ⟨#[]⟩)) ∧ Below w.heap.size w w' := by
  have he := run_eqI 5 n (r : Int) ⟨#[]⟩ 5 0 0 ⟨#[]⟩
  generalize eqI 5 n (r : Int) ⟨#[]⟩ 5 0 0 ⟨#[]⟩ = B at he ⊢
  have HV := Lib.hid fun W (hW : Tabs W) => valid_any s W hm hW
  have HT : Hid (Tabs _) := Lib.hid (hT.keep (below_two w 5 n r s 5 n r s))
  unfold two at HT
  rw [hu] at HV
  clear hu hT hm
  go_enter Tryd.func29, Tryd.ntmps29
  go_wp2_with fail
  refine (HV.out _ HT.out).mono ?_
  rintro e w1 ⟨rfl, hb1⟩
  obtain ⟨hc1, hf1⟩ := bcell hb1
  have HB := Lib.hid hb1
  clear hb1
  have hz : w.heap.size + 1 < w1.heap.size := by have := HB.out.size; simp at this; omega
  go_wp2
  go_ret
  exact ⟨rfl, (below_more (Lib.hid (below_two w 5 n r s 5 n r s)) HB.out (Below.refl _ _)).setCell (by simp) _⟩
set_option maxRecDepth 20000 in
theorem may5l (n : Int) (r : Nat) (s : ByteArray) (w : World) (hT : Tabs w) (hm : s.size ≤ 9223372036854775807) (hu : utf8 s = true) (hs : 100 < s.size) :
    Calls Tryd.prog 29 #[.agg #[.int .u8 5, .int .i64 n, .int .u64 (r : Int), .string s]] w fun e w' => e = .returned (.bool (false)) ∧ Below w.heap.size w w' := by
  have HV := Lib.hid fun W (hW : Tabs W) => valid_any s W hm hW
  have HT : Hid (Tabs _) := Lib.hid (hT.keep (below_two w 5 n r s 5 n r s))
  unfold two at HT
  rw [hu] at HV
  clear hu hT hm
  go_enter Tryd.func29, Tryd.ntmps29
  go_wp2_with fail
  refine (HV.out _ HT.out).mono ?_
  rintro e w1 ⟨rfl, hb1⟩
  obtain ⟨hc1, hf1⟩ := bcell hb1
  have HB := Lib.hid hb1
  clear hb1
  have hz : w.heap.size + 1 < w1.heap.size := by have := HB.out.size; simp at this; omega
  go_wp2
  go_ret
  exact ⟨rfl, below_more (Lib.hid (below_two w 5 n r s 5 n r s)) HB.out (Below.refl _ _)⟩
set_option maxRecDepth 20000 in
theorem may5u (n : Int) (r : Nat) (s : ByteArray) (w : World) (hT : Tabs w) (hm : s.size ≤ 9223372036854775807) (hu : utf8 s = false) :
    Calls Tryd.prog 29 #[.agg #[.int .u8 5, .int .i64 n, .int .u64 (r : Int), .string s]] w fun e w' => e = .returned (.bool (false)) ∧ Below w.heap.size w w' := by
  have HV := Lib.hid fun W (hW : Tabs W) => valid_any s W hm hW
  have HT : Hid (Tabs _) := Lib.hid (hT.keep (below_two w 5 n r s 5 n r s))
  unfold two at HT
  rw [hu] at HV
  clear hu hT hm
  go_enter Tryd.func29, Tryd.ntmps29
  go_wp2_with fail
  refine (HV.out _ HT.out).mono ?_
  rintro e w1 ⟨rfl, hb1⟩
  obtain ⟨hc1, hf1⟩ := bcell hb1
  have HB := Lib.hid hb1
  clear hb1
  have hz : w.heap.size + 1 < w1.heap.size := by have := HB.out.size; simp at this; omega
  go_wp2
  go_ret
  exact ⟨rfl, below_more (Lib.hid (below_two w 5 n r s 5 n r s)) HB.out (Below.refl _ _)⟩
set_option maxRecDepth 20000 in
theorem may6 (k n : Int) (r : Nat) (s : ByteArray) (w : World) (h0 : ¬ k = 0) (h1 : ¬ k = 1) (h2 : ¬ k = 2) (h3 : ¬ k = 3) (h4 : ¬ k = 4) (h5 : ¬ k = 5) :
    Calls Tryd.prog 29 #[.agg #[.int .u8 k, .int .i64 n, .int .u64 (r : Int), .string s]] w fun e w' => e = .returned (.bool (false)) ∧ Below w.heap.size w w' := by
  go_enter Tryd.func29, Tryd.ntmps29
  go_wp2
  go_ret
  exact ⟨rfl, (((Below.refl w.heap.size w).alloc (Nat.le_refl _) _).alloc (by simp) _)⟩
/-- May the value be? -/
theorem may_any (v : V) (w : World) (hT : Tabs w) (hm : v.s.size ≤ 140737488351232) :
    Calls Tryd.prog 29 #[vv v] w fun e w' => e = .returned (.bool (may v)) ∧ Below w.heap.size w w' := by
  obtain ⟨k, n, r, s⟩ := v
  have hm' : s.size ≤ 9223372036854775807 := Nat.le_trans hm (by decide)
  clear hm
  unfold may vv
  dsimp only
  by_cases h0 : k = 0
  · subst h0; rw [if_pos rfl]; exact may0 n r s w
  rw [if_neg h0]
  by_cases h1 : k = 1
  · subst h1
    rw [if_pos rfl]
    by_cases hn : n = 0 ∨ n = 1
    · rw [if_pos hn]; exact may1 n r s w hn
    · rw [if_neg hn]; exact may1n n r s w (fun h => hn (.inl h)) (fun h => hn (.inr h))
  rw [if_neg h1]
  by_cases h2 : k = 2
  · subst h2; rw [if_pos rfl]; exact may2 n r s w
  rw [if_neg h2]
  by_cases h3 : k = 3
  · subst h3
    rw [if_pos rfl]
    by_cases hr : Rm.canon r = r
    · rw [if_pos hr]; exact may3 n r s w hr
    · rw [if_neg hr]; exact may3n n r s w hr
  rw [if_neg h3]
  by_cases h4 : k = 4
  · subst h4
    rw [if_pos rfl]
    by_cases hs : s.size ≤ 100
    · rw [if_pos hs]; exact may4 n r s w hs
    · rw [if_neg hs]; exact may4n n r s w (by omega)
  rw [if_neg h4]
  by_cases h5 : k = 5
  · subst h5
    rw [if_pos rfl]
    cases hu : utf8 s
    · rw [if_neg (by simp)]; exact may5u n r s w hT hm' hu
    · rw [if_pos rfl]
      by_cases hs : s.size ≤ 100
      · rw [if_pos hs]; exact may5 n r s w hT hm' hu hs
      · rw [if_neg hs]; exact may5l n r s w hT hm' hu (by omega)
  rw [if_neg h5]
  exact may6 k n r s w h0 h1 h2 h3 h4 h5
/-- OK, or ErrArg. -/
def erg (b : Bool) : Int := if b = true then 0 else 2
theorem check_any (v : V) (w : World) (hT : Tabs w) (hm : v.s.size ≤ 140737488351232) :
    Calls Tryd.prog 20 #[vv v] w fun e w' => e = .returned (.int .i64 (erg (may v))) ∧ Below w.heap.size w w' := by
  have HC : Hid (∀ W, Tabs W → Calls Tryd.prog 29 #[vv v] W fun e w' => e = .returned (.bool (may v)) ∧ Below W.heap.size W w') := Lib.hid fun W h => may_any v W h hm
  have HT : Hid (Tabs (w.alloc (.cells #[.int .u8 v.k, .int .i64 v.n, .int .u64 (v.r : Int), .string v.s] 38))) := Lib.hid (hT.keep ((Below.refl _ _).alloc (Nat.le_refl _) _))
  clear hT
  unfold vv at HC ⊢
  cases hb : may v
  all_goals
    rw [hb] at HC
    clear hb
    go_enter Tryd.func20, Tryd.ntmps20
    go_wp2_with fail
    refine (HC.out _ HT.out).mono ?_
    rintro e w1 ⟨rfl, hb1⟩
    have HB := Lib.hid hb1
    clear hb1
    go_wp2
    go_ret
    exact ⟨rfl, ((Below.refl w.heap.size w).alloc (Nat.le_refl _) _).trans (HB.out.mono (by simp))⟩
/-- May the row be? -/
def mayRow (l : List V) : Bool := decide (1 ≤ l.length) && (decide (l.length ≤ 8) && l.all may)
theorem allMay_step {l : List V} {k : Nat} (hk : k < l.length) : (l.drop k).all may = (may l[k] && (l.drop (k + 1)).all may) := by
  rw [List.drop_eq_getElem_cons hk]; rfl
theorem mayRow_of {l : List V} (h1 : 1 ≤ l.length) (h2 : l.length ≤ 8) : mayRow l = l.all may := by
  unfold mayRow; rw [decide_eq_true h1, decide_eq_true h2]; rfl
/-- What the texts of a row take. -/
def Texts (l : List V) : Prop := ∀ v ∈ l, v.s.size ≤ 140737488351232
end Go.Proofs.YtbkaphcipbhmhaaDoor.Vc
