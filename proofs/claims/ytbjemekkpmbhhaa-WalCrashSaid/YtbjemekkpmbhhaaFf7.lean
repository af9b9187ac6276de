/- The contract of frame.first: the text of the frame that these bytes begin with, or why there is none (written by genff7.py). -/
import Derived.Test.YtbjemekkpmbhhaaFn7
import Derived.Test.YtbjemekkpmbhhaaGet
import Derived.Deep.QuietTactic
import Derived.BigQuiet
import Derived.Deep.RegionHeld3
import Derived.Deep.DrawnRows
namespace Go.Proofs.Ytbjemekkpmbhhaa.Ff7
open Go Go.RowKit Go.Proofs.Ytbjemekkpmbhhaa.Wm Go.Proofs.Ytbjemekkpmbhhaa.Wc Go.Proofs.Ytbjemekkpmbhhaa.Fl7
section
variable {P : Program} {md : Region.Mode} {ops : Array Oper} {Q : Exit → Act → World → Prop} {S : World → Prop}
/-- An operation that is not wanted. -/
theorem heldUn {i : Nat} {oi : Oper} {fuel : Nat} {listed : Array Bool} {a : Act} {w : World} (d : Option Tmp) (hi : ops[i]? = some oi) (hd : oi.dst = d) (hs : Region.noSelect ops = true) (hf : Region.free md ops listed i = true)
    (hr : (Region.ready md ops listed).contains i = true) (hQ : ∀ c a w, Q (.panic c) (a.put d undef) w → Q (.panic c) a w) (hw : Region.wanted oi (yielded ops a.tmps) = false) (hS : S w)
    (h : wpAnyH P md ops Q S fuel (listed.setIfInBounds i true) (a.put d undef) w) : wpAnyH P md ops Q S (fuel + 1) listed a w := by
  subst hd
  exact wpAnyH_take hi hs hf hr hQ (Or.inr ⟨hw, rfl⟩) hS h
/-- One that yields a value, whatever the world that meets S. -/
theorem heldIn {i : Nat} {oi : Oper} {fuel : Nat} {listed : Array Bool} {a : Act} {w : World} (d : Option Tmp) {v : Value} (hi : ops[i]? = some oi) (hd : oi.dst = d) (hs : Region.noSelect ops = true) (hf : Region.free md ops listed i = true)
    (hr : (Region.ready md ops listed).contains i = true) (hQ : ∀ c a w, Q (.panic c) (a.put d v) w → Q (.panic c) a w) (hw : Region.wanted oi (yielded ops a.tmps) = true) (hS : S w) (hy : ∀ w, S w → (execOp a.eval oi).run P w = .ok (.value v) w)
    (h : wpAnyH P md ops Q S fuel (listed.setIfInBounds i true) (a.put d v) w) : wpAnyH P md ops Q S (fuel + 1) listed a w := by
  subst hd
  exact wpAnyH_take hi hs hf hr hQ (Or.inl ⟨hw, hy⟩) hS h
end

theorem ex_list (b : ByteArray) (i k : Nat) : (b.extract i k).data.toList = (b.data.toList.take k).drop i := by
  rw [ByteArray.data_extract]
  simp [List.drop_take]
theorem sum_at (t : ByteArray) (S : ByteArray) (hS : S = bs (sum4 t.data.toList)) (hm : t.size ≤ maxLen) : Hid (∀ W, Calls Try.prog 48 #[.string t] W fun e w' => e = .returned (.string S) ∧ Below W.heap.size W w') :=
  Lib.hid fun W => by rw [hS]; exact Fn7.sum_any t W hm
theorem get_at (t : ByteArray) (n : Nat) (h4 : t.size = 4) (hn : n = getL t.data.toList) : Hid (∀ W, Calls Try.prog 70 #[.string t] W fun e w' => e = .returned (.tuple #[.int .u64 (n : Int), .int .i64 0]) ∧ W = w') :=
  Lib.hid fun W => by rw [hn]; exact WGet.ok t W (by omega) (by omega)
theorem wrap_small (n : Nat) (h : n ≤ 4194304) : IntKind.i64.wrap (n : Int) = (n : Int) := by
  simp only [IntKind.wrap, IntKind.bits, IntKind.signed]
  simp
  omega
/-- Fewer than eight bytes. -/
theorem few (b : ByteArray) (w : World) (h : b.size < 8) :
    Calls Try.prog 59 #[.string b] w fun e w' => e = .returned (.tuple #[.string ⟨#[]⟩, .int .i64 70]) ∧ Below w.heap.size w w' := by
  go_enter Try.func59, Try.ntmps59
  go_wp2
  go_ret2
  exact ⟨rfl, Below.refl _ _⟩
set_option maxRecDepth 20000 in
set_option maxHeartbeats 2000000 in
/-- The sum of the count is another one. -/
theorem bad_count (b S : ByteArray) (n : Nat) (w : World) (h8 : 8 ≤ b.size) (hm : b.size ≤ maxLen) (HG : Hid (∀ W, Calls Try.prog 70 #[.string (b.extract 0 4)] W fun e w' => e = .returned (.tuple #[.int .u64 (n : Int), .int .i64 0]) ∧ W = w')) (HC : Hid (∀ W, Calls Try.prog 48 #[.string (b.extract 0 4)] W fun e w' => e = .returned (.string S) ∧ Below W.heap.size W w')) (hne : (S.toList == (b.extract 4 8).toList) = false) :
    Calls Try.prog 59 #[.string b] w fun e w' => e = .returned (.tuple #[.string ⟨#[]⟩, .int .i64 71]) ∧ Below w.heap.size w w' := by
  unfold maxLen at hm
  have z0 : (4 : Int) ≤ (b.size : Int) := by omega
  have z1 : (8 : Int) ≤ (b.size : Int) := by omega
  have z2 : decide ((b.size : Int) < 8) = false := decide_eq_false (by omega)
  have hne2 : (S.toList != (b.extract 4 8).toList) = true := by rw [bne, hne]; rfl
  go_enter Try.func59, Try.ntmps59
  go_wp2_with fail
  refine (HG.out _).mono ?_
  rintro e w1 ⟨rfl, rfl⟩
  clear HG
  go_wp2_with fail
  refine wp_region_held_drew (S := fun _ => True) (by kernel_rfl) ?_ (fun hHeld => ?_)
  · trivial
  refine heldIn (i := 0) (some 19) (v := ?_) rfl rfl (by kernel_rfl) (by kernel_rfl) (by kernel_rfl) (fun _ _ _ h => h) (by rfl) (by assumption) ?_ ?_
  rotate_left
  · intro w hSw
    try dsimp only at hSw
    go_simp
    try with_reducible rfl
  try simp only [Act.put, List.setIfInBounds_toArray, List.set_cons_zero, List.set_cons_succ]
  refine heldIn (i := 2) (some 21) (v := ?_) rfl rfl (by kernel_rfl) (by kernel_rfl) (by kernel_rfl) (fun _ _ _ h => h) (by rfl) (by assumption) ?_ ?_
  rotate_left
  · intro w hSw
    try dsimp only at hSw
    go_simp
    try with_reducible rfl
  try simp only [Act.put, List.setIfInBounds_toArray, List.set_cons_zero, List.set_cons_succ]
  refine heldIn (i := 3) (some 22) (v := ?_) rfl rfl (by kernel_rfl) (by kernel_rfl) (by kernel_rfl) (fun _ _ _ h => h) (by rfl) (by assumption) ?_ ?_
  rotate_left
  · intro w hSw
    try dsimp only at hSw
    go_simp
    try with_reducible rfl
  try simp only [Act.put, List.setIfInBounds_toArray, List.set_cons_zero, List.set_cons_succ]
  refine wpAnyH_ready (rs := [1]) (by kernel_rfl) (by simp) ?_
  refine AllReadyH.cons rfl (fun K hK => ?_) AllReadyH.nil
  go_simp
  with_reducible refine (HC.out _).mono ?_
  rintro e v1 ⟨rfl, hbx⟩
  have H1 := Lib.hid (((Below.refl _ w).drew).trans hbx)
  clear hbx
  go_wp2_with fail
  refine hK.out _ _ ?_ (fun hHeld => ?_)
  · trivial
  clear hK K
  try simp only [Act.put, List.setIfInBounds_toArray, List.set_cons_zero, List.set_cons_succ]
  refine heldIn (i := 4) (some 23) (v := ?_) rfl rfl (by kernel_rfl) (by kernel_rfl) (by kernel_rfl) (fun _ _ _ h => h) (by rfl) (by assumption) ?_ ?_
  rotate_left
  · intro w hSw
    try dsimp only at hSw
    go_simp
    try with_reducible rfl
  try simp only [Act.put, List.setIfInBounds_toArray, List.set_cons_zero, List.set_cons_succ]
  refine heldIn (i := 5) (some 24) (v := ?_) rfl rfl (by kernel_rfl) (by kernel_rfl) (by kernel_rfl) (fun _ _ _ h => h) (by rfl) (by assumption) ?_ ?_
  rotate_left
  · intro w hSw
    try dsimp only at hSw
    go_simp
    try with_reducible rfl
  try simp only [Act.put, List.setIfInBounds_toArray, List.set_cons_zero, List.set_cons_succ]
  refine heldUn (i := 6) (some 25) rfl rfl (by kernel_rfl) (by kernel_rfl) (by kernel_rfl) (fun _ _ _ h => h) ?_ (by assumption) ?_
  · go_simp
  try simp only [Act.put, List.setIfInBounds_toArray, List.set_cons_zero, List.set_cons_succ]
  refine heldUn (i := 7) (some 26) rfl rfl (by kernel_rfl) (by kernel_rfl) (by kernel_rfl) (fun _ _ _ h => h) ?_ (by assumption) ?_
  · go_simp
  try simp only [Act.put, List.setIfInBounds_toArray, List.set_cons_zero, List.set_cons_succ]
  refine heldIn (i := 8) (some 27) (v := ?_) rfl rfl (by kernel_rfl) (by kernel_rfl) (by kernel_rfl) (fun _ _ _ h => h) (by rfl) (by assumption) ?_ ?_
  rotate_left
  · intro w hSw
    try dsimp only at hSw
    go_simp
    try with_reducible rfl
  try simp only [Act.put, List.setIfInBounds_toArray, List.set_cons_zero, List.set_cons_succ]
  refine wpAnyH_done (by kernel_rfl) ?_ _
  go_wp2
  go_ret2
  exact ⟨rfl, H1.out⟩
set_option maxRecDepth 20000 in
set_option maxHeartbeats 2000000 in
/-- The count is too great. -/
theorem bad_long (b S : ByteArray) (n : Nat) (w : World) (h8 : 8 ≤ b.size) (hm : b.size ≤ maxLen) (HG : Hid (∀ W, Calls Try.prog 70 #[.string (b.extract 0 4)] W fun e w' => e = .returned (.tuple #[.int .u64 (n : Int), .int .i64 0]) ∧ W = w')) (HC : Hid (∀ W, Calls Try.prog 48 #[.string (b.extract 0 4)] W fun e w' => e = .returned (.string S) ∧ Below W.heap.size W w')) (hne : (S.toList == (b.extract 4 8).toList) = true) (hn : 4194304 < n) (hn2 : n < 4294967296) :
    Calls Try.prog 59 #[.string b] w fun e w' => e = .returned (.tuple #[.string ⟨#[]⟩, .int .i64 71]) ∧ Below w.heap.size w w' := by
  unfold maxLen at hm
  have z0 : (4 : Int) ≤ (b.size : Int) := by omega
  have z1 : (8 : Int) ≤ (b.size : Int) := by omega
  have z2 : decide ((b.size : Int) < 8) = false := decide_eq_false (by omega)
  have hne2 : (S.toList != (b.extract 4 8).toList) = false := by rw [bne, hne]; rfl
  have z3 : decide ((4194304 : Int) < (n : Int)) = true := decide_eq_true (by omega)
  go_enter Try.func59, Try.ntmps59
  go_wp2_with fail
  refine (HG.out _).mono ?_
  rintro e w1 ⟨rfl, rfl⟩
  clear HG
  go_wp2_with fail
  go_region_held3 (fun _ => True) (trivial) (first
    | (go_at_call 48; (with_reducible refine (HC.out _).mono ?_); rintro e w1 ⟨rfl, hb⟩; have HB := Lib.hid (((Below.refl _ w).drew).trans hb); clear hb))
  all_goals
    go_wp2
    go_ret2
    exact ⟨rfl, HB.out⟩
set_option maxRecDepth 20000 in
set_option maxHeartbeats 2000000 in
/-- Bytes are wanting. -/
theorem torn (b S : ByteArray) (n : Nat) (w : World) (h8 : 8 ≤ b.size) (hm : b.size ≤ maxLen) (HG : Hid (∀ W, Calls Try.prog 70 #[.string (b.extract 0 4)] W fun e w' => e = .returned (.tuple #[.int .u64 (n : Int), .int .i64 0]) ∧ W = w')) (HC : Hid (∀ W, Calls Try.prog 48 #[.string (b.extract 0 4)] W fun e w' => e = .returned (.string S) ∧ Below W.heap.size W w')) (hne : (S.toList == (b.extract 4 8).toList) = true) (hn : n ≤ 4194304) (hl : b.size < 12 + n) :
    Calls Try.prog 59 #[.string b] w fun e w' => e = .returned (.tuple #[.string ⟨#[]⟩, .int .i64 70]) ∧ Below w.heap.size w w' := by
  unfold maxLen at hm
  have z0 : (4 : Int) ≤ (b.size : Int) := by omega
  have z1 : (8 : Int) ≤ (b.size : Int) := by omega
  have z2 : decide ((b.size : Int) < 8) = false := decide_eq_false (by omega)
  have hne2 : (S.toList != (b.extract 4 8).toList) = false := by rw [bne, hne]; rfl
  have z3 : decide ((4194304 : Int) < (n : Int)) = false := decide_eq_false (by omega)
  have z4 : IntKind.i64.wrap (n : Int) = (n : Int) := wrap_small n hn
  go_enter Try.func59, Try.ntmps59
  go_wp2_with fail
  refine (HG.out _).mono ?_
  rintro e w1 ⟨rfl, rfl⟩
  clear HG
  go_wp2_with fail
  go_region_held3 (fun _ => True) (trivial) (first
    | (go_at_call 48; (with_reducible refine (HC.out _).mono ?_); rintro e w1 ⟨rfl, hb⟩; have HB := Lib.hid (((Below.refl _ w).drew).trans hb); clear hb))
  all_goals
    go_wp2
    go_ret2
    exact ⟨rfl, HB.out⟩
set_option maxRecDepth 20000 in
set_option maxHeartbeats 2000000 in
/-- The sum of the text is another one. -/
theorem bad_text (b S : ByteArray) (n : Nat) (w : World) (h8 : 8 ≤ b.size) (hm : b.size ≤ maxLen) (HG : Hid (∀ W, Calls Try.prog 70 #[.string (b.extract 0 4)] W fun e w' => e = .returned (.tuple #[.int .u64 (n : Int), .int .i64 0]) ∧ W = w')) (HC : Hid (∀ W, Calls Try.prog 48 #[.string (b.extract 0 4)] W fun e w' => e = .returned (.string S) ∧ Below W.heap.size W w')) (T : ByteArray) (HT : Hid (∀ W, Calls Try.prog 48 #[.string (b.extract 12 (12 + n))] W fun e w' => e = .returned (.string T) ∧ Below W.heap.size W w')) (hne : (S.toList == (b.extract 4 8).toList) = true) (hn : n ≤ 4194304) (hl : 12 + n ≤ b.size) (hte : (T.toList == (b.extract 8 12).toList) = false) :
    Calls Try.prog 59 #[.string b] w fun e w' => e = .returned (.tuple #[.string ⟨#[]⟩, .int .i64 71]) ∧ Below w.heap.size w w' := by
  unfold maxLen at hm
  have z0 : (4 : Int) ≤ (b.size : Int) := by omega
  have z1 : (8 : Int) ≤ (b.size : Int) := by omega
  have z2 : decide ((b.size : Int) < 8) = false := decide_eq_false (by omega)
  have hne2 : (S.toList != (b.extract 4 8).toList) = false := by rw [bne, hne]; rfl
  have z3 : decide ((4194304 : Int) < (n : Int)) = false := decide_eq_false (by omega)
  have z4 : IntKind.i64.wrap (n : Int) = (n : Int) := wrap_small n hn
  have hte2 : (T.toList != (b.extract 8 12).toList) = true := by rw [bne, hte]; rfl
  have z8 : decide ((b.size : Int) < 12 + (n : Int)) = false := decide_eq_false (by omega)
  have z9 : (12 : Int) ≤ 12 + (n : Int) := by omega
  have zA : 12 + (n : Int) ≤ (b.size : Int) := by omega
  have z5 : (12 : Int) ≤ (b.size : Int) := by omega
  have z6 : ((12 : Int) + (n : Int)).toNat = 12 + n := by omega
  go_enter Try.func59, Try.ntmps59
  go_wp2_with fail
  refine (HG.out _).mono ?_
  rintro e w1 ⟨rfl, rfl⟩
  clear HG
  go_wp2_with fail
  go_region_held3 (fun _ => True) (trivial) (first
    | (go_at_call 48; (with_reducible refine (HC.out _).mono ?_); rintro e w1 ⟨rfl, hb⟩; have HB := Lib.hid (((Below.refl _ w).drew).trans hb); clear hb))
  all_goals
    go_wp2
    go_region_held3 (fun _ => True) (trivial) (first
      | (go_at_call 48; (with_reducible refine (HT.out _).mono ?_); rintro e w2 ⟨rfl, hb⟩; have HB2 := Lib.hid (HB.out.trans ((((Below.refl _ w1).drew).trans hb).mono HB.out.size)); clear hb))
    all_goals
      go_wp2
      go_ret2
      exact ⟨rfl, HB2.out⟩
set_option maxRecDepth 20000 in
set_option maxHeartbeats 2000000 in
/-- A whole frame. -/
theorem ok (b S : ByteArray) (n : Nat) (w : World) (h8 : 8 ≤ b.size) (hm : b.size ≤ maxLen) (HG : Hid (∀ W, Calls Try.prog 70 #[.string (b.extract 0 4)] W fun e w' => e = .returned (.tuple #[.int .u64 (n : Int), .int .i64 0]) ∧ W = w')) (HC : Hid (∀ W, Calls Try.prog 48 #[.string (b.extract 0 4)] W fun e w' => e = .returned (.string S) ∧ Below W.heap.size W w')) (T : ByteArray) (HT : Hid (∀ W, Calls Try.prog 48 #[.string (b.extract 12 (12 + n))] W fun e w' => e = .returned (.string T) ∧ Below W.heap.size W w')) (hne : (S.toList == (b.extract 4 8).toList) = true) (hn : n ≤ 4194304) (hl : 12 + n ≤ b.size) (hte : (T.toList == (b.extract 8 12).toList) = true) :
    Calls Try.prog 59 #[.string b] w fun e w' => e = .returned (.tuple #[.string (b.extract 12 (12 + n)), .int .i64 0]) ∧ Below w.heap.size w w' := by
  unfold maxLen at hm
  have z0 : (4 : Int) ≤ (b.size : Int) := by omega
  have z1 : (8 : Int) ≤ (b.size : Int) := by omega
  have z2 : decide ((b.size : Int) < 8) = false := decide_eq_false (by omega)
  have hne2 : (S.toList != (b.extract 4 8).toList) = false := by rw [bne, hne]; rfl
  have z3 : decide ((4194304 : Int) < (n : Int)) = false := decide_eq_false (by omega)
  have z4 : IntKind.i64.wrap (n : Int) = (n : Int) := wrap_small n hn
  have hte2 : (T.toList != (b.extract 8 12).toList) = false := by rw [bne, hte]; rfl
  have z8 : decide ((b.size : Int) < 12 + (n : Int)) = false := decide_eq_false (by omega)
  have z9 : (12 : Int) ≤ 12 + (n : Int) := by omega
  have zA : 12 + (n : Int) ≤ (b.size : Int) := by omega
  have z5 : (12 : Int) ≤ (b.size : Int) := by omega
  have z6 : ((12 : Int) + (n : Int)).toNat = 12 + n := by omega
  go_enter Try.func59, Try.ntmps59
  go_wp2_with fail
  refine (HG.out _).mono ?_
  rintro e w1 ⟨rfl, rfl⟩
  clear HG
  go_wp2_with fail
  go_region_held3 (fun _ => True) (trivial) (first
    | (go_at_call 48; (with_reducible refine (HC.out _).mono ?_); rintro e w1 ⟨rfl, hb⟩; have HB := Lib.hid (((Below.refl _ w).drew).trans hb); clear hb))
  all_goals
    go_wp2
    go_region_held3 (fun _ => True) (trivial) (first
      | (go_at_call 48; (with_reducible refine (HT.out _).mono ?_); rintro e w2 ⟨rfl, hb⟩; have HB2 := Lib.hid (HB.out.trans ((((Below.refl _ w1).drew).trans hb).mono HB.out.size)); clear hb))
    all_goals
      go_wp2
      go_ret2
      exact ⟨rfl, HB2.out⟩
theorem first_any (b : ByteArray) (w : World) (hm : b.size ≤ maxLen) :
    Calls Try.prog 59 #[.string b] w fun e w' => e = .returned (.tuple #[.string (bs (first b.data.toList).1), .int .i64 (first b.data.toList).2]) ∧ Below w.heap.size w w' := by
  obtain ⟨l, hl⟩ : ∃ l, l = b.data.toList := ⟨_, rfl⟩
  have hsz : l.length = b.size := by rw [hl]; simp
  rw [← hl]
  by_cases h8 : b.size < 8
  · have e : first l = ([], 70) := by unfold first; rw [if_pos (by omega)]
    rw [e]
    exact few b w h8
  · have hM : b.size ≤ maxLen := hm
    unfold maxLen at hm
    have s4 : (b.extract 0 4).size = 4 := by rw [ByteArray.size_extract]; omega
    have l4 : (b.extract 0 4).data.toList = l.take 4 := by rw [ex_list, hl]; rfl
    have l8 : (b.extract 4 8).toList = (l.take 8).drop 4 := by rw [ByteArray.toList_eq, ex_list, hl]
    have HG := get_at (b.extract 0 4) (num l) s4 (by rw [l4]; rfl)
    have HC := sum_at (b.extract 0 4) (bs (sum4 (l.take 4))) (by rw [l4]) (by rw [s4]; decide)
    have lS : (bs (sum4 (l.take 4))).toList = sum4 (l.take 4) := by rw [ByteArray.toList_eq]; rfl
    have hn32 : num l < 4294967296 := by
      have := getL_lt (l.take 4)
      have e4 : (l.take 4).length = 4 := by rw [List.length_take]; omega
      rw [e4] at this
      exact this
    by_cases h1 : sum4 (l.take 4) = (l.take 8).drop 4
    · have hne : ((bs (sum4 (l.take 4))).toList == (b.extract 4 8).toList) = true := by rw [lS, l8]; exact beq_iff_eq.2 h1
      by_cases h2 : 4194304 < num l
      · have e : first l = ([], 71) := by unfold first; rw [if_neg (by omega), if_neg (fun x => x h1), if_pos h2]
        rw [e]
        exact bad_long b _ _ w (by omega) hM HG HC hne h2 hn32
      · by_cases h3 : b.size < 12 + num l
        · have e : first l = ([], 70) := by unfold first; rw [if_neg (by omega), if_neg (fun x => x h1), if_neg h2, if_pos (by omega)]
          rw [e]
          exact torn b _ _ w (by omega) hM HG HC hne (by omega) h3
        · have lt : (b.extract 12 (12 + num l)).data.toList = (l.take (12 + num l)).drop 12 := by rw [ex_list, hl]
          have lt2 : (b.extract 8 12).toList = (l.take 12).drop 8 := by rw [ByteArray.toList_eq, ex_list, hl]
          have st : (b.extract 12 (12 + num l)).size ≤ maxLen := by rw [ByteArray.size_extract]; unfold maxLen; omega
          have HT := sum_at (b.extract 12 (12 + num l)) (bs (sum4 ((l.take (12 + num l)).drop 12))) (by rw [lt]) st
          have lT : (bs (sum4 ((l.take (12 + num l)).drop 12))).toList = sum4 ((l.take (12 + num l)).drop 12) := by rw [ByteArray.toList_eq]; rfl
          by_cases h4 : sum4 ((l.take (12 + num l)).drop 12) = (l.take 12).drop 8
          · have e : first l = ((l.take (12 + num l)).drop 12, 0) := by unfold first; rw [if_neg (by omega), if_neg (fun x => x h1), if_neg h2, if_neg (by omega), if_neg (fun x => x h4)]
            rw [e, ← lt]
            exact ok b _ _ w (by omega) hM HG HC _ HT hne (by omega) (by omega) (by rw [lT, lt2]; exact beq_iff_eq.2 h4)
          · have e : first l = ([], 71) := by unfold first; rw [if_neg (by omega), if_neg (fun x => x h1), if_neg h2, if_neg (by omega), if_pos h4]
            rw [e]
            exact bad_text b _ _ w (by omega) hM HG HC _ HT hne (by omega) (by omega) (by rw [lT, lt2]; exact beq_eq_false_iff_ne.2 h4)
    · have hne : ((bs (sum4 (l.take 4))).toList == (b.extract 4 8).toList) = false := by rw [lS, l8]; exact beq_eq_false_iff_ne.2 h1
      have e : first l = ([], 71) := by unfold first; rw [if_neg (by omega), if_pos h1]
      rw [e]
      exact bad_count b _ _ w (by omega) hM HG HC hne
end Go.Proofs.Ytbjemekkpmbhhaa.Ff7
