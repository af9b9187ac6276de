/- The contract of man.Save. -/
import Derived.Test.YtaoneiicoaiehaaGreatPg11
import Derived.Test.YtaoneiicoaiehaaGreatDb2
import Derived.Test.YtaoneiicoaiehaaGreatIx11
namespace Go.Proofs.YtaoneiicoaiehaaGreat.Sv11
open Go Go.RowKit Go.Lib Go.Proofs.YtaoneiicoaiehaaGreat Go.Proofs.YtaoneiicoaiehaaGreat.Wm Go.Proofs.YtaoneiicoaiehaaGreat.Fl7 Go.Proofs.YtaoneiicoaiehaaGreat.Dh Go.Proofs.YtaoneiicoaiehaaGreat.Dk Go.Proofs.YtaoneiicoaiehaaGreat.Fm Go.Proofs.YtaoneiicoaiehaaGreat.Cl Go.Proofs.YtaoneiicoaiehaaGreat.Ch Go.Proofs.YtaoneiicoaiehaaGreat.St Go.Proofs.YtaoneiicoaiehaaGreat.Nu11 Go.Proofs.YtaoneiicoaiehaaGreat.Ma11 Go.Proofs.YtaoneiicoaiehaaGreat.Ck11 Go.Proofs.YtaoneiicoaiehaaGreat.Tx11 Go.Proofs.YtaoneiicoaiehaaGreat.Mn11 Go.Proofs.YtaoneiicoaiehaaGreat.Pg11
theorem full_below {w w' : World} {S : Nat → Prop} {p : Nat} {D : St} (h : Full w S p D) (hb : Below w.heap.size w w') : Full w' S p D := Full.frame h fun _ _ hl => hb.block _ hl
theorem to_pre {w w1 w2 : World} {S : Nat → Prop} {p : Nat} {D : St} (hb : Below w.heap.size w w1) (h : To S w1 w2 p D) : To S w w2 p D :=
  ⟨⟨h.1.os.trans hb.os, h.1.tape.trans hb.tape, h.1.output.trans hb.output, Nat.le_trans hb.size h.1.size, fun b hl hn => (h.1.block b (Nat.lt_of_lt_of_le hl hb.size) hn).trans (hb.block b hl)⟩,
   Full.up h.2 fun _b hg => hg.elim .inl fun x => .inr ⟨Nat.le_trans hb.size x.1, x.2⟩⟩
theorem to_below {w w1 : World} {S : Nat → Prop} {p : Nat} {D : St} (h : Full w S p D) (hb : Below w.heap.size w w1) : To S w w1 p D := to_pre hb (To.refl (full_below h hb))
/-- What drop answers and leaves. -/
def dropS (D : St) (k : ByteArray) : Int × St := if (stRemove D k).1 = 3 then (0, (stRemove D k).2) else stRemove D k
/-- What is fit for a call: few calls are loose. -/
abbrev few (D : St) : Prop := D.loose.length ≤ 1000000
set_option maxRecDepth 100000 in
theorem drop_any {S : Nat → Prop} {w : World} {p : Nat} {D : St} (h : Full w S p D) (k : ByteArray) (hk : k.size ≤ maxLen) (hlen : few D) :
    Calls Tryz.prog 33 #[.pointer (some ⟨p, 0, none⟩), .string k] w fun e w' => e = .returned (.int .i64 (dropS D k).1) ∧ To S w w' p (dropS D k).2 := by
  have HR := Lib.hid (Rn.remove_any h k hk (by unfold few at hlen; omega))
  obtain ⟨r, hr⟩ : ∃ r, r = stRemove D k := ⟨_, rfl⟩
  unfold dropS
  rw [← hr] at HR ⊢
  clear hr h
  by_cases h3 : r.1 = 3
  · have h3z : (r.1 == 3) = true := by simpa using h3
    rw [if_pos h3]
    go_enter Tryz.func33, Tryz.ntmps33
    go_wp2_with fail
    refine HR.out.mono ?_
    rintro e w1 ⟨rfl, ht⟩
    have HT := Lib.hid ht
    clear ht
    go_wp2
    go_ret
    exact ⟨rfl, HT.out⟩
  · have h3z : (r.1 == 3) = false := by simpa using h3
    rw [if_neg h3]
    go_enter Tryz.func33, Tryz.ntmps33
    go_wp2_with fail
    refine HR.out.mono ?_
    rintro e w1 ⟨rfl, ht⟩
    have HT := Lib.hid ht
    clear ht
    go_wp2
    go_ret
    exact ⟨rfl, HT.out⟩
/-- A variable in a block of its own. -/
def Box (w : World) (b : Nat) (v : Value) (T : TypeId) : Prop := w.heap[b]? = some (.cells #[v] T)
theorem Box.cell {w : World} {b : Nat} {v : Value} {T : TypeId} (h : Box w b v T) : w.cell? ⟨b, 0, none⟩ = some v := by rw [cell_of h]; rfl
set_option maxRecDepth 100000 in
theorem s1_any {S : Nat → Prop} {w : World} {p b1 b2 : Nat} {D : St} {T1 T2 : TypeId} (h : Full w S p D) (k : ByteArray) (hk : k.size ≤ maxLen) (hlen : few D) (x1 : Box w b1 (.pointer (some ⟨p, 0, none⟩)) T1) (x2 : Box w b2 (.string k) T2) :
    Calls Tryz.prog 32 #[.pointer (some ⟨b1, 0, none⟩), .pointer (some ⟨b2, 0, none⟩)] w fun e w' => e = .returned (.int .i64 (dropS D k).1) ∧ To S w w' p (dropS D k).2 := by
  have HR := Lib.hid (drop_any h k hk hlen)
  have c1 := x1.cell
  have c2 := x2.cell
  clear h x1 x2
  go_enter Tryz.func32, Tryz.ntmps32
  go_wp2_with fail
  refine HR.out.mono ?_
  rintro e w1 ⟨rfl, ht⟩
  have HT := Lib.hid ht
  clear ht
  go_wp2
  go_ret
  exact ⟨rfl, HT.out⟩
set_option maxRecDepth 100000 in
theorem s2_any {S : Nat → Prop} {w : World} {p b1 b2 b3 : Nat} {D : St} {T1 T2 T3 : TypeId} (h : Full w S p D) (k s : ByteArray) (hk : k.size ≤ maxLen) (hs : s.size ≤ 1099511627776) (hlen : few D) (x1 : Box w b1 (.pointer (some ⟨p, 0, none⟩)) T1) (x2 : Box w b2 (.string k) T2) (x3 : Box w b3 (.string s) T3) :
    Calls Tryz.prog 34 #[.pointer (some ⟨b1, 0, none⟩), .pointer (some ⟨b2, 0, none⟩), .pointer (some ⟨b3, 0, none⟩)] w fun e w' => e = .returned (.int .i64 (stAppend D k s).1) ∧ To S w w' p (stAppend D k s).2 := by
  have HR := Lib.hid (Ap.append_any h k s hk hs (by unfold few at hlen; omega))
  have c1 := x1.cell
  have c2 := x2.cell
  have c3 := x3.cell
  clear h x1 x2 x3
  go_enter Tryz.func34, Tryz.ntmps34
  go_wp2_with fail
  refine HR.out.mono ?_
  rintro e w1 ⟨rfl, ht⟩
  have HT := Lib.hid ht
  clear ht
  go_wp2
  go_ret
  exact ⟨rfl, HT.out⟩
set_option maxRecDepth 100000 in
theorem s3_any {S : Nat → Prop} {w : World} {p b1 b2 b3 : Nat} {D : St} {T1 T2 T3 : TypeId} (h : Full w S p D) (j k : ByteArray) (hj : j.size ≤ maxLen) (hk : k.size ≤ maxLen) (hlen : few D) (x1 : Box w b1 (.pointer (some ⟨p, 0, none⟩)) T1) (x2 : Box w b2 (.string j) T2) (x3 : Box w b3 (.string k) T3) :
    Calls Tryz.prog 36 #[.pointer (some ⟨b1, 0, none⟩), .pointer (some ⟨b2, 0, none⟩), .pointer (some ⟨b3, 0, none⟩)] w fun e w' => e = .returned (.int .i64 (stRename D j k).1) ∧ To S w w' p (stRename D j k).2 := by
  have HR := Lib.hid (Rn.rename_any h j k hj hk (by unfold few at hlen; omega))
  have c1 := x1.cell
  have c2 := x2.cell
  have c3 := x3.cell
  clear h x1 x2 x3
  go_enter Tryz.func36, Tryz.ntmps36
  go_wp2_with fail
  refine HR.out.mono ?_
  rintro e w1 ⟨rfl, ht⟩
  have HT := Lib.hid ht
  clear ht
  go_wp2
  go_ret
  exact ⟨rfl, HT.out⟩
/-- Steps that follow one another, up to the first error. -/
def follow : List (St → Int × St) → St → Int × St
  | [], D => (0, D)
  | f :: l, D => if (f D).1 = 0 then follow l (f D).2 else f D
def steps (j k s : ByteArray) : List (St → Int × St) := [fun D => dropS D j, fun D => stAppend D j s, stSync, fun D => stRename D j k, stSync]
/-- The file beside. -/
def new_ (k : ByteArray) : ByteArray := k ++ ⟨#[46, 110, 101, 119]⟩
/-- What Save answers and leaves. -/
def saveS (D : St) (k : ByteArray) (m : Man) : Int × St := if may m then follow (steps (new_ k) k (bs (by_ m))) D else (2, D)
theorem burnt_loose (D : St) : (burnt D).2.loose = D.loose := by
  unfold burnt
  split
  · rfl
  · split <;> rfl
theorem doing_loose (D : St) (c : Cmd) : (doing D c).2.loose.length ≤ D.loose.length + 1 := by
  unfold doing
  split
  · show (D.loose ++ [c]).length ≤ _
    rw [List.length_append]; exact Nat.le_refl _
  · rw [burnt_loose]; omega
theorem append_loose (D : St) (k s : ByteArray) : (stAppend D k s).2.loose.length ≤ D.loose.length + 1 := by
  unfold stAppend
  split
  · exact Nat.le_succ _
  · split
    · exact Nat.le_succ _
    · split
      · exact Nat.le_succ _
      · exact doing_loose _ _
theorem rename_loose (D : St) (j k : ByteArray) : (stRename D j k).2.loose.length ≤ D.loose.length + 1 := by
  unfold stRename
  split
  · exact Nat.le_succ _
  · split
    · exact Nat.le_succ _
    · split
      · exact Nat.le_succ _
      · split
        · exact Nat.le_succ _
        · exact doing_loose _ _
theorem remove_loose (D : St) (k : ByteArray) : (stRemove D k).2.loose.length ≤ D.loose.length + 1 := by
  unfold stRemove
  split
  · exact Nat.le_succ _
  · split
    · exact Nat.le_succ _
    · split
      · exact Nat.le_succ _
      · exact doing_loose _ _
theorem drop_loose (D : St) (k : ByteArray) : (dropS D k).2.loose.length ≤ D.loose.length + 1 := by
  unfold dropS
  split
  · exact remove_loose D k
  · exact remove_loose D k
theorem sync_loose (D : St) : (stSync D).2.loose.length ≤ D.loose.length + 1 := by
  unfold stSync
  split
  · exact Nat.le_succ _
  · split
    · exact Nat.zero_le _
    · rw [burnt_loose]; exact Nat.le_succ _
/-- What stands there while the steps are followed: W2 is the world ahead of them. -/
structure Stg (S : Nat → Prop) (w W2 W : World) (p : Nat) (D' : St) (S' : Nat → Prop) : Prop where
  full : Full W S' p D'
  off : ∀ b, S' b → b < w.heap.size ∨ W2.heap.size ≤ b
  own : ∀ b, S' b → S b ∨ (w.heap.size ≤ b ∧ b < W.heap.size)
  tread : Tread S w W
  size : W2.heap.size ≤ W.heap.size
  kept : ∀ b, w.heap.size ≤ b → b < W2.heap.size → W.heap[b]? = W2.heap[b]?
theorem Stg.to {S S' : Nat → Prop} {w W2 W : World} {p : Nat} {D : St} (h : Stg S w W2 W p D S') : To S w W p D := ⟨h.tread, Full.up h.full h.own⟩
theorem Stg.alloc {S S' : Nat → Prop} {w W2 W : World} {p : Nat} {D : St} (h : Stg S w W2 W p D S') (o : Obj) : Stg S w W2 (W.alloc o) p D S' :=
  ⟨full_below h.full ((Below.refl _ _).alloc (Nat.le_refl _) _), h.off, fun b hb => (h.own b hb).elim .inl fun x => .inr ⟨x.1, by rw [size_alloc]; omega⟩,
   h.tread.trans (Tread.alloc _ _ _), by rw [size_alloc]; have := h.size; omega, fun b h1 h2 => (heap_alloc W o b (by have := h.size; omega)).trans (h.kept b h1 h2)⟩
theorem Stg.call {S S' : Nat → Prop} {w W2 W W' : World} {p : Nat} {D D' : St} (h : Stg S w W2 W p D S') (hw : w.heap.size ≤ W2.heap.size) (ht : To S' W W' p D') : Stg S w W2 W' p D' (grow S' W W') := by
  have hs := ht.1.size
  refine ⟨ht.2, ?_, ?_, ?_, Nat.le_trans h.size hs, ?_⟩
  · rintro b (hb | hb)
    · exact h.off b hb
    · exact .inr (Nat.le_trans h.size hb.1)
  · rintro b (hb | hb)
    · exact (h.own b hb).elim .inl fun x => .inr ⟨x.1, by omega⟩
    · exact .inr ⟨by have := h.size; omega, hb.2⟩
  · refine h.tread.trans (ht.1.mono fun b hb => ?_)
    rcases h.own b hb with x | x
    · exact .inl x
    · exact .inr x
  · intro b h1 h2
    refine (ht.1.block b (by have := h.size; omega) fun hb => ?_).trans (h.kept b h1 h2)
    rcases h.off b hb with x | x <;> omega
theorem Stg.box {S S' : Nat → Prop} {w W2 W : World} {p b : Nat} {D : St} {v : Value} {T : TypeId} (h : Stg S w W2 W p D S') (hx : Box W2 b v T) (hb : w.heap.size ≤ b) : Box W b v T := (h.kept b hb (lt_of_at hx)).trans hx
set_option maxHeartbeats 8000000 in
set_option maxRecDepth 100000 in
theorem save_any (hsort : Sorts) {S : Nat → Prop} {w : World} {p : Nat} {D : St} (h : Full w S p D) (hS : ∀ b, S b → b < w.heap.size) (k : ByteArray) (hk : k.size ≤ 1000000) (hlen : D.loose.length ≤ 900000) {m : Man} {A : Option Addr} {c : Nat} (hm : ManAt w m A c) (hml : m.runs.length ≤ 1000000) :
    Calls Tryz.prog 15 #[.pointer (some ⟨p, 0, none⟩), .string k, manV m A c] w fun e w' => e = .returned (.int .i64 (saveS D k m).1) ∧ To S w w' p (saveS D k m).2 := by
  obtain ⟨W0, hW0⟩ : ∃ W0, W0 = ((w.alloc (.cells #[.pointer (some ⟨p, 0, none⟩)] 25)).alloc (.cells #[.string k] 9)).alloc (.cells #[.int .u64 (m.wal : Int), .slice A m.runs.length c, .int .u64 (m.next : Int)] 36) := ⟨_, rfl⟩
  have hs0 : W0.heap.size = w.heap.size + 3 := by rw [hW0]; simp only [size_alloc]
  have hb0 : Below w.heap.size w W0 := by rw [hW0]; exact (((Below.refl _ _).alloc (Nat.le_refl _) _).alloc (by rw [size_alloc]; omega) _).alloc (by simp only [size_alloc]; omega) _
  have hput := put_any hsort (hm.keep (Nat.le_refl _) hb0) hml
  unfold manV at hput ⊢
  subst hW0
  have HB0 := Lib.hid hb0
  have HS0 := Lib.hid hs0
  have HP := Lib.hid hput
  have HF := Lib.hid h
  have HSS := Lib.hid hS
  clear hb0 hs0 hput h hS hm
  go_enter Tryz.func15, Tryz.ntmps15
  go_wp2_with fail
  refine HP.out.mono ?_
  rintro e w1 ⟨rfl, hb1⟩
  have hbx0 : Box w1 w.heap.size (.pointer (some ⟨p, 0, none⟩)) 25 := by
    refine (hb1.block _ (by rw [HS0.out]; omega)).trans ?_
    rw [heap_alloc _ _ _ (by simp only [size_alloc]; omega), heap_alloc _ _ _ (by simp only [size_alloc]; omega), heap_new]
  have hbx1 : Box w1 (w.heap.size + 1) (.string k) 9 := by
    refine (hb1.block _ (by rw [HS0.out]; omega)).trans ?_
    rw [heap_alloc _ _ _ (by simp only [size_alloc]; omega)]
    have hx := heap_new (w.alloc (.cells #[.pointer (some ⟨p, 0, none⟩)] 25)) (.cells #[.string k] 9)
    rw [size_alloc] at hx; exact hx
  have HX0 := Lib.hid hbx0
  have HX1 := Lib.hid hbx1
  have HB1 := Lib.hid (HB0.out.trans (hb1.mono (by rw [HS0.out]; omega)))
  have HS1 := Lib.hid (show w.heap.size + 3 ≤ w1.heap.size from by have := hb1.size; rw [HS0.out] at this; exact this)
  have x0 := hbx0.cell
  have x1 := hbx1.cell
  clear hbx0 hbx1 hb1 HP HB0 HS0
  cases hm : may m with
  | false =>
    have e1 : putV m = .tuple #[.string ⟨#[]⟩, .int .i64 2] := by unfold putV; rw [hm]; rfl
    have e2 : saveS D k m = (2, D) := by unfold saveS; rw [hm]; rfl
    rw [e1]
    have E2 := Lib.hid e2
    clear e1 e2 hm
    go_wp2
    go_ret
    rw [E2.out]
    exact ⟨rfl, to_below HF.out (HB1.out.alloc HB1.out.size _)⟩
  | true =>
    have e1 : putV m = .tuple #[.string (bs (by_ m)), .int .i64 0] := by unfold putV; rw [if_pos hm]
    have e2 : saveS D k m = follow (steps (new_ k) k (bs (by_ m))) D := by unfold saveS; rw [if_pos hm]
    have hbl : (bs (by_ m)).size ≤ 1099511627776 := by rw [bs_size, by_len]; omega
    rw [e1]
    have E2 := Lib.hid e2
    have HBL := Lib.hid hbl
    obtain ⟨x, hx⟩ : ∃ x, x = bs (by_ m) := ⟨_, rfl⟩
    rw [← hx] at E2 HBL ⊢
    have hs1 := HS1.out
    have a1 : (w1.alloc (.cells #[.string x] 9)).cell? ⟨w.heap.size + 1, 0, none⟩ = some (.string k) := by
      simp only [World.cell?, heap_alloc w1 (.cells #[.string x] 9) (w.heap.size + 1) (by omega)]; exact x1
    have a2 : ((w1.alloc (.cells #[.string x] 9)).alloc (.cells #[.string (k ++ ⟨#[46, 110, 101, 119]⟩)] 9)).cell? ⟨w.heap.size, 0, none⟩ = some (.pointer (some ⟨p, 0, none⟩)) := by
      simp only [World.cell?, heap_alloc (w1.alloc (.cells #[.string x] 9)) (.cells #[.string (k ++ ⟨#[46, 110, 101, 119]⟩)] 9) w.heap.size (by rw [size_alloc]; omega), heap_alloc w1 (.cells #[.string x] 9) w.heap.size (by omega)]; exact x0
    clear e1 e2 hm hbl hx
    go_wp2_with fail
    clear a1 a2 x0 x1
    have A1 := heap_new w1 (.cells #[.string x] 9)
    obtain ⟨W2, hW2⟩ : ∃ W2, W2 = ((w1.alloc (.cells #[.string x] 9)).alloc (.cells #[.string (k ++ ⟨#[46, 110, 101, 119]⟩)] 9)).alloc (.cells #[.func (.func 32) #[] #[.pointer (some ⟨w.heap.size, 0, none⟩), .pointer (some ⟨w1.heap.size + 1, 0, none⟩)], .func (.func 34) #[] #[.pointer (some ⟨w.heap.size, 0, none⟩), .pointer (some ⟨w1.heap.size + 1, 0, none⟩), .pointer (some ⟨w1.heap.size, 0, none⟩)], .func (.func 35) #[.pointer (some ⟨p, 0, none⟩)] #[], .func (.func 36) #[] #[.pointer (some ⟨w.heap.size, 0, none⟩), .pointer (some ⟨w1.heap.size + 1, 0, none⟩), .pointer (some ⟨w.heap.size + 1, 0, none⟩)], .func (.func 35) #[.pointer (some ⟨p, 0, none⟩)] #[]] 81) := ⟨_, rfl⟩
    rw [← hW2]
    have hz : W2.heap.size = w1.heap.size + 3 := by rw [hW2]; simp only [size_alloc]
    have q0 : Box W2 w.heap.size (.pointer (some ⟨p, 0, none⟩)) 25 := by
      show W2.heap[_]? = _
      rw [hW2, heap_alloc _ _ _ (by simp only [size_alloc]; omega), heap_alloc _ _ _ (by simp only [size_alloc]; omega), heap_alloc _ _ _ (by omega)]; exact HX0.out
    have q1 : Box W2 (w.heap.size + 1) (.string k) 9 := by
      show W2.heap[_]? = _
      rw [hW2, heap_alloc _ _ _ (by simp only [size_alloc]; omega), heap_alloc _ _ _ (by simp only [size_alloc]; omega), heap_alloc _ _ _ (by omega)]; exact HX1.out
    have q2 : Box W2 w1.heap.size (.string x) 9 := by
      show W2.heap[_]? = _
      rw [hW2, heap_alloc _ _ _ (by simp only [size_alloc]; omega), heap_alloc _ _ _ (by simp only [size_alloc]; omega)]; exact A1
    have q3 : Box W2 (w1.heap.size + 1) (.string (new_ k)) 9 := by
      show W2.heap[_]? = _
      rw [hW2, heap_alloc _ _ _ (by simp only [size_alloc]; omega)]
      have hx := heap_new (w1.alloc (.cells #[.string x] 9)) (.cells #[.string (k ++ ⟨#[46, 110, 101, 119]⟩)] 9)
      rw [size_alloc] at hx; exact hx
    have hst : Stg S w W2 W2 p D S := by
      have hb : Below w.heap.size w W2 := by rw [hW2]; exact ((HB1.out.alloc HB1.out.size _).alloc (by rw [size_alloc]; omega) _).alloc (by simp only [size_alloc]; omega) _
      exact ⟨full_below HF.out hb, fun b hb' => .inl (HSS.out b hb'), fun b hb' => .inl hb', ⟨hb.os, hb.tape, hb.output, hb.size, fun b hl _ => hb.block b hl⟩, Nat.le_refl _, fun _ _ _ => rfl⟩
    have Q0 := Lib.hid q0
    have Q1 := Lib.hid q1
    have Q2 := Lib.hid q2
    have Q3 := Lib.hid q3
    have HST := Lib.hid hst
    have HWZ := Lib.hid (show w.heap.size ≤ W2.heap.size from by omega)
    have HZ1 := Lib.hid (show w.heap.size ≤ w1.heap.size from by omega)
    have hkk : (new_ k).size ≤ maxLen := by unfold new_ maxLen; rw [ByteArray.size_append]; show k.size + 4 ≤ _; omega
    have HKK := Lib.hid hkk
    have hk2 : k.size ≤ maxLen := by unfold maxLen; omega
    have HK2 := Lib.hid hk2
    clear q0 q1 q2 q3 hst A1 hz hW2 HB1 HX0 HX1 HF HSS hkk hk2 HS1 hs1
    go_loopg [40] 6 (fun g1 vi wr => ∃ (i : Nat) (D' : St) (S' : Nat → Prop), vi = .int .i64 (i : Int) ∧ i ≤ 5 ∧ 5 - i < g1 ∧ Hid (Stg S w W2 wr p D' S') ∧ D'.loose.length ≤ D.loose.length + i ∧ Hid (follow ((steps (new_ k) k x).drop i) D' = follow (steps (new_ k) k x) D))
    case atStart => exact ⟨0, D, S, rfl, by omega, by omega, HST, by omega, Lib.hid rfl⟩
    case round =>
      clear HST
      obtain ⟨i, D', S', rfl, hi5, hig, HG, hlo, HE⟩ := hrel
      by_cases hi : i < 5
      · have hcase : i = 0 ∨ i = 1 ∨ i = 2 ∨ i = 3 ∨ i = 4 := by omega
        rcases hcase with rfl | rfl | rfl | rfl | rfl
        · have hal := HG.out.alloc (.cells #[.func (.func 32) #[] #[.pointer (some ⟨w.heap.size, 0, none⟩), .pointer (some ⟨w1.heap.size + 1, 0, none⟩)]] 80)
          have hc := s1_any hal.full (new_ k) HKK.out (by show D'.loose.length ≤ 1000000; omega) (hal.box Q0.out (by have := HZ1.out; omega)) (hal.box Q3.out (by have := HZ1.out; omega))
          have HC := Lib.hid hc
          have HA := Lib.hid hal
          have HLO := Lib.hid (drop_loose D' (new_ k))
          clear hc hal
          have hix := Ix11.index_any (.func (.func 32) #[] #[.pointer (some ⟨w.heap.size, 0, none⟩), .pointer (some ⟨w1.heap.size + 1, 0, none⟩)]) (.func (.func 34) #[] #[.pointer (some ⟨w.heap.size, 0, none⟩), .pointer (some ⟨w1.heap.size + 1, 0, none⟩), .pointer (some ⟨w1.heap.size, 0, none⟩)]) (.func (.func 35) #[.pointer (some ⟨p, 0, none⟩)] #[]) (.func (.func 36) #[] #[.pointer (some ⟨w.heap.size, 0, none⟩), .pointer (some ⟨w1.heap.size + 1, 0, none⟩), .pointer (some ⟨w.heap.size + 1, 0, none⟩)]) (.func (.func 35) #[.pointer (some ⟨p, 0, none⟩)] #[]) wr 0 (.func (.func 32) #[] #[.pointer (some ⟨w.heap.size, 0, none⟩), .pointer (some ⟨w1.heap.size + 1, 0, none⟩)]) (by omega) rfl
          have e0 : ((0 : Nat) : Int) = 0 := rfl
          rw [e0] at hix
          go_wp2_with fail
          refine HC.out.mono ?_
          rintro e w5 ⟨rfl, ht⟩
          have HC5 := Lib.hid (HA.out.call HWZ.out ht)
          clear ht HC
          by_cases hr : (dropS D' (new_ k)).1 = 0
          · have he : follow ((steps (new_ k) k x).drop (0 + 1)) (dropS D' (new_ k)).2 = follow (steps (new_ k) k x) D := by
              rw [← HE.out]
              show _ = if (dropS D' (new_ k)).1 = 0 then _ else _
              rw [if_pos hr]; rfl
            have HE2 := Lib.hid he
            rw [hr]
            clear hr he
            go_wp2
            go_roundg (5 - 0)
            case measure => omega
            case rel => exact ⟨0 + 1, _, _, by first | rfl | go_num, by omega, by omega, HC5, by have := HLO.out; omega, HE2⟩
          · have hrb : ((dropS D' (new_ k)).1 == 0) = false := by simpa using hr
            have he : follow (steps (new_ k) k x) D = dropS D' (new_ k) := by
              rw [← HE.out]
              show (if (dropS D' (new_ k)).1 = 0 then _ else _) = _
              rw [if_neg hr]
            have HE2 := Lib.hid he
            clear he
            go_wp2
            go_ret
            rw [E2.out, HE2.out]
            exact ⟨rfl, HC5.out.to⟩
        · have hal := HG.out.alloc (.cells #[.func (.func 34) #[] #[.pointer (some ⟨w.heap.size, 0, none⟩), .pointer (some ⟨w1.heap.size + 1, 0, none⟩), .pointer (some ⟨w1.heap.size, 0, none⟩)]] 80)
          have hc := s2_any hal.full (new_ k) x HKK.out HBL.out (by show D'.loose.length ≤ 1000000; omega) (hal.box Q0.out (by have := HZ1.out; omega)) (hal.box Q3.out (by have := HZ1.out; omega)) (hal.box Q2.out (by have := HZ1.out; omega))
          have HC := Lib.hid hc
          have HA := Lib.hid hal
          have HLO := Lib.hid (append_loose D' (new_ k) x)
          clear hc hal
          have hix := Ix11.index_any (.func (.func 32) #[] #[.pointer (some ⟨w.heap.size, 0, none⟩), .pointer (some ⟨w1.heap.size + 1, 0, none⟩)]) (.func (.func 34) #[] #[.pointer (some ⟨w.heap.size, 0, none⟩), .pointer (some ⟨w1.heap.size + 1, 0, none⟩), .pointer (some ⟨w1.heap.size, 0, none⟩)]) (.func (.func 35) #[.pointer (some ⟨p, 0, none⟩)] #[]) (.func (.func 36) #[] #[.pointer (some ⟨w.heap.size, 0, none⟩), .pointer (some ⟨w1.heap.size + 1, 0, none⟩), .pointer (some ⟨w.heap.size + 1, 0, none⟩)]) (.func (.func 35) #[.pointer (some ⟨p, 0, none⟩)] #[]) wr 1 (.func (.func 34) #[] #[.pointer (some ⟨w.heap.size, 0, none⟩), .pointer (some ⟨w1.heap.size + 1, 0, none⟩), .pointer (some ⟨w1.heap.size, 0, none⟩)]) (by omega) rfl
          have e1 : ((1 : Nat) : Int) = 1 := rfl
          rw [e1] at hix
          go_wp2_with fail
          refine HC.out.mono ?_
          rintro e w5 ⟨rfl, ht⟩
          have HC5 := Lib.hid (HA.out.call HWZ.out ht)
          clear ht HC
          by_cases hr : (stAppend D' (new_ k) x).1 = 0
          · have he : follow ((steps (new_ k) k x).drop (1 + 1)) (stAppend D' (new_ k) x).2 = follow (steps (new_ k) k x) D := by
              rw [← HE.out]
              show _ = if (stAppend D' (new_ k) x).1 = 0 then _ else _
              rw [if_pos hr]; rfl
            have HE2 := Lib.hid he
            rw [hr]
            clear hr he
            go_wp2
            go_roundg (5 - 1)
            case measure => omega
            case rel => exact ⟨1 + 1, _, _, by first | rfl | go_num, by omega, by omega, HC5, by have := HLO.out; omega, HE2⟩
          · have hrb : ((stAppend D' (new_ k) x).1 == 0) = false := by simpa using hr
            have he : follow (steps (new_ k) k x) D = stAppend D' (new_ k) x := by
              rw [← HE.out]
              show (if (stAppend D' (new_ k) x).1 = 0 then _ else _) = _
              rw [if_neg hr]
            have HE2 := Lib.hid he
            clear he
            go_wp2
            go_ret
            rw [E2.out, HE2.out]
            exact ⟨rfl, HC5.out.to⟩
        · have hal := HG.out.alloc (.cells #[.func (.func 35) #[.pointer (some ⟨p, 0, none⟩)] #[]] 80)
          have hc := Sy.sync_any hal.full (by omega)
          have HC := Lib.hid hc
          have HA := Lib.hid hal
          have HLO := Lib.hid (sync_loose D')
          clear hc hal
          have hix := Ix11.index_any (.func (.func 32) #[] #[.pointer (some ⟨w.heap.size, 0, none⟩), .pointer (some ⟨w1.heap.size + 1, 0, none⟩)]) (.func (.func 34) #[] #[.pointer (some ⟨w.heap.size, 0, none⟩), .pointer (some ⟨w1.heap.size + 1, 0, none⟩), .pointer (some ⟨w1.heap.size, 0, none⟩)]) (.func (.func 35) #[.pointer (some ⟨p, 0, none⟩)] #[]) (.func (.func 36) #[] #[.pointer (some ⟨w.heap.size, 0, none⟩), .pointer (some ⟨w1.heap.size + 1, 0, none⟩), .pointer (some ⟨w.heap.size + 1, 0, none⟩)]) (.func (.func 35) #[.pointer (some ⟨p, 0, none⟩)] #[]) wr 2 (.func (.func 35) #[.pointer (some ⟨p, 0, none⟩)] #[]) (by omega) rfl
          have e2 : ((2 : Nat) : Int) = 2 := rfl
          rw [e2] at hix
          go_wp2_with fail
          refine HC.out.mono ?_
          rintro e w5 ⟨rfl, ht⟩
          have HC5 := Lib.hid (HA.out.call HWZ.out ht)
          clear ht HC
          by_cases hr : (stSync D').1 = 0
          · have he : follow ((steps (new_ k) k x).drop (2 + 1)) (stSync D').2 = follow (steps (new_ k) k x) D := by
              rw [← HE.out]
              show _ = if (stSync D').1 = 0 then _ else _
              rw [if_pos hr]; rfl
            have HE2 := Lib.hid he
            rw [hr]
            clear hr he
            go_wp2
            go_roundg (5 - 2)
            case measure => omega
            case rel => exact ⟨2 + 1, _, _, by first | rfl | go_num, by omega, by omega, HC5, by have := HLO.out; omega, HE2⟩
          · have hrb : ((stSync D').1 == 0) = false := by simpa using hr
            have he : follow (steps (new_ k) k x) D = stSync D' := by
              rw [← HE.out]
              show (if (stSync D').1 = 0 then _ else _) = _
              rw [if_neg hr]
            have HE2 := Lib.hid he
            clear he
            go_wp2
            go_ret
            rw [E2.out, HE2.out]
            exact ⟨rfl, HC5.out.to⟩
        · have hal := HG.out.alloc (.cells #[.func (.func 36) #[] #[.pointer (some ⟨w.heap.size, 0, none⟩), .pointer (some ⟨w1.heap.size + 1, 0, none⟩), .pointer (some ⟨w.heap.size + 1, 0, none⟩)]] 80)
          have hc := s3_any hal.full (new_ k) k HKK.out HK2.out (by show D'.loose.length ≤ 1000000; omega) (hal.box Q0.out (by have := HZ1.out; omega)) (hal.box Q3.out (by have := HZ1.out; omega)) (hal.box Q1.out (by have := HZ1.out; omega))
          have HC := Lib.hid hc
          have HA := Lib.hid hal
          have HLO := Lib.hid (rename_loose D' (new_ k) k)
          clear hc hal
          have hix := Ix11.index_any (.func (.func 32) #[] #[.pointer (some ⟨w.heap.size, 0, none⟩), .pointer (some ⟨w1.heap.size + 1, 0, none⟩)]) (.func (.func 34) #[] #[.pointer (some ⟨w.heap.size, 0, none⟩), .pointer (some ⟨w1.heap.size + 1, 0, none⟩), .pointer (some ⟨w1.heap.size, 0, none⟩)]) (.func (.func 35) #[.pointer (some ⟨p, 0, none⟩)] #[]) (.func (.func 36) #[] #[.pointer (some ⟨w.heap.size, 0, none⟩), .pointer (some ⟨w1.heap.size + 1, 0, none⟩), .pointer (some ⟨w.heap.size + 1, 0, none⟩)]) (.func (.func 35) #[.pointer (some ⟨p, 0, none⟩)] #[]) wr 3 (.func (.func 36) #[] #[.pointer (some ⟨w.heap.size, 0, none⟩), .pointer (some ⟨w1.heap.size + 1, 0, none⟩), .pointer (some ⟨w.heap.size + 1, 0, none⟩)]) (by omega) rfl
          have e3 : ((3 : Nat) : Int) = 3 := rfl
          rw [e3] at hix
          go_wp2_with fail
          refine HC.out.mono ?_
          rintro e w5 ⟨rfl, ht⟩
          have HC5 := Lib.hid (HA.out.call HWZ.out ht)
          clear ht HC
          by_cases hr : (stRename D' (new_ k) k).1 = 0
          · have he : follow ((steps (new_ k) k x).drop (3 + 1)) (stRename D' (new_ k) k).2 = follow (steps (new_ k) k x) D := by
              rw [← HE.out]
              show _ = if (stRename D' (new_ k) k).1 = 0 then _ else _
              rw [if_pos hr]; rfl
            have HE2 := Lib.hid he
            rw [hr]
            clear hr he
            go_wp2
            go_roundg (5 - 3)
            case measure => omega
            case rel => exact ⟨3 + 1, _, _, by first | rfl | go_num, by omega, by omega, HC5, by have := HLO.out; omega, HE2⟩
          · have hrb : ((stRename D' (new_ k) k).1 == 0) = false := by simpa using hr
            have he : follow (steps (new_ k) k x) D = stRename D' (new_ k) k := by
              rw [← HE.out]
              show (if (stRename D' (new_ k) k).1 = 0 then _ else _) = _
              rw [if_neg hr]
            have HE2 := Lib.hid he
            clear he
            go_wp2
            go_ret
            rw [E2.out, HE2.out]
            exact ⟨rfl, HC5.out.to⟩
        · have hal := HG.out.alloc (.cells #[.func (.func 35) #[.pointer (some ⟨p, 0, none⟩)] #[]] 80)
          have hc := Sy.sync_any hal.full (by omega)
          have HC := Lib.hid hc
          have HA := Lib.hid hal
          have HLO := Lib.hid (sync_loose D')
          clear hc hal
          have hix := Ix11.index_any (.func (.func 32) #[] #[.pointer (some ⟨w.heap.size, 0, none⟩), .pointer (some ⟨w1.heap.size + 1, 0, none⟩)]) (.func (.func 34) #[] #[.pointer (some ⟨w.heap.size, 0, none⟩), .pointer (some ⟨w1.heap.size + 1, 0, none⟩), .pointer (some ⟨w1.heap.size, 0, none⟩)]) (.func (.func 35) #[.pointer (some ⟨p, 0, none⟩)] #[]) (.func (.func 36) #[] #[.pointer (some ⟨w.heap.size, 0, none⟩), .pointer (some ⟨w1.heap.size + 1, 0, none⟩), .pointer (some ⟨w.heap.size + 1, 0, none⟩)]) (.func (.func 35) #[.pointer (some ⟨p, 0, none⟩)] #[]) wr 4 (.func (.func 35) #[.pointer (some ⟨p, 0, none⟩)] #[]) (by omega) rfl
          have e4 : ((4 : Nat) : Int) = 4 := rfl
          rw [e4] at hix
          go_wp2_with fail
          refine HC.out.mono ?_
          rintro e w5 ⟨rfl, ht⟩
          have HC5 := Lib.hid (HA.out.call HWZ.out ht)
          clear ht HC
          by_cases hr : (stSync D').1 = 0
          · have he : follow ((steps (new_ k) k x).drop (4 + 1)) (stSync D').2 = follow (steps (new_ k) k x) D := by
              rw [← HE.out]
              show _ = if (stSync D').1 = 0 then _ else _
              rw [if_pos hr]; rfl
            have HE2 := Lib.hid he
            rw [hr]
            clear hr he
            go_wp2
            go_roundg (5 - 4)
            case measure => omega
            case rel => exact ⟨4 + 1, _, _, by first | rfl | go_num, by omega, by omega, HC5, by have := HLO.out; omega, HE2⟩
          · have hrb : ((stSync D').1 == 0) = false := by simpa using hr
            have he : follow (steps (new_ k) k x) D = stSync D' := by
              rw [← HE.out]
              show (if (stSync D').1 = 0 then _ else _) = _
              rw [if_neg hr]
            have HE2 := Lib.hid he
            clear he
            go_wp2
            go_ret
            rw [E2.out, HE2.out]
            exact ⟨rfl, HC5.out.to⟩
      · obtain rfl : i = 5 := by omega
        have hz5 : ¬ ((5 : Nat) : Int) < 5 := by omega
        go_wp2
        go_ret
        have he : follow (steps (new_ k) k x) D = (0, D') := HE.out.symm
        rw [E2.out, he]
        exact ⟨rfl, HG.out.to⟩
end Go.Proofs.YtaoneiicoaiehaaGreat.Sv11
