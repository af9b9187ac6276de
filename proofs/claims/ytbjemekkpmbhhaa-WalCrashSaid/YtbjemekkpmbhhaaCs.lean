/- The contract of disk.Crash. -/
import Derived.Test.YtbjemekkpmbhhaaCr
namespace Go.Proofs.Ytbjemekkpmbhhaa.Cs
open Go Go.RowKit Go.Lib Go.Proofs.Ytbjemekkpmbhhaa.Mp Go.Proofs.Ytbjemekkpmbhhaa.Dh Go.Proofs.Ytbjemekkpmbhhaa.Ext Go.Proofs.Ytbjemekkpmbhhaa.Fm Go.Proofs.Ytbjemekkpmbhhaa.Dk Go.Proofs.Ytbjemekkpmbhhaa.Cl Go.Proofs.Ytbjemekkpmbhhaa.Bu Go.Proofs.Ytbjemekkpmbhhaa.Ch Go.Proofs.Ytbjemekkpmbhhaa.La Go.Proofs.Ytbjemekkpmbhhaa.Co Go.Proofs.Ytbjemekkpmbhhaa.Se Go.Proofs.Ytbjemekkpmbhhaa.Nm Go.Proofs.Ytbjemekkpmbhhaa.St Go.Proofs.Ytbjemekkpmbhhaa.Ap Go.Proofs.Ytbjemekkpmbhhaa.Tr Go.Proofs.Ytbjemekkpmbhhaa.Kl Go.Proofs.Ytbjemekkpmbhhaa.Sy Go.Proofs.Ytbjemekkpmbhhaa.Cr
def wiped (D : St) (F : Fs) : St := { D with now := F, sure := F, loose := [], fuse := -1, still := false }
/-- What a crash does behind the calls that it keeps. -/
def Tail (S : Nat → Prop) (w w2 : World) (p : Nat) (m1 u1 : Value) (D : St) (F : Fs) : Prop :=
  Calls Try.prog 37 #[.pointer (some ⟨p, 3, none⟩)] w2 fun e w3 => e = .returned (.agg #[.map (some (w2.heap.size + 1)), .int .i64 (used F)]) ∧
    w3.cell? ⟨p, 1, none⟩ = some m1 ∧ w3.cell? ⟨p, 2, none⟩ = some u1 ∧ w3.frozen? ⟨p, 1, none⟩ = false ∧ w3.frozen? ⟨p, 2, none⟩ = false ∧
    Hid (Calls Try.prog 35 #[.pointer (some ⟨p, 0, none⟩)] ((w3.setCell ⟨p, 1, none⟩ (.map (some (w2.heap.size + 1)))).setCell ⟨p, 2, none⟩ (.int .i64 (used F))) fun e w5 => e = .returned (.tuple #[]) ∧ To S w w5 p (wiped D F))
theorem tail_of {S : Nat → Prop} {w w2 : World} {p : Nat} {d2 : Dsk} {D : St} (F : Fs) (hR : Ran S w w2 p d2) (hlv : d2.lv = .slice none 0 0) (hview : view d2.es2 = F) (hroom : d2.room = D.room) (hr2 : 0 ≤ D.room ∧ D.room ≤ 16777216) (hu : used F ≤ 16777216) :
    Tail S w w2 p (.map (some d2.m1)) (.int .i64 (used (view d2.es1))) D F := by
  refine (Fc.fclone_any (S := grow S w w2) d2.cells _ d2.es2 d2.c2 (used F) hR.at_.blk.2 rfl (by rw [← hview]; rfl) hR.at_.sure.2 hR.at_.wf2 (fun e he => hR.at_.texts.1 e (List.mem_append_right _ he))).mono ?_
  rintro e w3 ⟨rfl, hb, hm, hs⟩
  have r3 := ran_below hR.at_ hb
  refine ⟨rfl, DskAt.c r3.at_ 1, DskAt.c r3.at_ 2, DskAt.f r3.at_ 1, DskAt.f r3.at_ 2, ?_⟩
  have r4 := cloned hR hb hm hs
  rw [hview] at r4
  refine Lib.hid ((mend_any r4.at_).mono ?_)
  rintro e w5 ⟨rfl, r5⟩
  have r6 := Ran.trans r4 r5
  refine ⟨rfl, r6.tread, _, r6.at_, .inl ⟨hlv, rfl⟩, hroom, ?_, hview, rfl, rfl, ⟨trivial, rfl, hu, hr2, ⟨Int.le_refl _, (by decide : (-1 : Int) ≤ 9223372036854775807)⟩⟩⟩
  show view (d2.es2.map clip) = F
  rw [view_clip, hview]
theorem neq1 (W : World) : (binOp .neq 62 .nilFunc .nilFunc).run Try.prog W = .ok (.bool false) W := by kernel_rfl
theorem neq2 (W : World) (g : FuncId) (caps : Array Value) : (binOp .neq 62 (.func (.func g) #[] caps) .nilFunc).run Try.prog W = .ok (.bool true) W := by kernel_rfl
/-- A settle, and what may be done behind it. -/
def Settled (S : Nat → Prop) (w : World) (p : Nat) (n : Int) (R : World → Prop) : Prop :=
  Calls Try.prog 36 #[.pointer (some ⟨p, 0, none⟩), .int .i64 n] w fun e w1 => e = .returned (.tuple #[]) ∧ R w1
set_option maxHeartbeats 1000000 in
theorem walk_none_low {S : Nat → Prop} {w : World} {p : Nat} (keep t m : Int)  (c5 : w.cell? ⟨p, 5, none⟩ = some (Value.slice none 0 0)) (hk1 : -9223372036854775808 ≤ keep) (hk2 : keep ≤ 9223372036854775807) 
    (e1 : (if keep < 0 then 0 else keep) = m) (e2 : (if 0 < m then 0 else m) = 0) (m1 u1 : Value) (D : St) (F : Fs)
    (hs : Settled S w p 0 (fun w1 => Tail S w w1 p m1 u1 D F)) (ht : t ≤ 0) :
    Calls Try.prog 12 #[.pointer (some ⟨p, 0, none⟩), .int .i64 keep, .int .i64 t] w fun e w' => e = .returned (.int .i64 0) ∧ To S w w' p (wiped D F) := by
  have HS := Lib.hid hs
  clear hs
  go_enter Try.func12, Try.ntmps12
  go_wp2_with (first | (go_at_call 36; refine HS.out.mono ?_; rintro e w1 ⟨rfl, hr⟩; have HT := Lib.hid hr; clear hr) | (go_at_call 37; refine (by assumption : Hid (Tail _ _ _ _ _ _ _ _)).out.mono ?_; rintro e w3 ⟨rfl, x1, x2, x3, x4, x5⟩) | (go_at_call 35; refine (by assumption : Hid (Calls _ _ _ _ _)).out.mono ?_; rintro e w5 ⟨rfl, hto⟩; have HZ := Lib.hid hto; clear hto))
  all_goals
    go_ret
    exact ⟨rfl, (by assumption : Hid (To _ _ _ _ _)).out⟩
set_option maxHeartbeats 1000000 in
theorem walk_none_all {S : Nat → Prop} {w : World} {p : Nat} (keep t m : Int)  (c5 : w.cell? ⟨p, 5, none⟩ = some (Value.slice none 0 0)) (hk1 : -9223372036854775808 ≤ keep) (hk2 : keep ≤ 9223372036854775807) 
    (e1 : (if keep < 0 then 0 else keep) = m) (e2 : (if 0 < m then 0 else m) = 0) (m1 u1 : Value) (D : St) (F : Fs)
    (hs : Settled S w p 0 (fun w1 => Tail S w w1 p m1 u1 D F)) (ht : 0 < t) :
    Calls Try.prog 12 #[.pointer (some ⟨p, 0, none⟩), .int .i64 keep, .int .i64 t] w fun e w' => e = .returned (.int .i64 0) ∧ To S w w' p (wiped D F) := by
  have HS := Lib.hid hs
  clear hs
  go_enter Try.func12, Try.ntmps12
  go_wp2_with (first | (go_at_call 36; refine HS.out.mono ?_; rintro e w1 ⟨rfl, hr⟩; have HT := Lib.hid hr; clear hr) | (go_at_call 37; refine (by assumption : Hid (Tail _ _ _ _ _ _ _ _)).out.mono ?_; rintro e w3 ⟨rfl, x1, x2, x3, x4, x5⟩) | (go_at_call 35; refine (by assumption : Hid (Calls _ _ _ _ _)).out.mono ?_; rintro e w5 ⟨rfl, hto⟩; have HZ := Lib.hid hto; clear hto))
  all_goals
    go_ret
    exact ⟨rfl, (by assumption : Hid (To _ _ _ _ _)).out⟩
set_option maxHeartbeats 1000000 in
theorem walk_low {S : Nat → Prop} {w : World} {p : Nat} (keep t m : Int) (K L cp b : Nat) (c5 : w.cell? ⟨p, 5, none⟩ = some (Value.slice (some ⟨b, 0, none⟩) L cp)) (hk1 : -9223372036854775808 ≤ keep) (hk2 : keep ≤ 9223372036854775807) (hL : L ≤ 1099511627776) (hLc : L ≤ cp) (hcm : cp ≤ 9223372036854775807)
    (e1 : (if keep < 0 then 0 else keep) = m) (e2 : (if (L : Int) < m then (L : Int) else m) = (K : Int)) (hKL : K ≤ L) (m1 u1 : Value) (D : St) (F : Fs)
    (hs : Settled S w p K (fun w1 => Tail S w w1 p m1 u1 D F)) (ht : t ≤ 0) :
    Calls Try.prog 12 #[.pointer (some ⟨p, 0, none⟩), .int .i64 keep, .int .i64 t] w fun e w' => e = .returned (.int .i64 0) ∧ To S w w' p (wiped D F) := by
  have HS := Lib.hid hs
  clear hs
  go_enter Try.func12, Try.ntmps12
  go_wp2_with (first | (go_at_call 36; refine HS.out.mono ?_; rintro e w1 ⟨rfl, hr⟩; have HT := Lib.hid hr; clear hr) | (go_at_call 37; refine (by assumption : Hid (Tail _ _ _ _ _ _ _ _)).out.mono ?_; rintro e w3 ⟨rfl, x1, x2, x3, x4, x5⟩) | (go_at_call 35; refine (by assumption : Hid (Calls _ _ _ _ _)).out.mono ?_; rintro e w5 ⟨rfl, hto⟩; have HZ := Lib.hid hto; clear hto))
  all_goals
    go_ret
    exact ⟨rfl, (by assumption : Hid (To _ _ _ _ _)).out⟩
set_option maxHeartbeats 1000000 in
theorem walk_all {S : Nat → Prop} {w : World} {p : Nat} (keep t m : Int) (K L cp b : Nat) (c5 : w.cell? ⟨p, 5, none⟩ = some (Value.slice (some ⟨b, 0, none⟩) L cp)) (hk1 : -9223372036854775808 ≤ keep) (hk2 : keep ≤ 9223372036854775807) (hL : L ≤ 1099511627776) (hLc : L ≤ cp) (hcm : cp ≤ 9223372036854775807)
    (e1 : (if keep < 0 then 0 else keep) = m) (e2 : (if (L : Int) < m then (L : Int) else m) = (K : Int)) (hKL : K ≤ L) (m1 u1 : Value) (D : St) (F : Fs)
    (hs : Settled S w p K (fun w1 => Tail S w w1 p m1 u1 D F)) (ht : 0 < t) (hKe : K = L) :
    Calls Try.prog 12 #[.pointer (some ⟨p, 0, none⟩), .int .i64 keep, .int .i64 t] w fun e w' => e = .returned (.int .i64 0) ∧ To S w w' p (wiped D F) := by
  have HS := Lib.hid hs
  clear hs
  subst hKe
  go_enter Try.func12, Try.ntmps12
  go_wp2_with (first | (go_at_call 36; refine HS.out.mono ?_; rintro e w1 ⟨rfl, hr⟩; have HT := Lib.hid hr; clear hr) | (go_at_call 37; refine (by assumption : Hid (Tail _ _ _ _ _ _ _ _)).out.mono ?_; rintro e w3 ⟨rfl, x1, x2, x3, x4, x5⟩) | (go_at_call 35; refine (by assumption : Hid (Calls _ _ _ _ _)).out.mono ?_; rintro e w5 ⟨rfl, hto⟩; have HZ := Lib.hid hto; clear hto))
  all_goals
    go_ret
    exact ⟨rfl, (by assumption : Hid (To _ _ _ _ _)).out⟩
set_option maxHeartbeats 1000000 in
theorem walk_nil {S : Nat → Prop} {w : World} {p : Nat} (keep t m : Int) (L cp b : Nat) (c5 : w.cell? ⟨p, 5, none⟩ = some (Value.slice (some ⟨b, 0, none⟩) L cp)) (hk1 : -9223372036854775808 ≤ keep) (hk2 : keep ≤ 9223372036854775807) (hL : L ≤ 1099511627776) (hLc : L ≤ cp) (hcm : cp ≤ 9223372036854775807)
    (e1 : (if keep < 0 then 0 else keep) = m) (hm0 : 0 ≤ m) (hmL : m < L) (m1 u1 : Value) (D : St) (F : Fs)
    (hs : Settled S w p m (fun w1 => Tail S w w1 p m1 u1 D F ∧ w1.cell? ⟨b, m.toNat * 2 + 1, none⟩ = some .nilFunc)) (ht : 0 < t) :
    Calls Try.prog 12 #[.pointer (some ⟨p, 0, none⟩), .int .i64 keep, .int .i64 t] w fun e w' => e = .returned (.int .i64 0) ∧ To S w w' p (wiped D F) := by
  have HS := Lib.hid hs
  have hq1 := neq1
  clear hs
  go_enter Try.func12, Try.ntmps12
  go_wp2_with (first | (go_at_call 36; refine HS.out.mono ?_; rintro e w1 ⟨rfl, hr, ctv⟩; have HT := Lib.hid hr; clear hr) | (go_at_call 37; refine (by assumption : Hid (Tail _ _ _ _ _ _ _ _)).out.mono ?_; rintro e w3 ⟨rfl, x1, x2, x3, x4, x5⟩) | (go_at_call 35; refine (by assumption : Hid (Calls _ _ _ _ _)).out.mono ?_; rintro e w5 ⟨rfl, hto⟩; have HZ := Lib.hid hto; clear hto))
  all_goals
    go_ret
    exact ⟨rfl, (by assumption : Hid (To _ _ _ _ _)).out⟩
set_option maxHeartbeats 1000000 in
theorem walk_torn {S : Nat → Prop} {w : World} {p : Nat} (keep t m : Int) (L cp b : Nat) (c5 : w.cell? ⟨p, 5, none⟩ = some (Value.slice (some ⟨b, 0, none⟩) L cp)) (hk1 : -9223372036854775808 ≤ keep) (hk2 : keep ≤ 9223372036854775807) (hL : L ≤ 1099511627776) (hLc : L ≤ cp) (hcm : cp ≤ 9223372036854775807)
    (e1 : (if keep < 0 then 0 else keep) = m) (hm0 : 0 ≤ m) (hmL : m < L) (m1 u1 : Value) (D : St) (F : Fs)
    (g : FuncId) (caps : Array Value) (hs : Settled S w p m (fun w1 => w1.cell? ⟨b, m.toNat * 2 + 1, none⟩ = some (.func (.func g) #[] caps) ∧ Ch.Enters g ∧ Calls Try.prog g (#[.pointer (some ⟨p, 3, none⟩), .int .i64 t] ++ caps) w1.drew fun e w2 => e = .returned (.tuple #[]) ∧ Tail S w w2 p m1 u1 D F)) (ht : 0 < t) :
    Calls Try.prog 12 #[.pointer (some ⟨p, 0, none⟩), .int .i64 keep, .int .i64 t] w fun e w' => e = .returned (.int .i64 0) ∧ To S w w' p (wiped D F) := by
  have HS := Lib.hid hs
  have hq2 := neq2
  clear hs
  go_enter Try.func12, Try.ntmps12
  go_wp2_with fail
  refine HS.out.mono ?_
  rintro e w1 ⟨rfl, ctv, hen, hca⟩
  obtain ⟨W1, hW1⟩ : ∃ W1, W1 = w1.drew := ⟨_, rfl⟩
  have ctv2 : W1.cell? ⟨b, m.toNat * 2 + 1, none⟩ = some (.func (.func g) #[] caps) := by rw [hW1]; exact ctv
  rw [← hW1] at hca
  have HE := Lib.hid hen
  have HCA := Lib.hid hca
  have HW1 := Lib.hid hW1
  clear hen hca hW1
  go_wp2_with fail
  refine wp_region_still_tail 8 (by kernel_rfl) (by kernel_rfl) ?_
  simp only [List.take_succ_cons, List.take_zero, List.drop_succ_cons, List.drop_zero]
  change wpStill _ _ w1.drew _ _ _
  rw [← HW1.out]
  repeat (with_reducible refine wpStill_step (fun K hK => ?_); go_simp; with_reducible refine hK _ ?_; clear hK K)
  with_reducible refine wpStill_nil ?_
  change wpList _ _ _ _ _ w1.drew
  rw [← HW1.out]
  go_wp2_with fail
  rw [HE.out, Oper.upon_enter]
  refine HCA.out.mono ?_
  rintro e w2 ⟨rfl, hr⟩
  have HT := Lib.hid hr
  clear hr ctv ctv2
  go_wp2_with (first | (go_at_call 37; refine (by assumption : Hid (Tail _ _ _ _ _ _ _ _)).out.mono ?_; rintro e w3 ⟨rfl, x1, x2, x3, x4, x5⟩) | (go_at_call 35; refine (by assumption : Hid (Calls _ _ _ _ _)).out.mono ?_; rintro e w5 ⟨rfl, hto⟩; have HZ := Lib.hid hto; clear hto))
  all_goals
    go_ret
    exact ⟨rfl, (by assumption : Hid (To _ _ _ _ _)).out⟩
end Go.Proofs.Ytbjemekkpmbhhaa.Cs
