/- After: the program's and the document's own. -/
import Derived.Test.YtbkaphcipbhmhaaDoorBu6
import Derived.Test.YtbkaphcipbhmhaaDoorKn6
import Derived.Deep.RegionHeld3
import Derived.Deep.RegionLaw
import Derived.Deep.QuietTactic
import Derived.Laws.Concat
namespace Go.Proofs.YtbkaphcipbhmhaaDoor.Ka6
open Go Go.RowKit Go.Proofs.YtbkaphcipbhmhaaDoor.Wm Go.Proofs.YtbkaphcipbhmhaaDoor.Cm Go.Proofs.YtbkaphcipbhmhaaDoor.Vm Go.Proofs.YtbkaphcipbhmhaaDoor.Kl6 Go.Proofs.YtbkaphcipbhmhaaDoor.Bu6 Go.Proofs.YtbkaphcipbhmhaaDoor.Kn6
/-- How many bytes are left where the bytes 255 at the end are cut off. -/
def cut : List UInt8 → Nat → Nat
  | _, 0 => 0
  | s, n + 1 => if s.getD n 0 = 255 then cut s n else n + 1
def after (s : List UInt8) : List UInt8 × Bool := if cut s s.length = 0 then ([], false) else (s.take (cut s s.length - 1) ++ [s.getD (cut s s.length - 1) 0 + 1], true)
theorem getD_elem (S : ByteArray) (k : Nat) (h : k < S.size) : S.data.toList.getD k 0 = S[k]'h := by
  have hl : k < S.data.toList.length := by rw [Array.length_toList]; exact h
  rw [List.getD_eq_getElem?_getD, List.getElem?_eq_getElem hl, Option.getD_some]
  exact Kn6.elem S k h
theorem cut_255 {s : List UInt8} {n : Nat} (h : ((s.getD n 0).toNat : Int) = 255) : cut s (n + 1) = cut s n := by
  have : s.getD n 0 = 255 := UInt8.toNat_inj.1 (by simpa using (by omega : (s.getD n 0).toNat = 255))
  show (if s.getD n 0 = 255 then cut s n else n + 1) = _
  rw [if_pos this]
theorem cut_other {s : List UInt8} {n : Nat} (h : ¬ ((s.getD n 0).toNat : Int) = 255) : cut s (n + 1) = n + 1 := by
  have : ¬ s.getD n 0 = 255 := fun e => h (by rw [e]; rfl)
  show (if s.getD n 0 = 255 then cut s n else n + 1) = _
  rw [if_neg this]
theorem add_one (c : UInt8) : (((c + 1 : UInt8).toNat : Nat) : Int) = ((c.toNat : Int) + 1) % 256 := by
  rw [UInt8.toNat_add]
  have : (1 : UInt8).toNat = 1 := rfl
  rw [this]; omega
/-- 'string([]byte{c})', the slice just made. -/
theorem conv_one (w : World) (c : UInt8) (X : Int) (h : (c.toNat : Int) = X) :
    (convert 40 9 (.slice (some ⟨w.heap.size, 0, none⟩) 1 1)).run Tryd.prog (w.alloc (.cells #[.int .u8 X] 5)).drew = .ok (.string (bs [c])) (w.alloc (.cells #[.int .u8 X] 5)).drew := by
  subst h
  refine run_convert_bytes_back _ _ _ _ ⟨w.heap.size, 0, none⟩ 1 [c] undL undE undS (fun j hj => ?_)
  have : j = 0 := by simp at hj; exact hj
  subst this
  have e := heap_alloc_new w (.cells #[.int .u8 (c.toNat : Int)] 5)
  show World.cell? _ _ = _
  rw [addr_add]
  unfold World.cell?
  show (match (w.alloc (.cells #[.int .u8 (c.toNat : Int)] 5)).heap[w.heap.size]? with | some (.cells cs _ _) => cs[0]? | _ => none) = _
  rw [e]; rfl
theorem add_run (S : ByteArray) (m : Nat) (c : UInt8) (h : m ≤ S.size) (hs : S.size ≤ 140737488351232) : ∀ W : World, (Op.stringOp .add (S.extract 0 m) (bs [c])).run Tryd.prog W = .ok (.string (S.extract 0 m ++ bs [c])) W := fun W => by
  have h1 : (S.extract 0 m).size ≤ S.size := by rw [ByteArray.size_extract]; omega
  have h2 : (bs [c]).size = 1 := rfl
  exact run_string_add_sum W _ _ (by omega)
theorem ret_sb {a b : ByteArray} (h : a = b) {c : Bool} : Ending.returned (.tuple #[.string a, .bool c]) = Ending.returned (.tuple #[.string b, .bool c]) := by rw [h]
theorem bs_app (l m : List UInt8) : bs l ++ bs m = bs (l ++ m) := by
  unfold bs
  rw [ByteArray.mk_append_mk]
theorem ext_app (S : ByteArray) (m : Nat) (c : UInt8) : S.extract 0 m ++ bs [c] = bs (S.data.toList.take m ++ [c]) := by
  have h := bs_take S.data.toList m
  rw [bs_of] at h
  rw [h, bs_app]
theorem after_at {s : List UInt8} {m : Nat} (h : cut s s.length = m + 1) : after s = (s.take m ++ [s.getD m 0 + 1], true) := by
  unfold after
  rw [h, if_neg (by omega)]
  rfl
set_option maxRecDepth 20000 in
set_option maxHeartbeats 1000000 in
theorem after_any (w : World) (S : ByteArray) (hs : S.size ≤ 140737488351232) :
    Calls Tryd.prog 16 #[.string S] w fun e w' => e = .returned (.tuple #[.string (bs (after S.data.toList).1), .bool (after S.data.toList).2]) ∧ Below w.heap.size w w' := by
  obtain ⟨R, hR⟩ : ∃ R, R = after S.data.toList := ⟨_, rfl⟩
  rw [← hR]
  have HR := Lib.hid hR
  clear hR
  have HL := Lib.hid (show S.data.toList.length = S.size from Array.length_toList)
  go_enter Tryd.func16, Tryd.ntmps16
  go_wp2
  go_loopw [4] (fun n wr => ∃ k : Nat, k ≤ S.size ∧ n = .int .i64 (k : Int) ∧ Hid (cut S.data.toList k = cut S.data.toList S.data.toList.length) ∧ wr = w) (fun n _ => (intOf n).toNat)
  case atStart => exact ⟨S.size, by omega, rfl, Lib.hid (by rw [HL.out]), rfl⟩
  case round =>
    obtain ⟨k, hk, rfl, hc, rfl⟩ := hrel
    cases k with
    | zero =>
      go_wp2
      go_ret2
      exact ⟨by rw [HR.out]; unfold after; rw [← hc.out]; rfl, Below.refl _ _⟩
    | succ m =>
      have hlt : m < S.size := by omega
      obtain ⟨q, hq⟩ : ∃ q : Int, ((S[m]'hlt).toNat : Int) = q := ⟨_, rfl⟩
      have e1 : ((m + 1 : Nat) : Int) - 1 = (m : Int) := by omega
      have e2 : ¬ (((m + 1 : Nat) : Int) = 0) := by omega
      have e3 : (0 : Int) < ((m + 1 : Nat) : Int) := by omega
      have HQ : Hid (((S.data.toList.getD m 0).toNat : Int) = q) := Lib.hid (by rw [getD_elem S m hlt]; exact hq)
      by_cases h255 : q = 255
      · subst h255
        go_wp2
        go_round
        case rel => exact ⟨m, by omega, rfl, Lib.hid (by rw [← cut_255 HQ.out]; exact hc.out), trivial⟩
        case measure => simp [intOf]
      · have HC := Lib.hid (cut_other (s := S.data.toList) (n := m) (by rw [HQ.out]; exact h255))
        have HX : Hid ((((S.data.toList.getD m 0 + 1 : UInt8).toNat : Nat) : Int) = (q + 1) % 256) := Lib.hid (by rw [← HQ.out]; exact add_one _)
        obtain ⟨c, hc1⟩ : ∃ c, c = S.data.toList.getD m 0 + 1 := ⟨_, rfl⟩
        rw [← hc1] at HX
        have HC1 := Lib.hid hc1
        clear hc1
        have hcv := conv_one wr c ((q + 1) % 256) HX.out
        have hadd := add_run S m c (by omega) hs
        go_wp2
        go_region
        all_goals
          go_wp2
          go_ret2
          refine ⟨?_, ((Below.refl _ _).alloc (Nat.le_refl _) _).drew⟩
          rw [HR.out, after_at (by rw [← hc.out]; exact HC.out), ← HC1.out]
          exact ret_sb (ext_app S m c)
set_option maxRecDepth 20000 in
set_option maxHeartbeats 1000000 in
theorem refafter_any (w : World) (S : ByteArray) (hs : S.size ≤ 140737488351232) :
    Calls Tryd.prog 17 #[.string S] w fun e w' => e = .returned (.tuple #[.string (bs (after S.data.toList).1), .bool (after S.data.toList).2]) ∧ Below w.heap.size w w' := by
  obtain ⟨R, hR⟩ : ∃ R, R = after S.data.toList := ⟨_, rfl⟩
  rw [← hR]
  have HR := Lib.hid hR
  clear hR
  have HL := Lib.hid (show S.data.toList.length = S.size from Array.length_toList)
  go_enter Tryd.func17, Tryd.ntmps17
  go_wp2
  go_loopw [4] (fun n wr => ∃ k : Nat, k ≤ S.size ∧ n = .int .i64 (k : Int) ∧ Hid (cut S.data.toList k = cut S.data.toList S.data.toList.length) ∧ wr = w) (fun n _ => (intOf n).toNat)
  case atStart => exact ⟨S.size, by omega, rfl, Lib.hid (by rw [HL.out]), rfl⟩
  case round =>
    obtain ⟨k, hk, rfl, hc, rfl⟩ := hrel
    cases k with
    | zero =>
      go_wp2
      go_ret2
      exact ⟨by rw [HR.out]; unfold after; rw [← hc.out]; rfl, Below.refl _ _⟩
    | succ m =>
      have hlt : m < S.size := by omega
      obtain ⟨q, hq⟩ : ∃ q : Int, ((S[m]'hlt).toNat : Int) = q := ⟨_, rfl⟩
      have e1 : ((m + 1 : Nat) : Int) - 1 = (m : Int) := by omega
      have e2 : ¬ (((m + 1 : Nat) : Int) = 0) := by omega
      have e3 : (0 : Int) < ((m + 1 : Nat) : Int) := by omega
      have HQ : Hid (((S.data.toList.getD m 0).toNat : Int) = q) := Lib.hid (by rw [getD_elem S m hlt]; exact hq)
      by_cases h255 : q = 255
      · subst h255
        go_wp2
        go_round
        case rel => exact ⟨m, by omega, rfl, Lib.hid (by rw [← cut_255 HQ.out]; exact hc.out), trivial⟩
        case measure => simp [intOf]
      · have HC := Lib.hid (cut_other (s := S.data.toList) (n := m) (by rw [HQ.out]; exact h255))
        have HX : Hid ((((S.data.toList.getD m 0 + 1 : UInt8).toNat : Nat) : Int) = (q + 1) % 256) := Lib.hid (by rw [← HQ.out]; exact add_one _)
        obtain ⟨c, hc1⟩ : ∃ c, c = S.data.toList.getD m 0 + 1 := ⟨_, rfl⟩
        rw [← hc1] at HX
        have HC1 := Lib.hid hc1
        clear hc1
        have hcv := conv_one wr c ((q + 1) % 256) HX.out
        have hadd := add_run S m c (by omega) hs
        go_wp2
        go_region
        all_goals
          go_wp2
          go_ret2
          refine ⟨?_, ((Below.refl _ _).alloc (Nat.le_refl _) _).drew⟩
          rw [HR.out, after_at (by rw [← hc.out]; exact HC.out), ← HC1.out]
          exact ret_sb (ext_app S m c)
end Go.Proofs.YtbkaphcipbhmhaaDoor.Ka6
