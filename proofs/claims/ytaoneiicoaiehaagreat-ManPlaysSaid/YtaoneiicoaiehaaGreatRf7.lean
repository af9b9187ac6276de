/- The contracts of the document's own Put and All (package fascicleref07). -/
import Derived.Test.YtaoneiicoaiehaaGreatFb2
namespace Go.Proofs.YtaoneiicoaiehaaGreat.Rf7
set_option maxRecDepth 100000
open Go Go.RowKit Go.Proofs.YtaoneiicoaiehaaGreat.Wm Go.Proofs.YtaoneiicoaiehaaGreat.Wc Go.Proofs.YtaoneiicoaiehaaGreat.Fl7 Go.Proofs.YtaoneiicoaiehaaGreat.Rs7 Go.Proofs.YtaoneiicoaiehaaGreat.Fp7
theorem bs_append (l m : List UInt8) : bs (l ++ m) = bs l ++ bs m := by
  have h : (bs l ++ bs m).data.toList = l ++ m := by
    show ((bs l).append (bs m)).data.toList = _
    simp [bs]
  rw [← bs_of (bs l ++ bs m), h]
/-- The document's four of a sum. -/
theorem four_at (C : Nat) (hC : C < 4294967296) (w : World) :
    Calls Tryz.prog 105 #[.int .u32 (C : Int)] w fun e w' => e = .returned (.string (bs (putN C 4))) ∧ Below w.heap.size w w' :=
  Fn7.four_any (C : Int) C w (Lib.hid rfl) hC (wrap_u64_small C (by omega))
/-- The document's sum of a text. -/
theorem sum_at (t : ByteArray) (h : t.size ≤ maxLen) : ∃ C : Nat, C < 4294967296 ∧ putN C 4 = sum4 t.data.toList ∧ Hid (∀ W, Calls Tryz.prog 106 #[.string t] W fun e w' => e = .returned (.int .u32 (C : Int)) ∧ W = w') ∧
    Hid (∀ W, Calls Tryz.prog 105 #[.int .u32 (C : Int)] W fun e w' => e = .returned (.string (bs (sum4 t.data.toList))) ∧ Below W.heap.size W w') :=
  ⟨crc t.data.toList, crc_lt _, rfl, Lib.hid fun W => WRefSum.sum_any t W h, Lib.hid fun W => four_at _ (crc_lt _) W⟩
theorem put_long (s : ByteArray) (w : World) (hm : s.size ≤ maxLen) (hs : 4194304 < s.size) :
    Calls Tryz.prog 71 #[.string s] w fun e w' => e = .returned (.tuple #[.string ⟨#[]⟩, .int .i64 5]) ∧ w = w' := by
  unfold maxLen at hm
  have hz : decide ((4194304 : Int) < (s.size : Int)) = true := decide_eq_true (by omega)
  go_enter Tryz.func71, Tryz.ntmps71
  go_wp2
  go_ret2
  exact ⟨rfl, rfl⟩
theorem put_ok (s : ByteArray) (w : World) (hs : s.size ≤ 4194304) :
    Calls Tryz.prog 71 #[.string s] w fun e w' => e = .returned (.tuple #[.string (bs (fr s.data.toList)), .int .i64 0]) ∧ Below w.heap.size w w' := by
  have hz : decide ((4194304 : Int) < (s.size : Int)) = false := decide_eq_false (by omega)
  have hsl : s.data.toList.length = s.size := by simp
  have hw32 : IntKind.u32.wrap (s.size : Int) = (s.size : Int) := by
    simp only [IntKind.wrap, IntKind.bits, IntKind.signed]
    simp
    omega
  obtain ⟨C, hC⟩ : ∃ C, C = bs (cnt s.data.toList) := ⟨_, rfl⟩
  have h4 := four_at s.size (by omega)
  have e4 : putN s.size 4 = cnt s.data.toList := by unfold cnt; rw [hsl]
  rw [e4, ← hC] at h4
  have H4 := Lib.hid h4
  have hCl : C.data.toList = cnt s.data.toList := by rw [hC]; rfl
  have hCs : C.size = 4 := by rw [hC, bs_size, cnt_len]
  obtain ⟨c1, _, _, Q1, R1⟩ := sum_at C (by unfold maxLen; omega)
  obtain ⟨c2, _, _, Q2, R2⟩ := sum_at s (by unfold maxLen; omega)
  rw [hCl] at R1
  obtain ⟨S, hS⟩ : ∃ S, S = bs (sum4 (cnt s.data.toList)) := ⟨_, rfl⟩
  obtain ⟨T, hT⟩ : ∃ T, T = bs (sum4 s.data.toList) := ⟨_, rfl⟩
  rw [← hS] at R1
  rw [← hT] at R2
  have hfin : C ++ S ++ T ++ s = bs (fr s.data.toList) := by
    have e : bs s.data.toList = s := rfl
    unfold fr
    rw [bs_append, bs_append, bs_append, ← hC, ← hS, ← hT, e]
    simp only [ByteArray.append_assoc]
  rw [← hfin]
  have hSs : S.size = 4 := by rw [hS, bs_size, sum4_len]
  have hTs : T.size = 4 := by rw [hT, bs_size, sum4_len]
  have z1 : C.size + S.size ≤ 9223372036854775807 := by omega
  have z2 : (C ++ S).size + T.size ≤ 9223372036854775807 := by rw [ByteArray.size_append]; omega
  have z3 : (C ++ S ++ T).size + s.size ≤ 9223372036854775807 := by rw [ByteArray.size_append, ByteArray.size_append]; omega
  have z4 : C.size + S.size + T.size ≤ 9223372036854775807 := by omega
  have z5 : C.size + S.size + T.size + s.size ≤ 9223372036854775807 := by omega
  clear hfin hT hS hCs hSs hTs hCl h4 e4 hC hsl
  go_enter Tryz.func71, Tryz.ntmps71
  go_wp2_with fail
  refine (H4.out _).mono ?_
  rintro e w1 ⟨rfl, hb⟩
  have HB1 := Lib.hid hb
  clear hb H4
  go_wp2_with fail
  refine (Q1.out _).mono ?_
  rintro e w2 ⟨rfl, rfl⟩
  clear Q1
  go_wp2_with fail
  refine (R1.out _).mono ?_
  rintro e w2 ⟨rfl, hb⟩
  have HB2 := Lib.hid (HB1.out.trans (hb.mono HB1.out.size))
  clear hb R1 HB1
  go_wp2_with fail
  refine (Q2.out _).mono ?_
  rintro e w3 ⟨rfl, rfl⟩
  clear Q2
  go_wp2_with fail
  refine (R2.out _).mono ?_
  rintro e w3 ⟨rfl, hb⟩
  have HB3 := Lib.hid (HB2.out.trans (hb.mono HB2.out.size))
  clear hb R2 HB2
  go_wp2
  go_ret2
  exact ⟨rfl, HB3.out⟩
end Go.Proofs.YtaoneiicoaiehaaGreat.Rf7

