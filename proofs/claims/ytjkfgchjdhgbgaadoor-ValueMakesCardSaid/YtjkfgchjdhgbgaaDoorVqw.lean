/- ValueMakes: which way a call goes. -/
import Derived.Test.YtjkfgchjdhgbgaaDoorVq
namespace Go.Proofs.YtjkfgchjdhgbgaaDoor.Vqw
open Go Go.RowKit Go.Proofs.YtjkfgchjdhgbgaaDoor.Vm Go.Proofs.YtjkfgchjdhgbgaaDoor.Vl Go.Proofs.YtjkfgchjdhgbgaaDoor.Ve Go.Proofs.YtjkfgchjdhgbgaaDoor.Vr Go.Proofs.YtjkfgchjdhgbgaaDoor.Vs Go.Proofs.YtjkfgchjdhgbgaaDoor.Vc Go.Proofs.YtjkfgchjdhgbgaaDoor.Vk Go.Proofs.YtjkfgchjdhgbgaaDoor.Vq
theorem eqI_self (k n R : Int) (s : ByteArray) : eqI k n R s k n R s = true := by simp [eqI]
theorem huge (b : Bool) (n : Int) (f : Nat) (s : ByteArray) (w : World) (hT : Tabs w) (h1 : (16384 : Int) < (s.size : Int)) :
    Calls Tryd.prog 4 #[.bool b, .int .i64 n, .float .f64 f, .string s] w fun e w' => e = .returned (.bool true) ∧ Below w.heap.size w w' := by
  have AL := Lib.hid (Va.alive w hT)
  clear hT
  go_enter Tryd.func4, Tryd.ntmps4
  go_wp2_with fail
  refine AL.out.mono ?_
  rintro e w1 ⟨rfl, hb1⟩
  go_wp2
  go_ret
  exact ⟨rfl, hb1⟩
theorem check_ok (v : V) (hm : may v = true) (hs : v.s.size ≤ 140737488351232) (W : World) (hW : Tabs W) :
    Calls Tryd.prog 10 #[vv v] W fun e w' => e = .returned (.int .i64 0) ∧ Below W.heap.size W w' := by
  have h := check_any v W hW hs
  rw [hm] at h
  exact h
theorem walk (b : Bool) (n : Int) (f : Nat) (s : ByteArray) (_hn : (Lit.int .i64 n).wf = true) (hf : (Lit.float .f64 f).wf = true) (hs : s.size ≤ 140737488351232) (w : World) (hT : Tabs w) :
    Calls Tryd.prog 4 #[.bool b, .int .i64 n, .float .f64 f, .string s] w fun e w' => e = .returned (.bool true) ∧ Below w.heap.size w w' := by
  have hf' : f < 18446744073709551616 := by simpa [Lit.wf] using hf
  by_cases h1 : (16384 : Int) < (s.size : Int)
  · exact huge b n f s w hT h1
  have H0 := Lib.hid fun W => null_any W
  have H2 := Lib.hid fun W => int_any n W
  have H3 := Lib.hid fun W => real_any f W
  have HC := Lib.hid fun W => ref_canon f W hf'
  have AL := Lib.hid fun W (h : Tabs W) => Va.alive W h
  have HB := Lib.hid fun W => bytes_any s W hs
  have HS := Lib.hid fun W (h : Tabs W) => string_any s W h hs
  have hT1 := Lib.hid fun W => bool_any true W
  have hF1 := Lib.hid fun W => bool_any false W
  rw [if_pos rfl] at hT1
  rw [if_neg (by simp)] at hF1
  unfold ag at H0 H2 H3 HB HS hT1 hF1
  by_cases h2 : (100 : Int) < (s.size : Int)
  · rw [if_neg (by omega)] at HB HS
    cases b
    · exact w_long_f n _ f s w hT H0 H2 H3 HC AL hF1 HB HS h1 h2
    · exact w_long_t n _ f s w hT H0 H2 H3 HC AL hT1 HB HS h1 h2
  · have hz : s.size ≤ 100 := by omega
    rw [if_pos hz] at HB HS
    have HV := Lib.hid fun W (h : Tabs W) => valid_any s W (Nat.le_trans hs (by decide)) h
    cases hu : utf8 s
    · rw [hu, if_neg (by simp)] at HS
      rw [hu] at HV
      cases b
      · exact w_bad_f n _ f s w hT H0 H2 H3 HC AL hF1 HB HS h1 h2 HV
      · exact w_bad_t n _ f s w hT H0 H2 H3 HC AL hT1 HB HS h1 h2 HV
    · rw [hu, if_pos rfl] at HS
      rw [hu] at HV
      have K4 := Lib.hid fun W (h : Tabs W) => check_ok ⟨4, 0, 0, s⟩ (by unfold may; simp only []; rw [if_neg (by decide), if_neg (by decide), if_neg (by decide), if_neg (by decide), if_pos trivial, if_pos hz]; exact eqI_self _ _ _ _) hs W h
      have K5 := Lib.hid fun W (h : Tabs W) => check_ok ⟨5, 0, 0, s⟩ (by unfold may; simp only []; rw [if_neg (by decide), if_neg (by decide), if_neg (by decide), if_neg (by decide), if_neg (by decide), if_pos trivial, if_pos hu, if_pos hz]; exact eqI_self _ _ _ _) hs W h
      have K3 := Lib.hid fun W (h : Tabs W) => check_ok ⟨3, 0, Rm.canon f, ⟨#[]⟩⟩ (by unfold may; simp only []; rw [if_neg (by decide), if_neg (by decide), if_neg (by decide), if_pos trivial, if_pos (Rm.canon_canon f)]; exact eqI_self _ _ _ _) (show (⟨#[]⟩ : ByteArray).size ≤ 140737488351232 by decide) W h
      unfold vv at K4 K5 K3
      cases b
      · exact w_good_f n _ f s w hT H0 H2 H3 HC AL hF1 HB HS h1 h2 HV K4 K5 K3
      · exact w_good_t n _ f s w hT H0 H2 H3 HC AL hT1 HB HS h1 h2 HV K4 K5 K3
end Go.Proofs.YtjkfgchjdhgbgaaDoor.Vqw
