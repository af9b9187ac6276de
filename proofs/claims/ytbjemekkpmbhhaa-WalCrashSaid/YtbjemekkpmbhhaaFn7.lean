/- The contracts of frame.number, frame.sum and of the document's four: a number's four bytes, a text's sum. -/
import Derived.Test.YtbjemekkpmbhhaaPut
import Derived.Test.YtbjemekkpmbhhaaSum
import Derived.Test.YtbjemekkpmbhhaaFl7
namespace Go.Proofs.Ytbjemekkpmbhhaa.Fn7
open Go Go.RowKit Go.Proofs.Ytbjemekkpmbhhaa.Wm Go.Proofs.Ytbjemekkpmbhhaa.Wc Go.Proofs.Ytbjemekkpmbhhaa.Fl7
theorem number_any (v : Int) (V : Nat) (w : World) (hv : Hid (v = (V : Int))) (hV : V < 4294967296) :
    Calls Try.prog 46 #[.int .u64 v] w fun e w' => e = .returned (.string (bs (putN V 4))) ∧ Below w.heap.size w w' := by
  have hc := WPut.ok_var v V 4 w (by omega) (by omega) (by omega) hv.out
  have HC := Lib.hid hc
  clear hc
  go_enter Try.func46, Try.ntmps46
  go_wp2_with fail
  refine HC.out.mono ?_
  rintro e w1 ⟨rfl, hb⟩
  have HB := Lib.hid hb
  clear hb
  go_wp2
  go_ret
  exact ⟨rfl, HB.out⟩
theorem sum_any (s : ByteArray) (w : World) (hs : s.size ≤ maxLen) :
    Calls Try.prog 48 #[.string s] w fun e w' => e = .returned (.string (bs (sum4 s.data.toList))) ∧ Below w.heap.size w w' := by
  obtain ⟨C, hC⟩ : ∃ C, C = crc s.data.toList := ⟨_, rfl⟩
  have hlt : C < 4294967296 := by rw [hC]; exact crc_lt _
  have hsum := WSum.sum_any s w hs
  rw [← hC] at hsum
  have hw : IntKind.u64.wrap (C : Int) = (C : Int) := wrap_u64_small C (by omega)
  have hr : sum4 s.data.toList = putN C 4 := by rw [hC]; rfl
  rw [hr]
  clear hr hC
  obtain ⟨c, hc⟩ : ∃ c : Int, c = (C : Int) := ⟨_, rfl⟩
  rw [← hc] at hsum hw
  have HC := Lib.hid hc
  clear hc
  have HS := Lib.hid hsum
  clear hsum
  go_enter Try.func48, Try.ntmps48
  go_wp2_with fail
  refine HS.out.mono ?_
  rintro e w1 ⟨rfl, hb⟩
  have HB := Lib.hid hb
  clear hb
  go_wp2_with fail
  refine (number_any c C w1 HC hlt).mono ?_
  rintro e w2 ⟨rfl, hb2⟩
  have HB2 := Lib.hid hb2
  clear hb2
  go_wp2
  go_ret
  exact ⟨rfl, HB.out.trans (HB2.out.mono HB.out.size)⟩
end Go.Proofs.Ytbjemekkpmbhhaa.Fn7
