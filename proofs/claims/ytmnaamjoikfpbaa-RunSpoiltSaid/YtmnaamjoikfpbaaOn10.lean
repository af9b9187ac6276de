/- The contract of run.Open: a run's file, one that frames don't tell, no disk; a run as it lies in the world; Len and Size. -/
import Derived.Test.YtmnaamjoikfpbaaSo10
import Derived.Test.YtmnaamjoikfpbaaSz10
import Derived.Test.YtmnaamjoikfpbaaFb2
namespace Go.Proofs.Ytmnaamjoikfpbaa.On10
open Go Go.RowKit Go.Proofs.Ytmnaamjoikfpbaa.Dh Go.Proofs.Ytmnaamjoikfpbaa.Fm Go.Proofs.Ytmnaamjoikfpbaa.Dk Go.Proofs.Ytmnaamjoikfpbaa.Cl Go.Proofs.Ytmnaamjoikfpbaa.St Go.Proofs.Ytmnaamjoikfpbaa.Fl7 Go.Proofs.Ytmnaamjoikfpbaa.Rs7 Go.Proofs.Ytmnaamjoikfpbaa.Pm9 Go.Proofs.Ytmnaamjoikfpbaa.Fd10 Go.Proofs.Ytmnaamjoikfpbaa.So10 Go.Proofs.Ytmnaamjoikfpbaa.Sz10
def runO (p : Nat) (nm : ByteArray) (z : Nat) (A : Option Addr) (n c : Nat) : Obj := .cells #[.pointer (some ⟨p, 0, none⟩), .string nm, .int .i64 (z : Int), .slice A n c] 81 (0, 0)
/-- A run at q, of these pairs, in this file of the disk p: its blocks from B on. -/
structure RunAt (w : World) (B q p : Nat) (nm : ByteArray) (L : List Pr) (A : Option Addr) (c : Nat) : Prop where
  blk : w.heap[q]? = some (runO p nm (rb L).length A L.length c)
  row : ReadsT w A (spots 20 L)
  low : B ≤ q ∧ ∀ b o, L ≠ [] → A = some ⟨b, o, none⟩ → B ≤ b
  ptr : ∃ g, A = some ⟨g, 0, none⟩
  cap : L.length ≤ c ∧ c ≤ maxLen
theorem spots_ne {L : List Pr} (h : spots 20 L ≠ []) : L ≠ [] := fun e => h (by rw [e]; rfl)
theorem RunAt.keep {w w' : World} {B q p : Nat} {nm : ByteArray} {L : List Pr} {A : Option Addr} {c : Nat} (h : RunAt w B q p nm L A c) (hk : ∀ b, B ≤ b → b < w.heap.size → w'.heap[b]? = w.heap[b]?) : RunAt w' B q p nm L A c := by
  refine ⟨(hk q h.low.1 (lt_of_at h.blk)).trans h.blk, ?_, h.low, h.ptr, h.cap⟩
  intro hne
  exact (h.row.keep fun b ⟨o, ho⟩ hlt => hk b (h.low.2 b o (spots_ne hne) ho) hlt) hne
theorem RunAt.below {w w' : World} {B q p : Nat} {nm : ByteArray} {L : List Pr} {A : Option Addr} {c : Nat} (h : RunAt w B q p nm L A c) (hb : Below w.heap.size w w') : RunAt w' B q p nm L A c := h.keep fun b _ hl => hb.block b hl
theorem own_cap {w : World} {B e s : Nat} {v : Value} {n : Nat} {xs : List Value} (h : w.ownsRow B e s v n xs) : ∀ A m c, v = .slice A m c → n ≤ c ∧ c ≤ maxLen ∧ ∀ b o, 0 < n → A = some ⟨b, o, none⟩ → B ≤ b := by
  intro A m c hv
  rcases h.2 with ⟨rfl, rfl⟩ | ⟨g, cap, cur, rfl, hb, hg, h1, h2, h3, h4⟩
  · cases hv; exact ⟨Nat.le_refl _, by unfold maxLen; omega, fun b o hn => absurd hn (by omega)⟩
  · cases hv; exact ⟨by omega, by omega, fun b o _ hA => by cases hA; exact hb⟩
set_option maxRecDepth 20000 in
set_option maxHeartbeats 2000000 in
theorem open_ok {w : World} {S : Nat → Prop} {p : Nat} {D : St} (h : Full w S p D) (k : ByteArray) (hk : k.size ≤ maxLen) (L : List Pr) (hr : stRead D k 0 16777216 = (rb L, 0)) (hlen : L.length ≤ 1000000) (hz : (rb L).length ≤ 16777216) (hs : Sorted L) (hm : ∀ x ∈ L, may x = true) :
    Calls Try.prog 12 #[.pointer (some ⟨p, 0, none⟩), .string k] w fun e w' => (∃ q A c, e = .returned (.tuple #[.pointer (some ⟨q, 0, none⟩), .int .i64 0]) ∧ RunAt w' w.heap.size q p k L A c) ∧ Below w.heap.size w w' := by
  have hrd := Rp.read_at h k 0 16777216 hk (by decide) (by decide)
  rw [hr] at hrd
  have HRD := Lib.hid hrd
  have hbl : Below w.heap.size w (w.alloc (cap1 (.string k))) := (Below.refl _ w).alloc (Nat.le_refl _) _
  have HB := Lib.hid hbl
  have hsc := Fs7.scan_any (bs (rb L)) (w.alloc (cap1 (.string k))) (by rw [bs_size]; omega)
  have hall : scan (bs (rb L)).data.toList = (texts L, Fl7.size (texts L), 0) := by
    rw [bs_list]
    unfold rb
    refine scan_all (texts L) fun s hs => ?_
    rcases List.mem_cons.1 hs with hs | hs
    · rw [hs, Wm.putN_length]; decide
    · obtain ⟨x, hx, rfl⟩ := List.mem_map.1 hs
      rw [tx_len]
      have := may_bound (hm x hx); omega
  rw [hall] at hsc
  have HSC := Lib.hid hsc
  have HS := Lib.hid hs
  have HM := Lib.hid hm
  obtain ⟨F, hF⟩ : ∃ F, F = bs (rb L) := ⟨_, rfl⟩
  have hFz : F.size = (rb L).length := by rw [hF]; rfl
  have HFz := Lib.hid hFz
  have HF := Lib.hid hF
  have htl : (texts L).length = L.length + 1 := by unfold texts; simp
  have HTL := Lib.hid htl
  have HLN := Lib.hid hlen
  have hret : Rd.ret (rb L) 0 = .returned (.tuple #[.string F, .int .i64 0]) := by rw [hF]; rfl
  rw [hret] at HRD
  rw [← hF] at HSC
  clear hrd hr hbl hsc hall hs hm hz hF hFz htl hret hlen
  go_enter Try.func12, Try.ntmps12
  go_wp2_with fail
  refine HRD.out.mono ?_
  rintro e w1 ⟨rfl, rfl⟩
  go_wp2_with fail
  refine HSC.out.mono ?_
  rintro e w2 ⟨A, c, rfl, hown, hb2⟩
  have hb3 := HB.out.trans (hb2.mono HB.out.size)
  obtain ⟨hc1, hc2, _⟩ := own_cap hown A _ c rfl
  have hso := spots_any w2 A c L (Fs7.rds_of_own hown) HLN.out (by rw [HTL.out] at hc1; exact ⟨hc1, hc2⟩) HS.out HM.out
  rw [← HF.out] at hso
  have HSO := Lib.hid hso
  have HB3 := Lib.hid hb3
  rw [HTL.out]
  obtain ⟨z, hz⟩ : ∃ z : Nat, z = Fl7.size (texts L) := ⟨_, rfl⟩
  rw [← hz]
  clear hb2 hb3 hown hc1 hc2 hso hz
  go_wp2_with fail
  refine HSO.out.mono ?_
  rintro e w4 ⟨⟨g', c', rfl, hrow⟩, hb4⟩
  obtain ⟨A', hA'⟩ : ∃ A', A' = some (⟨g', 0, none⟩ : Addr) := ⟨_, rfl⟩
  rw [← hA'] at hrow ⊢
  have HA' := Lib.hid (show ∃ g, A' = some ⟨g, 0, none⟩ from ⟨g', hA'⟩)
  have hb5 := HB3.out.trans (hb4.mono HB3.out.size)
  have HB5 := Lib.hid hb5
  have HRW := Lib.hid hrow
  have HB4 := Lib.hid HB3.out.size
  clear hb4 hb5 hrow hA'
  go_wp2
  go_ret2
  have hro : RunAt (w4.alloc (.cells #[.pointer (some ⟨p, 0, none⟩), .string k, .int .i64 (F.size : Int), .slice A' L.length c'] 81)) w.heap.size w4.heap.size p k L A' c' := by
    obtain ⟨h1, h2, h3⟩ := own_cap HRW.out A' _ c' rfl
    rw [spots_len] at h1 h3
    refine ⟨?_, (readsT_of_own HRW.out).keep (fun b _ hl => heap_alloc _ _ _ hl), ⟨HB5.out.size, fun b o hne hA => ?_⟩, HA'.out, h1, h2⟩
    · rw [heap_new, HFz.out]; rfl
    · have := h3 b o (List.length_pos_iff.2 hne) hA
      have := HB4.out; omega
  exact ⟨⟨_, A', c', rfl, hro⟩, HB5.out.alloc HB5.out.size _⟩
/-- A file that frames don't tell. -/
theorem open_bad {w : World} {S : Nat → Prop} {p : Nat} {D : St} (h : Full w S p D) (k : ByteArray) (hk : k.size ≤ maxLen) (B : List UInt8) (T : List (List UInt8)) (n x : Nat) (hr : stRead D k 0 16777216 = (B, 0)) (hz : B.length ≤ 16777216) (hs : scan B = (T, n, x)) (hx : x ≠ 0) :
    Calls Try.prog 12 #[.pointer (some ⟨p, 0, none⟩), .string k] w fun e w' => e = .returned (.tuple #[.pointer none, .int .i64 (x : Int)]) ∧ Below w.heap.size w w' := by
  have hrd := Rp.read_at h k 0 16777216 hk (by decide) (by decide)
  rw [hr] at hrd
  have HRD := Lib.hid hrd
  have hbl : Below w.heap.size w (w.alloc (cap1 (.string k))) := (Below.refl _ w).alloc (Nat.le_refl _) _
  have HB := Lib.hid hbl
  have hsc := Fs7.scan_any (bs B) (w.alloc (cap1 (.string k))) (by rw [bs_size]; omega)
  rw [bs_list, hs] at hsc
  have HSC := Lib.hid hsc
  obtain ⟨F, hF⟩ : ∃ F, F = bs B := ⟨_, rfl⟩
  have hret : Rd.ret B 0 = .returned (.tuple #[.string F, .int .i64 0]) := by rw [hF]; rfl
  rw [hret] at HRD
  rw [← hF] at HSC
  obtain ⟨y, hy⟩ : ∃ y : Int, y = (x : Int) := ⟨_, rfl⟩
  have hy0 : (y != 0) = true := by rw [hy]; simpa using hx
  have HY := Lib.hid hy
  rw [← hy]
  clear hrd hr hbl hsc hs hz hF hret hx hy
  go_enter Try.func12, Try.ntmps12
  go_wp2_with fail
  refine HRD.out.mono ?_
  rintro e w1 ⟨rfl, rfl⟩
  go_wp2_with fail
  refine HSC.out.mono ?_
  rintro e w2 ⟨A, c, rfl, hown, hb2⟩
  have HB3 := Lib.hid (HB.out.trans (hb2.mono HB.out.size))
  dsimp only
  rw [← HY.out]
  clear hb2 hown
  go_wp2
  go_ret2
  exact ⟨rfl, HB3.out⟩
theorem open_nil (w : World) (k : ByteArray) :
    Calls Try.prog 12 #[.pointer none, .string k] w fun e w' => e = .returned (.tuple #[.pointer none, .int .i64 1]) ∧ Below w.heap.size w w' := by
  have HR := Lib.hid (read_nil w k 0 16777216)
  go_enter Try.func12, Try.ntmps12
  go_wp2_with fail
  refine HR.out.mono ?_
  rintro e w1 ⟨rfl, hb⟩
  have HB := Lib.hid hb
  clear hb
  go_wp2
  go_ret2
  exact ⟨rfl, HB.out⟩
theorem len_any {w : World} {B q p : Nat} {nm : ByteArray} {L : List Pr} {A : Option Addr} {c : Nat} (h : RunAt w B q p nm L A c) :
    Calls Try.prog 13 #[.pointer (some ⟨q, 0, none⟩)] w fun e w' => e = .returned (.int .i64 (L.length : Int)) ∧ w' = w := by
  have c3 := cell_of h.blk 3
  clear h
  go_enter Try.func13, Try.ntmps13
  go_wp2
  go_ret
  exact ⟨rfl, rfl⟩
theorem size_any {w : World} {B q p : Nat} {nm : ByteArray} {L : List Pr} {A : Option Addr} {c : Nat} (h : RunAt w B q p nm L A c) :
    Calls Try.prog 14 #[.pointer (some ⟨q, 0, none⟩)] w fun e w' => e = .returned (.int .i64 ((rb L).length : Int)) ∧ w' = w := by
  have c2 := cell_of h.blk 2
  clear h
  go_enter Try.func14, Try.ntmps14
  go_wp2
  go_ret
  exact ⟨rfl, rfl⟩
theorem len_nil (w : World) : Calls Try.prog 13 #[.pointer none] w fun e w' => e = .returned (.int .i64 0) ∧ w' = w := by
  go_enter Try.func13, Try.ntmps13
  go_wp2
  go_ret
  exact ⟨rfl, rfl⟩
theorem size_nil (w : World) : Calls Try.prog 14 #[.pointer none] w fun e w' => e = .returned (.int .i64 0) ∧ w' = w := by
  go_enter Try.func14, Try.ntmps14
  go_wp2
  go_ret
  exact ⟨rfl, rfl⟩
end Go.Proofs.Ytmnaamjoikfpbaa.On10
