/- The contract of run.Write. -/
import Derived.Test.YtmnaamjoikfpbaaBo10
import Derived.Test.YtmnaamjoikfpbaaSz10
namespace Go.Proofs.Ytmnaamjoikfpbaa.Wr10
open Go Go.RowKit Go.Lib Go.Proofs.Ytmnaamjoikfpbaa.Mp Go.Proofs.Ytmnaamjoikfpbaa.Dh Go.Proofs.Ytmnaamjoikfpbaa.Ext Go.Proofs.Ytmnaamjoikfpbaa.Fm Go.Proofs.Ytmnaamjoikfpbaa.Dk Go.Proofs.Ytmnaamjoikfpbaa.Cl Go.Proofs.Ytmnaamjoikfpbaa.Nm Go.Proofs.Ytmnaamjoikfpbaa.St Go.Proofs.Ytmnaamjoikfpbaa.Fl7 Go.Proofs.Ytmnaamjoikfpbaa.Pm9 Go.Proofs.Ytmnaamjoikfpbaa.Rd9 Go.Proofs.Ytmnaamjoikfpbaa.Fd10 Go.Proofs.Ytmnaamjoikfpbaa.Ck10 Go.Proofs.Ytmnaamjoikfpbaa.Sz10
theorem write_nil (w : World) (k : ByteArray) (A : Option Addr) (n c : Nat) :
    Calls Try.prog 10 #[.pointer none, .string k, .slice A n c] w fun e w' => e = .returned (.int .i64 1) ∧ w' = w := by
  go_enter Try.func10, Try.ntmps10
  go_wp2
  go_ret
  exact ⟨rfl, rfl⟩
/-- Pairs that may not be, or keys that don't rise. -/
theorem write_bad (w : World) (p : Nat) (k : ByteArray) (A : Option Addr) (c : Nat) (L : List Pr) (hl : Reads w A L) (hlen : L.length ≤ 140737488351232) (hz : ∀ x ∈ L, x.k.size ≤ 140737488351232 ∧ x.v.size ≤ 140737488351232) (hc : chk L ≠ 0) :
    Calls Try.prog 10 #[.pointer (some ⟨p, 0, none⟩), .string k, .slice A L.length c] w fun e w' => e = .returned (.int .i64 (chk L)) ∧ Below w.heap.size w w' := by
  have HC := Lib.hid (rcheck_any w A c L hl hlen hz)
  obtain ⟨r, hr⟩ : ∃ r, r = chk L := ⟨_, rfl⟩
  rw [← hr] at HC hc ⊢
  have hz1 : (r != 0) = true := by simpa using hc
  clear hl hz hc hr
  go_enter Try.func10, Try.ntmps10
  go_wp2_with fail
  refine HC.out.mono ?_
  rintro e w1 ⟨rfl, hb⟩
  have HB := Lib.hid hb
  clear hb
  go_wp2
  go_ret
  exact ⟨rfl, HB.out⟩
/-- A file that is there. -/
theorem write_have {w : World} {S : Nat → Prop} {p : Nat} {D : St} (h : Full w S p D) (k : ByteArray) (hk : k.size ≤ maxLen) (A : Option Addr) (c : Nat) (L : List Pr) (hl : Reads w A L) (hlen : L.length ≤ 140737488351232) (hz : ∀ x ∈ L, x.k.size ≤ 140737488351232 ∧ x.v.size ≤ 140737488351232) (hc : chk L = 0)
    (hs : (stSize D k).2 = 0) :
    Calls Try.prog 10 #[.pointer (some ⟨p, 0, none⟩), .string k, .slice A L.length c] w fun e w' => e = .returned (.int .i64 9) ∧ Below w.heap.size w w' := by
  have HC := Lib.hid (rcheck_any w A c L hl hlen hz)
  rw [hc] at HC
  have HF := Lib.hid h
  have HS := Lib.hid hs
  clear hl hz hc h hs
  go_enter Try.func10, Try.ntmps10
  go_wp2_with fail
  refine HC.out.mono ?_
  rintro e w1 ⟨rfl, hb⟩
  have HB := Lib.hid hb
  have HSZ := Lib.hid (size_at (full_below HF.out hb) k hk)
  obtain ⟨z, hz⟩ : ∃ z, z = (stSize D k).1 := ⟨_, rfl⟩
  rw [HS.out, ← hz] at HSZ
  clear hb hz
  go_wp2_with fail
  refine HSZ.out.mono ?_
  rintro e w2 ⟨rfl, rfl⟩
  have HB2 := Lib.hid (HB.out.alloc HB.out.size (cap1 (.string k)))
  go_wp2
  go_ret
  exact ⟨rfl, HB2.out⟩
theorem chk_may {L : List Pr} (h : chk L = 0) : ∀ x ∈ L, may x = true := by
  unfold chk at h
  cases ha : L.all may
  · rw [ha] at h; cases h
  · exact List.all_eq_true.1 ha
set_option maxHeartbeats 1000000 in
/-- A file that is not there, with room, on a disk that goes on. -/
theorem write_new {w : World} {S : Nat → Prop} {p : Nat} {D D1 D2 : St} (h : Full w S p D) (k : ByteArray) (hk : k.size ≤ maxLen) (A : Option Addr) (c : Nat) (L : List Pr) (hl : Reads w A L) (hlen : L.length ≤ 1000000) (hc : chk L = 0)
    (hs : (stSize D k).2 = 3) (ha : stAppend D k (bs (rb L)) = (0, D1)) (hy : stSync D1 = (0, D2)) (hn : D.loose.length ≤ 1000) (hn1 : D1.loose.length ≤ 1000) :
    Calls Try.prog 10 #[.pointer (some ⟨p, 0, none⟩), .string k, .slice A L.length c] w fun e w' => e = .returned (.int .i64 0) ∧ To S w w' p D2 := by
  have hmay := chk_may hc
  have hz : ∀ x ∈ L, x.k.size ≤ 140737488351232 ∧ x.v.size ≤ 140737488351232 := fun x hx => by have := may_bound (hmay x hx); omega
  have hrb : (bs (rb L)).size ≤ 1099511627776 := by
    rw [bs_size, rb_len]
    have := Bo10.size_may L hmay
    omega
  have HC := Lib.hid (rcheck_any w A c L hl (by omega) hz)
  rw [hc] at HC
  have HF := Lib.hid h
  have HS := Lib.hid hs
  have HL := Lib.hid hl
  have HM := Lib.hid hmay
  have HR := Lib.hid hrb
  have HA := Lib.hid ha
  have HY := Lib.hid hy
  clear hl hz hc h hs hmay hrb ha hy
  obtain ⟨N, hN⟩ : ∃ N, N = L.length := ⟨_, rfl⟩
  rw [← hN] at HC hlen ⊢
  have HN := Lib.hid hN
  clear hN
  go_enter Try.func10, Try.ntmps10
  go_wp2_with fail
  refine HC.out.mono ?_
  rintro e w1 ⟨rfl, hb⟩
  have HB := Lib.hid hb
  have HSZ := Lib.hid (size_at (full_below HF.out hb) k hk)
  obtain ⟨z, hz⟩ : ∃ z, z = (stSize D k).1 := ⟨_, rfl⟩
  rw [HS.out, ← hz] at HSZ
  clear hb hz
  go_wp2_with fail
  refine HSZ.out.mono ?_
  rintro e w2 ⟨rfl, rfl⟩
  have hb2 := HB.out.alloc HB.out.size (cap1 (.string k))
  have HB2 := Lib.hid hb2
  have hby := Bo10.bytes_any (w1.alloc (cap1 (.string k))) A c L (HL.out.keep (Nat.le_refl _) hb2) (by rw [← HN.out]; exact hlen) HM.out
  rw [← HN.out] at hby
  have HBY := Lib.hid hby
  clear hb2 hby
  go_wp2_with fail
  refine HBY.out.mono ?_
  rintro e w3 ⟨rfl, hb3⟩
  have hb4 := HB2.out.trans (hb3.mono HB2.out.size)
  have hap := Ap.append_any (full_below HF.out hb4) k (bs (rb L)) hk HR.out (by omega)
  rw [HA.out] at hap
  have HAP := Lib.hid hap
  have HB4 := Lib.hid hb4
  clear hb3 hb4 hap
  go_wp2_with fail
  refine HAP.out.mono ?_
  rintro e w5 ⟨rfl, ht⟩
  have hsy := Sy.sync_any ht.2 (by omega)
  rw [HY.out] at hsy
  have HSY := Lib.hid hsy
  have HT := Lib.hid ht
  clear ht hsy
  go_wp2_with fail
  refine HSY.out.mono ?_
  rintro e w6 ⟨rfl, ht2⟩
  have HT2 := Lib.hid (to_pre HB4.out (HT.out.trans ht2))
  clear ht2
  go_wp2
  go_ret
  exact ⟨rfl, HT2.out⟩
end Go.Proofs.Ytmnaamjoikfpbaa.Wr10
