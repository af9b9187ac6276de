/- Proved: what was put is got, what was told in digits is read, and the other way round, for every number, count, text and digits (P1.4); the arguments read behind the call as they read before. No condition. -/
import Derived.Test.YtohefmnmdnmfoaaRows
import Derived.WalkKit
import Derived.ProofKit
import Derived.OpenShut
import Derived.Test.YtohefmnmdnmfoaaRowKit
import Derived.Test.YtohefmnmdnmfoaaAlive
namespace Go.Proofs.Ytohefmnmdnmfoaa.wordBack
open Go Go.ChangeShapes Go.WideShapes Go.ChangeAt Go.RowKit Go.Proofs.Ytohefmnmdnmfoaa.RowKit Go.Proofs.Ytohefmnmdnmfoaa.Wm Go.Proofs.Ytohefmnmdnmfoaa.Wc
open Go.ChangeMaps (open_string shut_string)
def putA (L m : Nat) : ByteArray := ⟨(putN L m).toArray⟩
theorem putA_size (L m : Nat) : (putA L m).size = m := by simp [putA, ByteArray.size, putN_length]
def hexA (L m : Nat) : ByteArray := ⟨(hexN L m).toArray⟩
theorem hexA_size (L m : Nat) : (hexA L m).size = m := by simp [hexA, ByteArray.size, hexN_length]
theorem putA_list (L m : Nat) : (putA L m).data.toList = putN L m := rfl
theorem hexA_list (L m : Nat) : (hexA L m).data.toList = hexN L m := rfl
theorem list_size (s : ByteArray) : s.data.toList.length = s.size := by simp
theorem back (s : ByteArray) : (⟨s.data.toList.toArray⟩ : ByteArray) = s := rfl
theorem put1 (L m : Nat) (w : World) (h1 : 1 ≤ m) (h2 : m ≤ 8) (hL : L < 256 ^ m) :
    Calls Try.prog 7 #[.int .u64 (L : Int), .int .i64 (m : Int)] w fun e w' => e = .returned (.tuple #[.string (putA L m), .int .i64 0]) ∧ Below w.heap.size w w' :=
  WPut.ok_var _ L m w h1 h2 hL rfl
theorem get1 (L m : Nat) (w : World) (h1 : 1 ≤ m) (h2 : m ≤ 8) (hL : L < 256 ^ m) :
    Calls Try.prog 9 #[.string (putA L m)] w fun e w' => e = .returned (.tuple #[.int .u64 (L : Int), .int .i64 0]) ∧ w = w' :=
  (WGet.ok (putA L m) w (by rw [putA_size]; omega) (by rw [putA_size]; omega)).mono fun _ _ h => ⟨h.1.trans (ret_ii (by rw [putA_list, getL_putN, Nat.mod_eq_of_lt hL]) rfl), h.2⟩
theorem hex1 (L m : Nat) (w : World) (h1 : 1 ≤ m) (h2 : m ≤ 8) (hL : L < 256 ^ m) :
    Calls Try.prog 11 #[.int .u64 (L : Int), .int .i64 (2 * (m : Int))] w fun e w' => e = .returned (.tuple #[.string (hexA L (2 * m)), .int .i64 0]) ∧ Below w.heap.size w w' := by
  have e : (2 * (m : Int)) = ((2 * m : Nat) : Int) := by omega
  rw [e]
  exact WHex.ok_var _ L (2 * m) w (by omega) (by omega) (by rw [Nat.pow_mul]; exact hL) rfl
theorem unhex1 (L m : Nat) (w : World) (h1 : 1 ≤ m) (h2 : m ≤ 8) (hL : L < 256 ^ m) :
    Calls Try.prog 13 #[.string (hexA L (2 * m))] w fun e w' => e = .returned (.tuple #[.int .u64 (L : Int), .int .i64 0]) ∧ Below w.heap.size w w' := by
  have hp : (16 : Nat) ^ (2 * m) = 256 ^ m := by rw [Nat.pow_mul]
  have e : unhexL 0 (hexA L (2 * m)).data.toList = some L := by rw [hexA_list, unhexL_hexN, hp, Nat.mod_eq_of_lt hL]
  have h := WUnhex.ok (hexA L (2 * m)) w (by rw [hexA_size]; omega) (by rw [hexA_size]; omega)
  rw [e] at h
  exact h
theorem put2 (s : ByteArray) (w : World) (h1 : 1 ≤ s.size) (h2 : s.size ≤ 8) :
    Calls Try.prog 7 #[.int .u64 (getL s.data.toList : Int), .int .i64 (s.size : Int)] w fun e w' => e = .returned (.tuple #[.string s, .int .i64 0]) ∧ Below w.heap.size w w' := by
  have hl := list_size s
  have h := WPut.ok_var _ (getL s.data.toList) s.size w h1 h2 (by have := getL_lt s.data.toList; rw [hl] at this; exact this) rfl
  have e := putN_getL s.data.toList
  rw [hl] at e
  rw [e] at h
  exact h
theorem unhex2 (d : ByteArray) (z : Nat) (w : World) (h1 : 1 ≤ d.size) (h2 : d.size ≤ 16) (hz : unhexL 0 d.data.toList = some z) :
    Calls Try.prog 13 #[.string d] w fun e w' => e = .returned (.tuple #[.int .u64 (z : Int), .int .i64 0]) ∧ Below w.heap.size w w' := by
  have h := WUnhex.ok d w h1 h2
  rw [hz] at h
  exact h
theorem unhex3 (d : ByteArray) (w : World) (hd : d.size ≤ maxLen) (h : d.size < 1 ∨ 16 < d.size ∨ unhexL 0 d.data.toList = none) :
    Calls Try.prog 13 #[.string d] w fun e w' => e = .returned (.tuple #[.int .u64 0, .int .i64 2]) ∧ Below w.heap.size w w' := by
  by_cases hb : d.size < 1 ∨ 16 < d.size
  · exact (WUnhex.bad d w hb hd).mono fun _ _ hh => ⟨hh.1, hh.2 ▸ Below.refl _ _⟩
  · have hn : unhexL 0 d.data.toList = none := by rcases h with h | h | h; exact absurd (.inl h) hb; exact absurd (.inr h) hb; exact h
    have h' := WUnhex.ok d w (by omega) (by omega)
    rw [hn] at h'
    exact h'
theorem hex2 (d : ByteArray) (z : Nat) (w : World) (h1 : 1 ≤ d.size) (h2 : d.size ≤ 16) (hz : unhexL 0 d.data.toList = some z) :
    Calls Try.prog 11 #[.int .u64 (z : Int), .int .i64 (d.size : Int)] w fun e w' => e = .returned (.tuple #[.string d, .int .i64 0]) ∧ Below w.heap.size w w' := by
  have hl := list_size d
  have h := WHex.ok_var _ z d.size w h1 h2 (by have := unhexL_lt _ _ _ 0 hz (by omega); rw [hl, Nat.zero_add] at this; exact this) rfl
  have e := hexN_unhexL _ _ 0 _ hz
  rw [hl, Nat.zero_add] at e
  have e2 : hexN z d.size = d.data.toList := by rw [e]; rfl
  rw [e2] at h
  exact h
theorem pow_wrap (m : Nat) (hm : m < 8) : IntKind.u64.wrap (2 ^ (8 * m)) ≠ 0 := by
  have h1 : (2 : Nat) ^ (8 * m) ≤ 2 ^ 56 := Nat.pow_le_pow_right (by omega) (by omega)
  have h2 : 0 < (2 : Nat) ^ (8 * m) := Nat.pow_pos (by omega)
  have e : (2 : Int) ^ (8 * m) = ((2 ^ (8 * m) : Nat) : Int) := by rw [Int.natCast_pow]; rfl
  rw [e, wrap_u64_small _ (by omega)]
  omega
theorem low_lt (V m : Nat) (hm : m < 8) : (V : Int) % IntKind.u64.wrap (2 ^ (8 * m)) = ((V % 256 ^ m : Nat) : Int) := by
  have h1 : (2 : Nat) ^ (8 * m) ≤ 2 ^ 56 := Nat.pow_le_pow_right (by omega) (by omega)
  have e : (2 : Int) ^ (8 * m) = ((2 ^ (8 * m) : Nat) : Int) := by rw [Int.natCast_pow]; rfl
  rw [e, wrap_u64_small _ (by omega), pow256, Int.natCast_emod]
set_option maxRecDepth 100000 in
set_option maxHeartbeats 2000000 in
theorem walk (v n : Int) (s d : ByteArray) (hv : (Lit.int .u64 v).wf = true) (hn : (Lit.int .u8 n).wf = true) (hs : s.size ≤ maxLen) (hd : d.size ≤ maxLen) (w : World) :
    Calls Try.prog 5 #[.int .u64 v, .int .u8 n, .string s, .string d] w fun e w' => e = .returned (.bool true) ∧ Below w.heap.size w w' := by
  obtain ⟨hv0, hv1⟩ := wf_u64 hv
  obtain ⟨hn0, hn1⟩ := wf_u8 hn
  clear hv hn
  obtain ⟨m, hm⟩ : ∃ m : Nat, 1 + n % 8 = (m : Int) := ⟨(1 + n % 8).toNat, by omega⟩
  have hm1 : 1 ≤ m := by omega
  have hm8 : m ≤ 8 := by omega
  have HS := Lib.hid hs
  have HD := Lib.hid hd
  have hs' : s.size ≤ 9223372036854775807 := hs
  have hd' : d.size ≤ 9223372036854775807 := hd
  clear hs hd
  by_cases hm7 : m < 8
  · obtain ⟨L, hL⟩ : ∃ L, L = v.toNat % 256 ^ m := ⟨_, rfl⟩
    have hlow : v % IntKind.u64.wrap (2 ^ (8 * m)) = (L : Int) := by
      have h := low_lt v.toNat m hm7
      rw [Int.toNat_of_nonneg hv0] at h
      rw [hL]; exact h
    have hlow2 : v % IntKind.u64.wrap (2 ^ (8 * (m : Int)).toNat) = (L : Int) := by
      have e : (8 * (m : Int)).toNat = 8 * m := by omega
      rw [e]; exact hlow
    have HL := Lib.hid hlow2
    clear hlow hlow2
    have hn7 : 1 + n % 8 < 8 := by omega
    have hnz : ¬ IntKind.u64.wrap (2 ^ (8 * (1 + n % 8)).toNat) = 0 := by
      have e : (8 * (m : Int)).toNat = 8 * m := by omega
      rw [hm, e]; exact pow_wrap m hm7
    have HM := Lib.hid hm
    clear hm
    have hLlt : Hid (L < 256 ^ m) := by show L < 256 ^ m; rw [hL]; exact Nat.mod_lt _ (Nat.pow_pos (by omega))
    have hA := putA_size L m
    have hX := hexA_size L (2 * m)
    clear hL
    have HV := Lib.hid hv1
    clear hv1
    go_enter Try.func5, Try.ntmps5
    go_wp2_with fail
    rw [HM.out, HL.out]
    refine (put1 L m _ hm1 hm8 hLlt.out).mono ?_
    rintro e w1 ⟨rfl, h1⟩
    go_wp2_with fail
    refine (get1 L m _ hm1 hm8 hLlt.out).mono ?_
    rintro e w2 ⟨rfl, rfl⟩
    go_wp2_with fail
    refine (hex1 L m _ hm1 hm8 hLlt.out).mono ?_
    rintro e w3 ⟨rfl, h3⟩
    go_wp2_with fail
    refine (unhex1 L m _ hm1 hm8 hLlt.out).mono ?_
    rintro e w4 ⟨rfl, h4⟩
    go_wp2_with fail
    have hB4 := btrans (btrans h1 h3) h4
    clear h1 h3 h4
    by_cases ks : s.size < 1 ∨ 8 < s.size
    · have KS := Lib.hid ks
      clear ks
      refine (WGet.bad s w4 KS.out HS.out).mono ?_
      rintro e w5 ⟨rfl, rfl⟩
      go_wp2_with fail
      by_cases kd : d.size < 1 ∨ 16 < d.size ∨ unhexL 0 d.data.toList = none
      · have KD := Lib.hid kd
        clear kd
        refine (unhex3 d w4 HD.out KD.out).mono ?_
        rintro e w7 ⟨rfl, h7⟩
        have hB7 := btrans hB4 h7
        clear h7
        go_wp2_with fail
        refine (WAlive.alive w7).mono ?_
        rintro e w8 ⟨rfl, h8⟩
        go_wp2
        go_ret
        exact ⟨rfl, btrans hB7 h8⟩
      · obtain ⟨z, hz⟩ : ∃ z, unhexL 0 d.data.toList = some z := by
          cases hz : unhexL 0 d.data.toList with
          | none => exact absurd (.inr (.inr hz)) kd
          | some z => exact ⟨z, rfl⟩
        have k1 : 1 ≤ d.size := by omega
        have k2 : d.size ≤ 16 := by omega
        have HZ := Lib.hid hz
        clear kd hz
        refine (unhex2 d z w4 k1 k2 HZ.out).mono ?_
        rintro e w7 ⟨rfl, h7⟩
        have hB7 := btrans hB4 h7
        clear h7
        go_wp2_with fail
        refine (hex2 d z w7 k1 k2 HZ.out).mono ?_
        rintro e w8 ⟨rfl, h8⟩
        have hB8 := btrans hB7 h8
        clear h8
        go_wp2_with fail
        refine (WAlive.alive w8).mono ?_
        rintro e w9 ⟨rfl, h9⟩
        go_wp2
        go_ret
        exact ⟨rfl, btrans hB8 h9⟩
    · have j1 : 1 ≤ s.size := by omega
      have j2 : s.size ≤ 8 := by omega
      clear ks
      refine (WGet.ok s w4 j1 j2).mono ?_
      rintro e w5 ⟨rfl, rfl⟩
      go_wp2_with fail
      refine (put2 s w4 j1 j2).mono ?_
      rintro e w6 ⟨rfl, h6⟩
      have hB6 := btrans hB4 h6
      clear h6
      go_wp2_with fail
      by_cases kd : d.size < 1 ∨ 16 < d.size ∨ unhexL 0 d.data.toList = none
      · have KD := Lib.hid kd
        clear kd
        refine (unhex3 d w6 HD.out KD.out).mono ?_
        rintro e w7 ⟨rfl, h7⟩
        have hB7 := btrans hB6 h7
        clear h7
        go_wp2_with fail
        refine (WAlive.alive w7).mono ?_
        rintro e w8 ⟨rfl, h8⟩
        go_wp2
        go_ret
        exact ⟨rfl, btrans hB7 h8⟩
      · obtain ⟨z, hz⟩ : ∃ z, unhexL 0 d.data.toList = some z := by
          cases hz : unhexL 0 d.data.toList with
          | none => exact absurd (.inr (.inr hz)) kd
          | some z => exact ⟨z, rfl⟩
        have k1 : 1 ≤ d.size := by omega
        have k2 : d.size ≤ 16 := by omega
        have HZ := Lib.hid hz
        clear kd hz
        refine (unhex2 d z w6 k1 k2 HZ.out).mono ?_
        rintro e w7 ⟨rfl, h7⟩
        have hB7 := btrans hB6 h7
        clear h7
        go_wp2_with fail
        refine (hex2 d z w7 k1 k2 HZ.out).mono ?_
        rintro e w8 ⟨rfl, h8⟩
        have hB8 := btrans hB7 h8
        clear h8
        go_wp2_with fail
        refine (WAlive.alive w8).mono ?_
        rintro e w9 ⟨rfl, h9⟩
        go_wp2
        go_ret
        exact ⟨rfl, btrans hB8 h9⟩
  · obtain ⟨L, rfl⟩ := Int.eq_ofNat_of_zero_le hv0
    have hL8 := pow256_64 8 (by omega)
    have hm8' : m = 8 := by omega
    have hLlt : Hid (L < 256 ^ m) := by show L < 256 ^ m; rw [hm8']; have e : (256 : Nat) ^ 8 = 18446744073709551616 := by decide
                                        rw [e]; omega
    have hA := putA_size L m
    have hX := hexA_size L (2 * m)
    have hn7 : ¬ 1 + n % 8 < 8 := by omega
    have HM := Lib.hid hm
    have HV := Lib.hid hv1
    clear hm hv1 hL8 hm8' hv0
    go_enter Try.func5, Try.ntmps5
    go_wp2_with fail
    rw [HM.out]
    refine (put1 L m _ hm1 hm8 hLlt.out).mono ?_
    rintro e w1 ⟨rfl, h1⟩
    go_wp2_with fail
    refine (get1 L m _ hm1 hm8 hLlt.out).mono ?_
    rintro e w2 ⟨rfl, rfl⟩
    go_wp2_with fail
    refine (hex1 L m _ hm1 hm8 hLlt.out).mono ?_
    rintro e w3 ⟨rfl, h3⟩
    go_wp2_with fail
    refine (unhex1 L m _ hm1 hm8 hLlt.out).mono ?_
    rintro e w4 ⟨rfl, h4⟩
    go_wp2_with fail
    have hB4 := btrans (btrans h1 h3) h4
    clear h1 h3 h4
    by_cases ks : s.size < 1 ∨ 8 < s.size
    · have KS := Lib.hid ks
      clear ks
      refine (WGet.bad s w4 KS.out HS.out).mono ?_
      rintro e w5 ⟨rfl, rfl⟩
      go_wp2_with fail
      by_cases kd : d.size < 1 ∨ 16 < d.size ∨ unhexL 0 d.data.toList = none
      · have KD := Lib.hid kd
        clear kd
        refine (unhex3 d w4 HD.out KD.out).mono ?_
        rintro e w7 ⟨rfl, h7⟩
        have hB7 := btrans hB4 h7
        clear h7
        go_wp2_with fail
        refine (WAlive.alive w7).mono ?_
        rintro e w8 ⟨rfl, h8⟩
        go_wp2
        go_ret
        exact ⟨rfl, btrans hB7 h8⟩
      · obtain ⟨z, hz⟩ : ∃ z, unhexL 0 d.data.toList = some z := by
          cases hz : unhexL 0 d.data.toList with
          | none => exact absurd (.inr (.inr hz)) kd
          | some z => exact ⟨z, rfl⟩
        have k1 : 1 ≤ d.size := by omega
        have k2 : d.size ≤ 16 := by omega
        have HZ := Lib.hid hz
        clear kd hz
        refine (unhex2 d z w4 k1 k2 HZ.out).mono ?_
        rintro e w7 ⟨rfl, h7⟩
        have hB7 := btrans hB4 h7
        clear h7
        go_wp2_with fail
        refine (hex2 d z w7 k1 k2 HZ.out).mono ?_
        rintro e w8 ⟨rfl, h8⟩
        have hB8 := btrans hB7 h8
        clear h8
        go_wp2_with fail
        refine (WAlive.alive w8).mono ?_
        rintro e w9 ⟨rfl, h9⟩
        go_wp2
        go_ret
        exact ⟨rfl, btrans hB8 h9⟩
    · have j1 : 1 ≤ s.size := by omega
      have j2 : s.size ≤ 8 := by omega
      clear ks
      refine (WGet.ok s w4 j1 j2).mono ?_
      rintro e w5 ⟨rfl, rfl⟩
      go_wp2_with fail
      refine (put2 s w4 j1 j2).mono ?_
      rintro e w6 ⟨rfl, h6⟩
      have hB6 := btrans hB4 h6
      clear h6
      go_wp2_with fail
      by_cases kd : d.size < 1 ∨ 16 < d.size ∨ unhexL 0 d.data.toList = none
      · have KD := Lib.hid kd
        clear kd
        refine (unhex3 d w6 HD.out KD.out).mono ?_
        rintro e w7 ⟨rfl, h7⟩
        have hB7 := btrans hB6 h7
        clear h7
        go_wp2_with fail
        refine (WAlive.alive w7).mono ?_
        rintro e w8 ⟨rfl, h8⟩
        go_wp2
        go_ret
        exact ⟨rfl, btrans hB7 h8⟩
      · obtain ⟨z, hz⟩ : ∃ z, unhexL 0 d.data.toList = some z := by
          cases hz : unhexL 0 d.data.toList with
          | none => exact absurd (.inr (.inr hz)) kd
          | some z => exact ⟨z, rfl⟩
        have k1 : 1 ≤ d.size := by omega
        have k2 : d.size ≤ 16 := by omega
        have HZ := Lib.hid hz
        clear kd hz
        refine (unhex2 d z w6 k1 k2 HZ.out).mono ?_
        rintro e w7 ⟨rfl, h7⟩
        have hB7 := btrans hB6 h7
        clear h7
        go_wp2_with fail
        refine (hex2 d z w7 k1 k2 HZ.out).mono ?_
        rintro e w8 ⟨rfl, h8⟩
        have hB8 := btrans hB7 h8
        clear h8
        go_wp2_with fail
        refine (WAlive.alive w8).mono ?_
        rintro e w9 ⟨rfl, h9⟩
        go_wp2
        go_ret
        exact ⟨rfl, btrans hB8 h9⟩
/- The row: from the walk to the given statement. -/
theorem own : ownKnob Try.prog.godebug = none := by kernel_rfl
set_option maxRecDepth 100000 in
theorem lifted (os : Os) (started : os.Started) (H : Type) (enc : TypeId × Value → H) :
    ReturnsInHanded {} Try.checked os 5 .any (Rows.wordBackSpec.pre6 enc Try.prog Try.f5 Rows.wordBackRow.domain false) (Rows.wordBackSpec.post enc Try.prog Try.f5 false true false false) := by
  refine returnsInHanded_of_change (C := Try.checked) own started (by kernel_rfl) Try.func5
    (ChangeSpec.witness6 (enc := enc) (C := Try.checked) false ⟨#[], #[.int .u64 0, .int .u8 0, .string ⟨#[]⟩, .string ⟨#[]⟩], []⟩ 8 (by kernel_rfl) (by kernel_rfl) (by kernel_rfl) (by kernel_rfl)) ?_
  intro W base args ds gs before hval0 hW hcnd _
  have hval : ∀ (j : Nat) t v, Try.f5.params[j]? = some t → args[j]? = some v → Value.okWide Try.prog W .any base t v := hval0
  have hW' := hW
  obtain ⟨p, q, hA0, hV, rfl, hfz, hnd⟩ := hW
  have hA : DataW.TrodAll enc Try.prog W 0 (fun _ => true) true Try.f5.params.toList args.toList ds p := hA0
  rw [Try.params5] at hA hval
  obtain ⟨v0, vs0, d0, ds0, p0, q0, hargs, rfl, rfl, h0, r0⟩ := trodAll_cons hA
  obtain ⟨v1, vs1, d1, ds1, p1, q1, rfl, rfl, rfl, h1, r1⟩ := trodAll_cons r0
  obtain ⟨v2, vs2, d2, ds2, p2, q2, rfl, rfl, rfl, h2, r2⟩ := trodAll_cons r1
  obtain ⟨v3, vs3, d3, ds3, p3, q3, rfl, rfl, rfl, h3, r3⟩ := trodAll_cons r2
  obtain ⟨rfl, rfl, rfl⟩ := trodAll_nil r3
  obtain rfl : args = #[v0, v1, v2, v3] := by cases args; simp_all
  obtain ⟨rfl, rfl⟩ := trodVars_none hV
  obtain ⟨a0, rfl, rfl, rfl, w0⟩ := open_int Try.underlying22 (hval 0 22 v0 rfl rfl) h0
  obtain ⟨a1, rfl, rfl, rfl, w1⟩ := open_int Try.underlying5 (hval 1 5 v1 rfl rfl) h1
  obtain ⟨a2, rfl, rfl, rfl, w2⟩ := open_string Try.underlying9 (hval 2 9 v2 rfl rfl) h2
  obtain ⟨a3, rfl, rfl, rfl, w3⟩ := open_string Try.underlying9 (hval 3 9 v3 rfl rfl) h3
  clear hA0 hval0
  simp only [List.append_nil] at hW'
  refine (walk a0 a1 a2 a3 w0 w1 w2 w3 W).mono fun e W' ⟨he, hg⟩ => ?_
  subst he
  exact ⟨_, rfl, _, _, _, [], _, [], hW', trodAll_mk1 (shut_bool Try.underlying4 _), (trodAll_cons_mk (shut_int Try.underlying22 w0) (trodAll_cons_mk (shut_int Try.underlying5 w1) (trodAll_cons_mk (shut_string Try.underlying9 w2) (trodAll_cons_mk (shut_string Try.underlying9 w3) trodAll_mk0)))), rfl, hg.frame _, fun h => by cases h⟩
theorem over : Rows.wordBackRow.holds Try.pinned (OpenSpec.ofChange Rows.wordBackSpec) :=
  OpenClaim.holds_of_wide 5 Try.f5 rfl rfl rfl rfl rfl rfl rfl ⟨rfl, rfl, rfl, rfl, rfl⟩ rfl rfl rfl rfl rfl (by kernel_rfl) Try.func5 (by kernel_rfl)
    (of_decide_eq_true (by kernel_rfl)) (by unfold Func.isWrapper; first | (rw [if_pos (by decide +kernel)]; kernel_rfl) | (rw [if_neg (by decide +kernel)]; exact ⟨rfl, rfl⟩))
    (fun os started H enc _ => lifted os started H enc)
/-- The given statement. -/
theorem proved : Rows.WordBackSaid := over
end Go.Proofs.Ytohefmnmdnmfoaa.wordBack
