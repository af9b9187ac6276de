/- The contracts of frame.All and frame.Put: the frames of any texts, or that one of them is too long. -/
import Derived.Test.YtbjemekkpmbhhaaFn7
import Derived.Test.YtbjemekkpmbhhaaSh7
import Derived.Test.YtbjemekkpmbhhaaRs7
namespace Go.Proofs.Ytbjemekkpmbhhaa.Fp7
open Go Go.RowKit Go.Proofs.Ytbjemekkpmbhhaa.Wm Go.Proofs.Ytbjemekkpmbhhaa.Fl7 Go.Proofs.Ytbjemekkpmbhhaa.Rs7 Go.Proofs.Ytbjemekkpmbhhaa.Sh7
theorem frs_snoc (l : List (List UInt8)) (s : List UInt8) : frs (l ++ [s]) = frs l ++ fr s := by
  rw [frs_append, frs, frs, List.append_nil]
theorem ll_snoc (L : List ByteArray) (k : Nat) (hk : k < L.length) : ll (L.take (k + 1)) = ll (L.take k) ++ [L[k].data.toList] := by
  rw [List.take_succ_eq_append_getElem hk, ll_append]; rfl
theorem size_take (L : List ByteArray) (k : Nat) (hk : k < L.length) : size (ll (L.take (k + 1))) = size (ll (L.take k)) + (12 + L[k].size) := by
  rw [ll_snoc L k hk, size_append, size, size]
  have : L[k].data.toList.length = L[k].size := by simp
  omega
theorem size_le (l : List (List UInt8)) (k : Nat) : size (l.take k) ≤ size l := by
  rw [← frs_len, ← frs_len]
  conv => rhs; rw [← List.take_append_drop k l, frs_append, List.length_append]
  omega
set_option maxRecDepth 20000 in
set_option maxHeartbeats 2000000 in
/-- One text is too long. -/
theorem all_long (w : World) (A : Option Addr) (c : Nat) (L : List ByteArray) (hl : Rds w A L) (hlen : L.length ≤ 140737488351232) (hsz : size (ll L) ≤ 140737488355328) (q : Nat) (hq : q < L.length) (hqs : 4194304 < L[q].size) (hs : ∀ k (h : k < L.length), k < q → L[k].size ≤ 4194304) :
    Calls Try.prog 28 #[.slice A L.length c] w fun e w' => e = .returned (.tuple #[.string ⟨#[]⟩, .int .i64 5]) ∧ w' = w := by
  have HL := Lib.hid hl
  have HS := Lib.hid hs
  have HZ := Lib.hid hsz
  have HQ := Lib.hid hqs
  clear hl hs hqs hsz
  obtain ⟨N, hN⟩ : ∃ N, N = L.length := ⟨_, rfl⟩
  rw [← hN]
  rw [← hN] at hlen
  have H1 := Lib.hid hN
  clear hN
  go_enter Try.func28, Try.ntmps28
  go_wp2
  go_loop [4, 6, 13] (fun s _ i => ∃ k : Nat, k ≤ q ∧ i = .int .i64 k ∧ s = .int .i64 (size (ll (L.take k)) : Nat)) (fun _ _ i => N - (intOf i).toNat)
  case atStart => exact ⟨0, by omega, rfl, rfl⟩
  case round =>
    obtain ⟨k, hk, rfl, rfl⟩ := hrel
    have hkN : k < N := by rw [H1.out]; omega
    have hkl : k < L.length := by omega
    obtain ⟨b, o, rfl, p0⟩ := HL.out.at_ hkl
    have hst := size_take L k hkl
    have hle : size (ll (L.take (k + 1))) ≤ size (ll L) := by rw [ll_take]; exact size_le _ _
    rw [hst] at hle
    by_cases hkq : k = q
    · subst hkq
      have h2 := HQ.out
      generalize L[k] = x at p0 h2
      clear hkl hst hle hq HQ
      go_wp2
      go_ret2
      exact ⟨rfl, rfl⟩
    · have h2 := HS.out k hkl (by omega)
      have hz := HZ.out
      obtain ⟨Z, hZ⟩ : ∃ Z, Z = size (ll (L.take k)) := ⟨_, rfl⟩
      rw [← hZ] at hst hle ⊢
      have hst2 := Lib.hid hst
      generalize L[k] = x at p0 h2 hle hst2
      have hlt : k < q := by omega
      clear hkl hst hq HQ HZ hZ
      go_wp2
      go_round
      case rel => exact ⟨k + 1, by omega, by go_num, by rw [hst2.out]; go_num⟩
      case measure => simp [intOf]; omega
theorem grown_of_below {w w' : World} (h : Below w.heap.size w w') : w.grownBy w' none := ⟨h.os, h.tape, h.output, h.size, fun k hk _ => h.block k hk⟩
/-- A call that touches nothing that was there leaves a builder as it is. -/
theorem bld_keep {B b : Nat} {l : List UInt8} {w w' : World} (h : Bld B b l w) (hb : Below w.heap.size w w') : Bld B b l w' := by
  have one : ∀ p, Lib.BuilderAt 78 5 B b p (Lib.byteCells l) w → Lib.BuilderAt 78 5 B b p (Lib.byteCells l) w' := by
    rintro p ⟨h1, v, h2, h3, h4⟩
    have hlt : b < w.heap.size := (Array.getElem?_eq_some_iff.1 h2).1
    exact ⟨h1, v, (hb.block b hlt).trans h2, h3.kept (grown_of_below hb) (by cases v.ownBlock <;> simp), h4⟩
  rcases h with h | h
  · exact .inl (one _ h)
  · exact .inr (one _ h)
set_option maxRecDepth 20000 in
set_option maxHeartbeats 4000000 in
/-- No text is too long: the frames of all. -/
theorem all_ok (w : World) (A : Option Addr) (c : Nat) (L : List ByteArray) (hl : Rds w A L) (hlen : L.length ≤ 140737488351232) (hsz : size (ll L) ≤ 140737488355328) (hs : ∀ k (h : k < L.length), L[k].size ≤ 4194304) :
    Calls Try.prog 28 #[.slice A L.length c] w fun e w' => e = .returned (.tuple #[.string (bs (frs (ll L))), .int .i64 0]) ∧ Below w.heap.size w w' := by
  have HL := Lib.hid hl
  have HS := Lib.hid hs
  have HZ := Lib.hid hsz
  clear hl hs hsz
  obtain ⟨N, hN⟩ : ∃ N, N = L.length := ⟨_, rfl⟩
  rw [← hN]
  rw [← hN] at hlen
  have H1 := Lib.hid hN
  clear hN
  go_enter Try.func28, Try.ntmps28
  go_wp2
  go_loop [4, 6, 13] (fun s _ i => ∃ k : Nat, k ≤ N ∧ i = .int .i64 k ∧ s = .int .i64 (size (ll (L.take k)) : Nat)) (fun _ _ i => N - (intOf i).toNat)
  case atStart => exact ⟨0, by omega, rfl, rfl⟩
  case round =>
    obtain ⟨k, hk, rfl, rfl⟩ := hrel
    by_cases hkN : k < N
    · have hkl : k < L.length := by rw [← H1.out]; exact hkN
      obtain ⟨b, o, rfl, p0⟩ := HL.out.at_ hkl
      have hst := size_take L k hkl
      have hle : size (ll (L.take (k + 1))) ≤ size (ll L) := by rw [ll_take]; exact size_le _ _
      rw [hst] at hle
      have h2 := HS.out k hkl
      have hz := HZ.out
      obtain ⟨Z, hZ⟩ : ∃ Z, Z = size (ll (L.take k)) := ⟨_, rfl⟩
      rw [← hZ] at hst hle ⊢
      have hst2 := Lib.hid hst
      generalize L[k] = x at p0 h2 hle hst2
      clear hkl hst HZ hZ
      go_wp2
      go_round
      case rel => exact ⟨k + 1, by omega, by go_num, by rw [hst2.out]; go_num⟩
      case measure => simp [intOf]; omega
    · have hk2 : k = N := by omega
      subst hk2
      have e : L.take k = L := List.take_of_length_le (by rw [← H1.out]; omega)
      rw [e]
      have hz := HZ.out
      have HZ2 := Lib.hid HZ.out
      generalize size (ll L) = Z at hz HZ ⊢
      clear e hkN
      have hg := grow_any w.heap.size w.heap.size Z (w.alloc (.cells #[.pointer none, .slice none 0 0] 78)) (Nat.le_refl _) (heap_alloc_new w _) (by simp) (by omega)
      have HG := Lib.hid hg
      clear hg
      go_wp2_with fail
      refine HG.out.mono ?_
      rintro e w1 ⟨rfl, hB, hb⟩
      have HB := Lib.hid hB
      have hb2 : Below w.heap.size w w1 := ((Below.refl w.heap.size w).alloc (Nat.le_refl _) _).trans hb
      have Hb := Lib.hid hb2
      clear hB hb hb2
      go_wp2
      go_loopw [9, 10, 30] (fun _ _ i wr => ∃ j : Nat, j ≤ k ∧ i = .int .i64 j ∧ Hid (Bld w.heap.size w.heap.size (frs (ll (L.take j))) wr) ∧ Hid (Below w.heap.size w wr)) (fun _ _ i _ => k - (intOf i).toNat)
      case atStart => exact ⟨0, by omega, rfl, HB, Hb⟩
      case round =>
        obtain ⟨j, hj, rfl, HB1, Hb1⟩ := hrel
        by_cases hjk : j < k
        · have hjl : j < L.length := by rw [← H1.out]; exact hjk
          obtain ⟨b, o, rfl, p0⟩ := (HL.out.keep (Nat.le_refl _) Hb1.out).at_ hjl
          have h2 := HS.out j hjl
          have hfl := frs_len (ll (L.take j))
          have hst := size_take L j hjl
          have hle : size (ll (L.take (j + 1))) ≤ size (ll L) := by rw [ll_take]; exact size_le _ _
          have hsn : frs (ll (L.take (j + 1))) = frs (ll (L.take j)) ++ fr L[j].data.toList := by rw [ll_snoc L j hjl, frs_snoc]
          have hz := HZ2.out
          rw [hst] at hle
          generalize L[j] = x at p0 h2 hle hsn
          obtain ⟨F1, hF1e⟩ : ∃ F1, F1 = frs (ll (L.take (j + 1))) := ⟨_, rfl⟩
          rw [← hF1e] at hsn
          have HFE := Lib.hid hF1e
          clear hF1e
          generalize frs (ll (L.take j)) = F0 at hfl hsn HB1
          have hsz : F0.length + 12 + x.size ≤ 140737488355328 := by omega
          have HSN := Lib.hid hsn
          clear hjl hst hfl hle hsn HZ HZ2 hz
          have hw64 : IntKind.u64.wrap (x.size : Int) = (x.size : Int) := wrap_u64_small _ (by omega)
          have hxl : x.data.toList.length = x.size := by simp
          have hl0 : (cnt x.data.toList) = putN x.size 4 := by unfold cnt; rw [hxl]
          obtain ⟨C, hC⟩ : ∃ C, C = bs (cnt x.data.toList) := ⟨_, rfl⟩
          have hCl : C.data.toList = cnt x.data.toList := by rw [hC]; rfl
          have hCs : C.size = 4 := by rw [hC, bs_size, cnt_len]
          have hnum := Fn7.number_any (x.size : Int) x.size wr (Lib.hid rfl) (by omega)
          rw [← hl0, ← hC] at hnum
          have HNUM := Lib.hid hnum
          obtain ⟨S, hS⟩ : ∃ S, S = bs (sum4 C.data.toList) := ⟨_, rfl⟩
          obtain ⟨T, hT⟩ : ∃ T, T = bs (sum4 x.data.toList) := ⟨_, rfl⟩
          have hSl : S.data.toList = sum4 (cnt x.data.toList) := by rw [hS, hCl]; rfl
          have hTl : T.data.toList = sum4 x.data.toList := by rw [hT]; rfl
          have hSs : S.size = 4 := by rw [hS, bs_size, sum4_len]
          have hTs : T.size = 4 := by rw [hT, bs_size, sum4_len]
          have hsumC : ∀ W, Calls Try.prog 48 #[.string C] W fun e w' => e = .returned (.string S) ∧ Below W.heap.size W w' := fun W => by
            rw [hS]; exact Fn7.sum_any C W (by unfold maxLen; omega)
          have hsumX : ∀ W, Calls Try.prog 48 #[.string x] W fun e w' => e = .returned (.string T) ∧ Below W.heap.size W w' := fun W => by
            rw [hT]; exact Fn7.sum_any x W (by unfold maxLen; omega)
          have hF1 : F1 = F0 ++ C.data.toList ++ S.data.toList ++ T.data.toList ++ x.data.toList := by
            rw [HSN.out, hSl, hTl, hCl]; unfold fr; simp only [List.append_assoc]
          have HF := Lib.hid hF1
          have HSC := Lib.hid hsumC
          have HSX := Lib.hid hsumX
          have hClen : C.data.toList.length = 4 := by rw [hCl, cnt_len]
          have hSlen : S.data.toList.length = 4 := by rw [hSl, sum4_len]
          have hTlen : T.data.toList.length = 4 := by rw [hTl, sum4_len]
          have HCn := Lib.hid hClen
          have HSn := Lib.hid hSlen
          have HTn := Lib.hid hTlen
          have q0 : F0.length + C.size ≤ 140737488355328 := by omega
          have q1 : (F0 ++ C.data.toList).length + S.size ≤ 140737488355328 := by rw [List.length_append, hClen]; omega
          have q2 : (F0 ++ C.data.toList ++ S.data.toList).length + T.size ≤ 140737488355328 := by rw [List.length_append, List.length_append, hClen, hSlen]; omega
          have q3 : (F0 ++ C.data.toList ++ S.data.toList ++ T.data.toList).length + x.size ≤ 140737488355328 := by rw [List.length_append, List.length_append, List.length_append, hClen, hSlen, hTlen]; omega
          have Q0 := Lib.hid q0
          have Q1 := Lib.hid q1
          have Q2 := Lib.hid q2
          have Q3 := Lib.hid q3
          clear q0 q1 q2 q3 hF1 hsumC hsumX hSl hTl hCl hS hT hC hl0 hnum HSN hxl hCs hSs hTs hClen hSlen hTlen hsz
          go_wp2_with fail
          refine HNUM.out.mono ?_
          rintro e w2 ⟨rfl, hb2⟩
          have HB2 := Lib.hid (bld_keep HB1.out hb2)
          have Hb2 := Lib.hid (Hb1.out.trans (hb2.mono Hb1.out.size))
          clear hb2 HNUM HB1 Hb1
          go_wp2_with fail
          refine (write_any w.heap.size w.heap.size F0 C w2 HB2.out Q0.out Hb2.out.size).mono ?_
          rintro e w3 ⟨rfl, hB3, hb3⟩
          have HB3 := Lib.hid hB3
          have Hb3 := Lib.hid (Hb2.out.trans hb3)
          clear hB3 hb3 HB2 Hb2
          go_wp2_with fail
          refine (HSC.out w3).mono ?_
          rintro e w4 ⟨rfl, hb4⟩
          have HB4 := Lib.hid (bld_keep HB3.out hb4)
          have Hb4 := Lib.hid (Hb3.out.trans (hb4.mono Hb3.out.size))
          clear hb4 HSC HB3 Hb3
          go_wp2_with fail
          refine (write_any w.heap.size w.heap.size _ S w4 HB4.out Q1.out Hb4.out.size).mono ?_
          rintro e w5 ⟨rfl, hB5, hb5⟩
          have HB5 := Lib.hid hB5
          have Hb5 := Lib.hid (Hb4.out.trans hb5)
          clear hB5 hb5 HB4 Hb4
          go_wp2_with fail
          refine (HSX.out w5).mono ?_
          rintro e w6 ⟨rfl, hb6⟩
          have HB6 := Lib.hid (bld_keep HB5.out hb6)
          have Hb6 := Lib.hid (Hb5.out.trans (hb6.mono Hb5.out.size))
          clear hb6 HSX HB5 Hb5
          go_wp2_with fail
          refine (write_any w.heap.size w.heap.size _ T w6 HB6.out Q2.out Hb6.out.size).mono ?_
          rintro e w7 ⟨rfl, hB7, hb7⟩
          have HB7 := Lib.hid hB7
          have Hb7 := Lib.hid (Hb6.out.trans hb7)
          clear hB7 hb7 HB6 Hb6
          go_wp2_with fail
          refine (write_any w.heap.size w.heap.size _ x w7 HB7.out Q3.out Hb7.out.size).mono ?_
          rintro e w8 ⟨rfl, hB8, hb8⟩
          have HB8 := Lib.hid hB8
          have Hb8 := Lib.hid (Hb7.out.trans hb8)
          clear hB8 hb8 HB7 Hb7
          go_wp2
          go_roundw
          case rel => exact ⟨j + 1, by omega, by go_num, Lib.hid (by rw [← HFE.out, HF.out]; exact HB8.out), Hb8⟩
          case measure => simp [intOf]; omega
        · have hj2 : j = k := by omega
          subst hj2
          have e : L.take j = L := List.take_of_length_le (by rw [← H1.out]; omega)
          rw [e] at HB1
          clear e hjk
          go_wp2_with fail
          refine (text_any w.heap.size w.heap.size _ wr HB1.out Hb1.out.size).mono ?_
          rintro e w2 ⟨rfl, hb2⟩
          have Hb2 := Lib.hid (Hb1.out.trans hb2)
          clear hb2
          go_wp2
          go_ret2
          exact ⟨rfl, Hb2.out⟩
theorem frs_one (s : List UInt8) : frs [s] = fr s := by rw [frs, frs, List.append_nil]
theorem rds_one (w : World) (s : ByteArray) : Rds (w.alloc (.cells #[.string s] 9)) (some ⟨w.heap.size, 0, none⟩) [s] := fun _ =>
  ⟨w.heap.size, 0, rfl, by simp, fun k hk => by
    have h0 : k = 0 := by simpa using hk
    subst h0
    exact (cell_of_row _ _ _ _ _ _ (heap_alloc_new w _)).trans rfl⟩
end Go.Proofs.Ytbjemekkpmbhhaa.Fp7
