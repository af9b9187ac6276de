/- The contract of the document's own Put (package fascicleref11). -/
import Derived.Test.YtaoneiicoaiehaaGreatRm11
import Derived.Test.YtaoneiicoaiehaaGreatRf7
import Derived.Test.YtaoneiicoaiehaaGreatPg11
namespace Go.Proofs.YtaoneiicoaiehaaGreat.Rq11
open Go Go.RowKit Go.Lib Go.Proofs.YtaoneiicoaiehaaGreat Go.Proofs.YtaoneiicoaiehaaGreat.Wm Go.Proofs.YtaoneiicoaiehaaGreat.Fl7 Go.Proofs.YtaoneiicoaiehaaGreat.Dh Go.Proofs.YtaoneiicoaiehaaGreat.Sx11 Go.Proofs.YtaoneiicoaiehaaGreat.Nu11 Go.Proofs.YtaoneiicoaiehaaGreat.Ma11 Go.Proofs.YtaoneiicoaiehaaGreat.Ck11 Go.Proofs.YtaoneiicoaiehaaGreat.Tx11 Go.Proofs.YtaoneiicoaiehaaGreat.Mn11 Go.Proofs.YtaoneiicoaiehaaGreat.Pg11 Go.Proofs.YtaoneiicoaiehaaGreat.Rm11
theorem u64_of (n : Nat) (h : n ≤ 1000000) : IntKind.u64.wrap (n : Int) = (n : Int) := wrap_u64_small n (by omega)
set_option maxHeartbeats 8000000 in
set_option maxRecDepth 100000 in
theorem rput_any {w : World} {m : Man} {A : Option Addr} {c : Nat} (h : ManAt w m A c) (hlen : m.runs.length ≤ 1000000) :
    Calls Tryz.prog 42 #[manV m A c] w fun e w' => e = .returned (putV m) ∧ Below w.heap.size w w' := by
  unfold manV
  have hb0 : Below w.heap.size w (w.alloc (.cells #[.int .u64 (m.wal : Int), .slice A m.runs.length c, .int .u64 (m.next : Int)] 36)) := (Below.refl _ _).alloc (Nat.le_refl _) _
  have hmy := rmay_any (h.keep (Nat.le_refl _) hb0) hlen
  unfold manV at hmy
  have HMY := Lib.hid hmy
  have HB0 := Lib.hid hb0
  have H := Lib.hid h
  clear hmy hb0 h
  go_enter Tryz.func42, Tryz.ntmps42
  go_wp2_with fail
  refine HMY.out.mono ?_
  rintro e w1 ⟨rfl, hb1⟩
  have hbx : w1.heap[w.heap.size]? = some (.cells #[.int .u64 (m.wal : Int), .slice A m.runs.length c, .int .u64 (m.next : Int)] 36) := (hb1.block _ (by rw [size_alloc]; exact Nat.lt_succ_self _)).trans (heap_new _ _)
  have HBX := Lib.hid hbx
  have x0 : w1.cell? ⟨w.heap.size, 0, none⟩ = some (.int .u64 (m.wal : Int)) := by rw [cell_of hbx]; rfl
  have x1 : w1.cell? ⟨w.heap.size, 1, none⟩ = some (.slice A m.runs.length c) := by rw [cell_of hbx]; rfl
  have x2 : w1.cell? ⟨w.heap.size, 2, none⟩ = some (.int .u64 (m.next : Int)) := by rw [cell_of hbx]; rfl
  have HB1 := Lib.hid (HB0.out.trans (hb1.mono (by rw [size_alloc]; omega)))
  clear hb1 hbx HMY HB0
  cases hmay : may m with
  | false =>
    have hpv : putV m = .tuple #[.string ⟨#[]⟩, .int .i64 2] := by unfold putV; rw [hmay]; rfl
    have HPV := Lib.hid hpv
    clear hpv
    go_wp2
    go_ret2
    exact ⟨by rw [HPV.out]; rfl, HB1.out⟩
  | true =>
    have hml := (may_iff.1 hmay).1
    have hpv : putV m = .tuple #[.string (bs (fr (tx m))), .int .i64 0] := by unfold putV; rw [hmay]; rfl
    have HPV := Lib.hid hpv
    have hw64 := u64_of m.runs.length hlen
    have hmade := own_made w1 [m.wal, m.next, m.runs.length] (by show 3 ≤ 1000; omega)
    have hbm : Below w.heap.size w (w1.alloc (.cells (Nu11.nums [m.wal, m.next, m.runs.length]).toArray 33)) := HB1.out.alloc HB1.out.size _
    have hnm := H.out.nums.keep (Nat.le_refl _) hbm
    have HMD := Lib.hid hmade
    have HNM := Lib.hid hnm
    have HBM := Lib.hid hbm
    have HSZ : Hid (w1.heap.size ≤ (w1.alloc (.cells (Nu11.nums [m.wal, m.next, m.runs.length]).toArray 33)).heap.size) := Lib.hid (by rw [size_alloc]; omega)
    have x1' : (w1.alloc (.cells #[.int .u64 (m.wal : Int), .int .u64 (m.next : Int), .int .u64 (m.runs.length : Int)] 33)).cell? ⟨w.heap.size, 1, none⟩ = some (.slice A m.runs.length c) := by rw [cell_of ((heap_alloc _ _ _ (lt_of_at HBX.out)).trans HBX.out)]; rfl
    clear hpv hmade hbm hnm hmay
    go_wp2_with (at_builtin; refine wpList_app (B := w1.heap.size) (H := [m.wal, m.next, m.runs.length]) (L := m.runs) rfl _ _ rfl rfl rfl ?c1 ?c2 H.out.none ?c3 HSZ.out ?_)
    case c1 => exact HMD.out
    case c2 => exact HNM.out
    case c3 => show 3 + m.runs.length ≤ 1099511627776; omega
    intro v w2 hown hb2
    have hl1 : (row m).length = m.runs.length + 3 := by simp [row]
    rcases hown.shape with ⟨_, h0⟩ | ⟨g, c1, rfl, hg, hgl, hcells⟩
    · simp at h0
    have hrow : (m.wal :: m.next :: m.runs.length :: m.runs) = row m := rfl
    rw [hrow] at hcells ⊢
    rw [hl1]
    have hfit : ∀ n ∈ row m, n < 18446744073709551616 := by
      intro n hn
      unfold row at hn
      simp only [List.mem_cons] at hn
      rcases hn with rfl | rfl | rfl | hn
      · exact H.out.wal
      · exact H.out.next
      · omega
      · exact H.out.runs n hn
    have HR := Lib.hid hl1
    have HFIT := Lib.hid hfit
    have HB2 := Lib.hid (HBM.out.trans (hb2.mono HB1.out.size))
    have hcw : ∀ t (h : t < (row m).length), w2.cell? ⟨g, t, none⟩ = some (.int .u64 ((row m)[t] : Int)) := fun t h => (hcells t h).1
    have HCW := Lib.hid hcw
    have HGL := Lib.hid hgl
    clear hown hb2 hcells hg hgl hrow hl1 hfit hcw x0 x1 x2 x1' HMD HNM HBM HSZ HBX HB1
    obtain ⟨n, hn⟩ : ∃ n, n = m.runs.length := ⟨_, rfl⟩
    rw [← hn] at hml HR ⊢
    clear hn
    go_wp2_with fail
    go_loopg [5, 6, 7, 8] (n + 4) (fun g1 vs vi _ _ wr => ∃ i : Nat, vi = .int .i64 (i : Int) ∧ i ≤ n + 3 ∧ n + 4 - i ≤ g1 ∧ vs = .string (bs (ns ((row m).take i))) ∧ Hid (Below w.heap.size w wr) ∧ Hid (Below w2.heap.size w2 wr))
    case atStart => exact ⟨0, rfl, by omega, by omega, rfl, HB2, Lib.hid (Below.refl _ _)⟩
    case round =>
      clear HB2
      obtain ⟨i, rfl, hi, hg1, rfl, HB, HBW⟩ := hrel
      by_cases hin : i < n + 3
      · have hil : i < (row m).length := by rw [HR.out]; exact hin
        have hci : wr.cell? ⟨g, i, none⟩ = some (.int .u64 ((row m)[i] : Int)) := (HBW.out.cell (p := ⟨g, i, none⟩) HGL.out).trans (HCW.out i hil)
        have hv := HFIT.out _ (List.getElem_mem hil)
        have hzi : (i : Int) < (n : Int) + 3 := by omega
        have hsn := ns_snoc (row m) i hil
        have hp := WRefPut.put_ok ((row m)[i] : Int) (row m)[i] 8 wr (by omega) (by omega) hv rfl hv
        obtain ⟨S, hS⟩ : ∃ S, S = bs (ns ((row m).take i)) := ⟨_, rfl⟩
        have hSs : S.size = 8 * i := by rw [hS, bs_size, ns_len, List.length_take]; omega
        have hST : Hid (S ++ bs (putN (row m)[i] 8) = bs (ns ((row m).take (i + 1)))) := Lib.hid (by rw [hsn, Rf7.bs_append, hS])
        have hps : (bs (putN (row m)[i] 8)).size = 8 := by rw [bs_size, putN_length]
        rw [← hS]
        generalize (row m)[i] = x at hci hp hST hps hv
        have hz8 : ((8 : Nat) : Int) = 8 := rfl
        rw [hz8] at hp
        have hp2 : Calls Tryz.prog 70 #[.int .u64 (x : Int), .int .i64 8] wr fun e w' => e = .returned (.tuple #[.string (bs (putN x 8)), .int .i64 0]) ∧ Below wr.heap.size wr w' := hp
        generalize bs (putN x 8) = T at hST hps hp2
        have HP := Lib.hid hp2
        have hcat : S.size + T.size ≤ 9223372036854775807 := by omega
        clear hp hp2 hsn hil hS hz8
        go_wp2_with fail
        refine HP.out.mono ?_
        rintro e w3 ⟨rfl, hb3⟩
        have HB3 := Lib.hid (HB.out.trans (hb3.mono HB.out.size))
        have HBW3 := Lib.hid (HBW.out.trans (hb3.mono HBW.out.size))
        clear hb3 HP
        go_wp2
        rw [hST.out]
        go_roundg (n + 3 - i)
        case measure => omega
        case rel => exact ⟨i + 1, by first | rfl | go_num, by omega, by omega, rfl, HB3, HBW3⟩
      · obtain rfl : i = n + 3 := by omega
        have hzi : ¬ (n : Int) + 3 < (n : Int) + 3 := by omega
        have hfin : (row m).take (n + 3) = row m := List.take_of_length_le (by rw [HR.out]; exact Nat.le_refl _)
        have hns : ns (row m) = tx m := rfl
        rw [hfin, hns]
        have hsz : (bs (tx m)).size ≤ 4194304 := by rw [bs_size]; unfold tx; rw [ns_len, HR.out]; omega
        have HP := Lib.hid (Rf7.put_ok (bs (tx m)) wr hsz)
        clear hfin hns hsz
        go_wp2_with fail
        refine HP.out.mono ?_
        rintro e w3 ⟨rfl, hb3⟩
        have HB3 := Lib.hid (HB.out.trans (hb3.mono HB.out.size))
        clear hb3 HP
        go_wp2
        go_ret2
        exact ⟨by rw [HPV.out]; rfl, HB3.out⟩
end Go.Proofs.YtaoneiicoaiehaaGreat.Rq11
