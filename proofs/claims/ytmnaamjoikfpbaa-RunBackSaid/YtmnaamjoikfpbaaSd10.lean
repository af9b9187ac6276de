/- The law's sorted: what is there behind some puts, by the document's mem. -/
import Derived.Test.YtmnaamjoikfpbaaRq9
import Derived.Test.YtmnaamjoikfpbaaLa9
import Derived.Test.YtmnaamjoikfpbaaFd10
namespace Go.Proofs.Ytmnaamjoikfpbaa.Sd10
open Go Go.RowKit Go.Proofs.Ytmnaamjoikfpbaa.Pm9 Go.Proofs.Ytmnaamjoikfpbaa.Wd9 Go.Proofs.Ytmnaamjoikfpbaa.Mt9 Go.Proofs.Ytmnaamjoikfpbaa.Mm9 Go.Proofs.Ytmnaamjoikfpbaa.Rd9 Go.Proofs.Ytmnaamjoikfpbaa.Rg9 Go.Proofs.Ytmnaamjoikfpbaa.Rp9 Go.Proofs.Ytmnaamjoikfpbaa.Rq9
theorem sorted_mem : ∀ (L : List Pr), ∀ q ∈ Fd10.sorted L, q ∈ L := by
  suffices h : ∀ (L m : List Pr), ∀ q ∈ L.foldl (fun m x => Pm9.put x m) m, q ∈ L ∨ q ∈ m by
    intro L q hq
    rcases h L [] q hq with h | h
    · exact h
    · cases h
  intro L
  induction L with
  | nil => intro m q hq; exact .inr hq
  | cons x L ih =>
    intro m q hq
    rcases ih _ q hq with h | h
    · exact .inl (List.mem_cons_of_mem _ h)
    · rcases Fd10.put_mem h with ⟨h, _⟩ | h
      · exact .inl (by rw [h]; exact List.mem_cons_self)
      · exact .inr h
set_option maxRecDepth 20000 in
set_option maxHeartbeats 2000000 in
theorem sorted_any (w : World) (A : Option Addr) (c : Nat) (L : List Pr) (hl : Reads w A L) (hlen : L.length ≤ 1000000) (hz : ∀ x ∈ L, x.k.size ≤ 140737488351232 ∧ x.v.size ≤ 140737488351232) :
    Calls Try.prog 8 #[.slice A L.length c] w fun e w' => (∃ A' c', e = .returned (.slice A' (Fd10.sorted L).length c') ∧ Reads w' A' (Fd10.sorted L)) ∧ Below w.heap.size w w' := by
  obtain ⟨N, hN⟩ : ∃ N, N = L.length := ⟨_, rfl⟩
  rw [← hN] at hlen ⊢
  have H := Lib.hid hl
  have HN := Lib.hid hN
  have HZ := Lib.hid hz
  have hnew : RefAt (w.alloc (.cells #[.slice none 0 0] 28)) w.heap.size none 0 [] := ⟨heap_new _ _, Reads.nil _ _⟩
  have HNW := Lib.hid hnew
  have HB0 : Hid (Below w.heap.size w (w.alloc (.cells #[.slice none 0 0] 28))) := Lib.hid ((Below.refl _ _).alloc (Nat.le_refl _) _)
  obtain ⟨m, hm⟩ : ∃ m, m = (Fd10.sorted L).length := ⟨_, rfl⟩
  rw [← hm]
  have HMl := Lib.hid hm
  clear hl hN hz hnew hm
  go_enter Try.func8, Try.ntmps8
  go_wp2
  go_loopw [4, 7, 8, 9, 10, 11, 12, 13, 14, 15, 16, 17, 18] (fun i _ _ _ _ _ _ _ _ _ _ _ _ wr => ∃ (k : Nat) (A' : Option Addr) (c' : Nat), k ≤ N ∧ i = .int .i64 k ∧ Hid (RefAt wr w.heap.size A' c' (Fd10.sorted (L.take k))) ∧ Hid (Below w.heap.size w wr)) (fun i _ _ _ _ _ _ _ _ _ _ _ _ _ => N - (intOf i).toNat)
  case atStart => exact ⟨0, none, 0, by omega, rfl, HNW, HB0⟩
  case round =>
    obtain ⟨k, A', c', hk, rfl, hr, hB⟩ := hrel
    by_cases hlt : k < N
    · have hil : k < L.length := by rw [← HN.out]; exact hlt
      obtain ⟨b, o, rfl, p0, p1, p2⟩ := (H.out.keep (Nat.le_refl _) hB.out).at_ hil
      have hx1 := HZ.out _ (List.getElem_mem hil)
      obtain ⟨s1, s2, s3, s4⟩ := Fd10.sorted_ok (L.take k)
      have hf : Fine (Fd10.sorted (L.take k)) := ⟨by rw [List.length_take] at s3; omega, fun x hx => HZ.out x (List.mem_of_mem_take (sorted_mem _ x hx))⟩
      have hput := rput_loop hr.out hf s1 L[k] hx1.1 hx1.2
      have hsn : Pm9.put L[k] (Fd10.sorted (L.take k)) = Fd10.sorted (L.take (k + 1)) := by rw [List.take_succ_eq_append_getElem hil, Fd10.sorted_snoc]
      rw [hsn] at hput
      obtain ⟨x, hx⟩ : ∃ x, x = L[k] := ⟨_, rfl⟩
      rw [← hx] at p0 p1 p2 hput
      obtain ⟨er, her⟩ : ∃ er, er = erg (may x) := ⟨_, rfl⟩
      rw [← her] at hput
      obtain ⟨xk, xv, xg⟩ := x
      dsimp only at p0 p1 p2 hput
      have HP := Lib.hid hput
      have HB := Lib.hid hB.out
      clear hil hx1 s1 s2 s3 s4 hf hput hsn hx her hr hB
      go_wp2_with fail
      refine HP.out.mono ?_
      rintro e w2 ⟨rfl, A2, c2, hr2, ht, _⟩
      have hb2 : Below w.heap.size wr w2 := ht.below HB.out.size fun i hi => by rw [show i = w.heap.size from hi]; exact Nat.le_refl _
      have HR2 := Lib.hid hr2
      have HB2 := Lib.hid (HB.out.trans hb2)
      clear hr2 ht hb2
      go_wp2
      exact ⟨⟨k + 1, A2, c2, by omega, by go_num, HR2, HB2⟩, by simp [intOf]; omega⟩
    · obtain rfl : k = N := by omega
      have hfin : L.take k = L := List.take_of_length_le (by rw [← HN.out]; exact Nat.le_refl _)
      have hr2 := hr.out
      rw [hfin] at hr2
      have c0 := cell_of hr2.ref 0
      have HR := Lib.hid hr2
      rw [← HMl.out] at c0
      clear hfin hr2 hr
      go_wp2
      go_ret
      exact ⟨⟨A', c', rfl, HR.out.reads⟩, hB.out⟩
end Go.Proofs.Ytmnaamjoikfpbaa.Sd10
