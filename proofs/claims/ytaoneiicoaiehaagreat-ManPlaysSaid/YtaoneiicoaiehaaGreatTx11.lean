/- The contract of man.textOf: the numbers of a man, in eight bytes each. -/
import Derived.Test.YtaoneiicoaiehaaGreatMa11
import Derived.Test.YtaoneiicoaiehaaGreatFb1
import Derived.Test.YtaoneiicoaiehaaGreatFb2
import Derived.Shelf.Strings.BuilderK
namespace Go.Proofs.YtaoneiicoaiehaaGreat.Tx11
open Go Go.RowKit Go.Lib Go.Proofs.YtaoneiicoaiehaaGreat.Wm Go.Proofs.YtaoneiicoaiehaaGreat.Fl7 Go.Proofs.YtaoneiicoaiehaaGreat.Sh7 Go.Proofs.YtaoneiicoaiehaaGreat.Dh Go.Proofs.YtaoneiicoaiehaaGreat.Nu11 Go.Proofs.YtaoneiicoaiehaaGreat.Ma11
/-- The bytes of numbers. -/
def ns : List Nat → List UInt8
  | [] => []
  | n :: l => putN n 8 ++ ns l
theorem ns_len (l : List Nat) : (ns l).length = 8 * l.length := by
  induction l with
  | nil => rfl
  | cons n l ih => rw [ns, List.length_append, putN_length, ih, List.length_cons]; omega
theorem ns_append (a b : List Nat) : ns (a ++ b) = ns a ++ ns b := by
  induction a with
  | nil => rfl
  | cons n l ih => rw [List.cons_append, ns, ns, ih, List.append_assoc]
theorem ns_snoc (l : List Nat) (k : Nat) (h : k < l.length) : ns (l.take (k + 1)) = ns (l.take k) ++ putN l[k] 8 := by
  rw [List.take_succ_eq_append_getElem h, ns_append]
  show _ ++ (putN _ 8 ++ []) = _
  rw [List.append_nil]
/-- What tells a man. -/
def row (m : Man) : List Nat := m.wal :: m.next :: m.runs.length :: m.runs
def tx (m : Man) : List UInt8 := ns (row m)
theorem tx_len (m : Man) : (tx m).length = 24 + 8 * m.runs.length := by
  unfold tx; rw [ns_len]; unfold row; simp only [List.length_cons]; omega
/-- A builder at block b, that holds these bytes. -/
def Bf (B b : Nat) (l : List UInt8) (w : World) : Prop := Lib.IsBuilderF 125 5 B b (Lib.byteCells l) w
theorem Bf.keep {B b : Nat} {l : List UInt8} {w w' : World} (h : Bf B b l w) (hb : Below w.heap.size w w') : Bf B b l w' := by
  have hg : w.grownBy w' none := ⟨hb.os, hb.tape, hb.output, hb.size, fun k hk _ => hb.block k hk⟩
  have one : ∀ p, Lib.BuilderAtF 125 5 B b p (Lib.byteCells l) w → Lib.BuilderAtF 125 5 B b p (Lib.byteCells l) w' := by
    rintro p ⟨h1, v, h2, h3, h4⟩
    have hlt : b < w.heap.size := (Array.getElem?_eq_some_iff.1 h2).1
    exact ⟨h1, v, (hb.block b hlt).trans h2, h3.kept hg (by cases v.ownBlock <;> simp), h4⟩
  rcases h with h | h
  · exact .inl (one _ h)
  · exact .inr (one _ h)
theorem Bf.new (B : Nat) (w : World) (hB : B ≤ w.heap.size) : Bf B w.heap.size [] (w.alloc (.cells #[.pointer none, .slice none 0 0] 125)) :=
  .inl ⟨hB, _, heap_new _ _, World.ownsRowF_nil _ _ _ _, by simp [Value.ownBlock]⟩
theorem write_f (B b : Nat) (l : List UInt8) (s : ByteArray) (w : World) (h : Bf B b l w) (hlen : l.length + s.size ≤ 140737488355328) (hBw : B ≤ w.heap.size) :
    Calls Tryz.prog 85 #[.pointer (some ⟨b, 0, none⟩), .string s] w fun e w' => e = .returned (.tuple #[.int .i64 s.size, .nilIface]) ∧ Bf B b (l ++ s.data.toList) w' ∧ Below B w w' ∧ Lib.OthersKept 5 (some b) w w' :=
  (Any.Builder_WriteString_k lays166 extra B b (Lib.byteCells l) s w h (by simpa [Lib.byteCells] using hlen) hBw).mono fun _ _ h => ⟨h.1, by
    have e : Lib.byteCells l ++ Lib.strCells s = Lib.byteCells (l ++ s.data.toList) := by
      simp [Lib.byteCells, Lib.strCells]
    rw [e] at h
    exact .inr h.2.1, h.2.2⟩
theorem text_f (B b : Nat) (l : List UInt8) (w : World) (h : Bf B b l w) (hBw : B ≤ w.heap.size) :
    Calls Tryz.prog 86 #[.pointer (some ⟨b, 0, none⟩)] w fun e w' => e = .returned (.string (bs l)) ∧ Below B w w' :=
  (Any.Builder_String_any_k lays169 extra B b l w h hBw).mono fun _ _ h => ⟨h.1, h.2.2.1⟩
theorem put8 (n : Nat) (w : World) (h : n < 18446744073709551616) :
    Calls Tryz.prog 84 #[.int .u64 (n : Int), .int .i64 8] w fun e w' => e = .returned (.tuple #[.string (bs (putN n 8)), .int .i64 0]) ∧ Below w.heap.size w w' :=
  WPut.ok_var (n : Int) n 8 w (by omega) (Nat.le_refl _) (by omega) (Lib.hid rfl)
set_option maxHeartbeats 8000000 in
set_option maxRecDepth 100000 in
theorem textOf_any {w : World} {m : Man} {A : Option Addr} {c : Nat} (h : ManAt w m A c) (hlen : m.runs.length ≤ 1000000000) :
    Calls Tryz.prog 58 #[manV m A c] w fun e w' => e = .returned (.string (bs (tx m))) ∧ Below w.heap.size w w' := by
  unfold manV
  have H := Lib.hid h
  obtain ⟨n, hn⟩ : ∃ n, n = m.runs.length := ⟨_, rfl⟩
  have HN := Lib.hid hn
  rw [← hn] at hlen ⊢
  clear h hn
  obtain ⟨W0, hW0⟩ : ∃ W0, W0 = (w.alloc (.cells #[.int .u64 (m.wal : Int), .slice A n c, .int .u64 (m.next : Int)] 36)).alloc (.cells #[.pointer none, .slice none 0 0] 125) := ⟨_, rfl⟩
  have hs0 : W0.heap.size = w.heap.size + 2 := by rw [hW0, size_alloc, size_alloc]
  have hmade := own_made W0 [m.wal, m.next, n] (by show 3 ≤ 1000; omega)
  have hblk : W0.heap[w.heap.size + 1]? = some (.cells #[.pointer none, .slice none 0 0] 125 (0, 0)) := by
    have hx := heap_new (w.alloc (.cells #[.int .u64 (m.wal : Int), .slice A n c, .int .u64 (m.next : Int)] 36)) (.cells #[.pointer none, .slice none 0 0] 125)
    rw [size_alloc] at hx
    rw [hW0]; exact hx
  have hb0 : Below w.heap.size w W0 := by rw [hW0]; exact ((Below.refl _ _).alloc (Nat.le_refl _) _).alloc (by rw [size_alloc]; omega) _
  have hnm := H.out.nums.keep (Nat.le_refl _) (hb0.alloc (by omega) (.cells (Nu11.nums [m.wal, m.next, n]).toArray 33))
  have hb1 := hb0.alloc (by omega) (.cells (Nu11.nums [m.wal, m.next, n]).toArray 33)
  have hbl1 := (heap_alloc W0 (.cells (Nu11.nums [m.wal, m.next, n]).toArray 33) (w.heap.size + 1) (by omega)).trans hblk
  have hsz1 : (W0.alloc (.cells (Nu11.nums [m.wal, m.next, n]).toArray 33)).heap.size = w.heap.size + 3 := by rw [size_alloc, hs0]
  rw [hs0] at hmade
  subst hW0
  have HM := Lib.hid hmade
  have HW := Lib.hid hb1
  have HS := Lib.hid hsz1
  have HNM := Lib.hid hnm
  have HBL := Lib.hid hbl1
  clear hmade hb0 hb1 hsz1 hnm hblk hbl1 hs0
  go_enter Tryz.func58, Tryz.ntmps58
  go_wp2_with (at_builtin; refine wpList_app (B := w.heap.size + 2) (H := [m.wal, m.next, n]) (L := m.runs) rfl _ _ rfl rfl (by rw [HN.out]; rfl) ?c1 ?c2 H.out.none ?c3 (Nat.le_trans (Nat.le_succ _) (Nat.le_of_eq HS.out.symm)) ?_)
  case c1 => exact HM.out
  case c2 => exact HNM.out
  case c3 => show 3 + m.runs.length ≤ 1099511627776; rw [← HN.out]; omega
  intro v w1 hown hb2
  -- the row of all numbers, the builder
  obtain ⟨L, hL⟩ : ∃ L, L = row m := ⟨_, rfl⟩
  have hrow : [m.wal, m.next, n] ++ m.runs = L := by rw [hL]; unfold row; rw [← HN.out]; rfl
  have hlL : L.length = n + 3 := by rw [← hrow]; simp [← HN.out]
  have hfit : ∀ k (hk : k < L.length), L[k] < 18446744073709551616 := by
    have hf : ∀ x ∈ row m, x < 18446744073709551616 := by
      intro x hx
      unfold row at hx
      simp only [List.mem_cons] at hx
      rcases hx with e | e | e | e
      · have := H.out.wal; omega
      · have := H.out.next; omega
      · have := HN.out; omega
      · exact H.out.runs _ e
    intro k hk
    exact hf _ (hL ▸ List.getElem_mem hk)
  simp only [List.cons_append, List.nil_append] at hown hrow
  rw [hrow] at hown
  rcases hown.2 with ⟨_, h0⟩ | ⟨g, cap, cur, rfl, hg, hcur, _⟩
  · exact absurd h0 (by rw [hlL]; omega)
  have hcell : ∀ k (hk : k < L.length), w1.cell? ⟨g, k, none⟩ = some (.int .u64 (L[k] : Int)) := fun k hk => by
    rcases hown.shape with ⟨e, _⟩ | ⟨g', c', e, _, _, hc⟩
    · cases e
    · injection e with e1 e2 e3
      injection e1 with e1
      injection e1 with e1
      subst e1
      exact (hc k hk).1
  have hbw : Below w.heap.size w w1 := HW.out.trans (hb2.mono (Nat.le_add_right _ _))
  have hbf : Bf (w.heap.size + 1) (w.heap.size + 1) (ns (L.take 0)) w1 := .inl ⟨Nat.le_refl _, _, (hb2.block (w.heap.size + 1) (by omega)).trans HBL.out, World.ownsRowF_nil _ _ _ _, by simp [Value.ownBlock]⟩
  have HCUR := Lib.hid hcur
  have HCELL := Lib.hid hcell
  have HFIT := Lib.hid hfit
  have HBW := Lib.hid hbw
  have HBF := Lib.hid hbf
  have HTX := Lib.hid (show ns L = tx m from by rw [hL]; rfl)
  have HGE := Lib.hid (Lib.hid hg).out
  have hszw : w.heap.size + 3 ≤ w1.heap.size := Nat.le_trans (Nat.le_of_eq HS.out.symm) hb2.size
  have HSW := Lib.hid hszw
  rw [hlL]
  clear hown hcur hcell hfit hbw hbf hL hrow hb2 HM HNM HBL HW HS hg hszw
  go_wp2
  go_loopg [21] (n + 3) (fun g1 vk wr => ∃ k : Nat, vk = .int .i64 (k : Int) ∧ k ≤ n + 3 ∧ n + 3 - k ≤ g1 ∧ Hid (Bf (w.heap.size + 1) (w.heap.size + 1) (ns (L.take k)) wr) ∧ Hid (wr.heap[g]? = some (.cells cur 33)) ∧ Hid (Below w.heap.size w wr) ∧ Hid (w.heap.size + 3 ≤ wr.heap.size))
  case atStart => exact ⟨0, rfl, by omega, by omega, HBF, HCUR, HBW, HSW⟩
  case round =>
    clear HBF HBW HSW
    obtain ⟨k, rfl, hk, hkg, HBF, HK, HBW, HSW⟩ := hrel
    by_cases hlt : k < n + 3
    · have hkL : k < L.length := by rw [hlL]; exact hlt
      have hck : wr.cell? ⟨g, k, none⟩ = some (.int .u64 ((L[k] : Nat) : Int)) := by
        rw [← HCELL.out k hkL]
        simp only [World.cell?, HK.out, HCUR.out]
      obtain ⟨x, hx⟩ : ∃ x, x = L[k] := ⟨_, rfl⟩
      have hfx : x < 18446744073709551616 := by rw [hx]; exact HFIT.out k hkL
      have hsn := ns_snoc L k hkL
      rw [← hx] at hck hsn
      have HSN := Lib.hid hsn
      have HP := Lib.hid (put8 x wr hfx)
      clear hx hsn hkL
      go_wp2_with fail
      refine HP.out.mono ?_
      rintro e w2 ⟨rfl, hp⟩
      have hbf2 := HBF.out.keep hp
      have hk2 : w2.heap[g]? = some (.cells cur 33) := (hp.block g (lt_of_at HK.out)).trans HK.out
      have hl2 : (ns (L.take k)).length ≤ 8 * (n + 3) := by rw [ns_len, List.length_take]; omega
      have hw := write_f (w.heap.size + 1) (w.heap.size + 1) (ns (L.take k)) (bs (putN x 8)) w2 hbf2 (by rw [bs_size, putN_length]; omega) (by have := hp.size; have := HSW.out; omega)
      rw [bs_list, ← HSN.out] at hw
      have HWR := Lib.hid hw
      have HP2 := Lib.hid hp
      have HK2 := Lib.hid hk2
      clear hp hbf2 hk2 hl2 hw hck HP
      go_wp2_with fail
      refine HWR.out.mono ?_
      rintro e w3 ⟨rfl, h1, h2, h3⟩
      have hk3 : w3.heap[g]? = some (.cells cur 33) := h3 g _ HK2.out (by intro e; injection e with e; have := HGE.out; omega) (by intro c fz e; injection e with _ e2; revert e2; decide)
      have H1 := Lib.hid h1
      have H3 := Lib.hid hk3
      have H4 := Lib.hid (HBW.out.trans ((HP2.out.mono HBW.out.size).trans (h2.mono (Nat.le_succ _))))
      have H5 := Lib.hid (show w.heap.size + 3 ≤ w3.heap.size from by have := HP2.out.size; have := h2.size; have := HSW.out; omega)
      clear h1 h2 h3 hk3
      go_wp2
      go_roundg (n + 3 - (k + 1))
      case measure => omega
      case rel => exact ⟨k + 1, by go_num, by omega, Nat.le_refl _, H1, H3, H4, H5⟩
    · obtain rfl : k = n + 3 := by omega
      have he : ns (L.take (n + 3)) = tx m := by rw [List.take_of_length_le (by rw [hlL]; exact Nat.le_refl _)]; exact HTX.out
      have ht := text_f (w.heap.size + 1) (w.heap.size + 1) _ wr HBF.out (by have := HSW.out; omega)
      rw [he] at ht
      have HT := Lib.hid ht
      clear ht he
      go_wp2_with fail
      refine HT.out.mono ?_
      rintro e w2 ⟨rfl, hb⟩
      have H4 := Lib.hid (HBW.out.trans (hb.mono (Nat.le_succ _)))
      clear hb
      go_wp2
      go_ret
      exact ⟨rfl, H4.out⟩
end Go.Proofs.YtaoneiicoaiehaaGreat.Tx11
