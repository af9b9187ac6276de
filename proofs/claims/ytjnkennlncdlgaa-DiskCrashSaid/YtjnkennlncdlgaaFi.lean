/- The contract of the law's own Files: the names, rising, each with its bytes. -/
import Derived.Test.YtjnkennlncdlgaaNd
import Derived.Test.YtjnkennlncdlgaaRp
import Derived.Test.YtjnkennlncdlgaaSm
import Derived.Maps.AppendAt
import Derived.OwnWalk
namespace Go.Proofs.Ytjnkennlncdlgaa.Fi
open Go Go.RowKit Go.Lib Go.Maps Go.Proofs.Ytjnkennlncdlgaa.Mp Go.Proofs.Ytjnkennlncdlgaa.Dh Go.Proofs.Ytjnkennlncdlgaa.Fm Go.Proofs.Ytjnkennlncdlgaa.Dk Go.Proofs.Ytjnkennlncdlgaa.Cl Go.Proofs.Ytjnkennlncdlgaa.Nm Go.Proofs.Ytjnkennlncdlgaa.St Go.Proofs.Ytjnkennlncdlgaa.Ap Go.Proofs.Ytjnkennlncdlgaa.Hs Go.Proofs.Ytjnkennlncdlgaa.Nd Go.Proofs.Ytjnkennlncdlgaa.Sm
def key (n : List UInt8) : ByteArray := ⟨n.toArray⟩
/-- What a disk has. -/
def files (fs : Fs) : List (ByteArray × ByteArray) := (names fs).map fun n => (key n, ⟨(txt fs (key n)).toArray⟩)
theorem files_len (fs : Fs) : (files fs).length = (names fs).length := by simp [files]
theorem names_len (fs : Fs) : (names fs).length = fs.length := by simp [names, keyL]
theorem get_mem (k : ByteArray) : ∀ fs : Fs, (∃ e ∈ fs, e.1 = k) → ∃ t, Fm.get fs k = some t
  | [], h => by obtain ⟨e, he, _⟩ := h; simp at he
  | x :: fs, h => by
    unfold Fm.get
    by_cases hx : x.1 = k
    · rw [if_pos hx]; exact ⟨_, rfl⟩
    · rw [if_neg hx]
      obtain ⟨e, he, hk⟩ := h
      rcases List.mem_cons.1 he with rfl | he
      · exact absurd hk hx
      · exact get_mem k fs ⟨e, he, hk⟩
theorem name_mem {fs : Fs} {n : List UInt8} (h : n ∈ names fs) : ∃ e ∈ fs, e.1 = key n := by
  unfold names at h
  have h1 : n ∈ keyL fs := (List.mergeSort_perm _ _).mem_iff.1 h
  obtain ⟨e, he, rfl⟩ := List.mem_map.1 h1
  exact ⟨e, he, rfl⟩
theorem read_name {D : St} (hs : D.still = false) (hn : ∀ e ∈ D.now, nameOk e.1 = true) (hg : Go.Proofs.Ytjnkennlncdlgaa.St.Good D) {n : List UInt8} (h : n ∈ names D.now) :
    stRead D (key n) 0 16777216 = (txt D.now (key n), 0) := by
  obtain ⟨e, he, hk⟩ := name_mem h
  obtain ⟨t, ht⟩ := get_mem (key n) D.now ⟨e, he, hk⟩
  have hok := hn e he
  rw [hk] at hok
  have hlen := Nat.le_trans (txt_le (key n) D.now) hg.now
  have htx : txt D.now (key n) = t := by unfold txt; rw [ht]; rfl
  rw [htx] at hlen ⊢
  unfold stRead
  rw [if_neg (by rw [hs]; decide), if_neg (by rw [hok]; decide), if_neg (by decide), ht]
  show (((t.drop (0 : Int).toNat).take (16777216 : Int).toNat), (0 : Int)) = _
  rw [show (0 : Int).toNat = 0 from rfl, List.drop_zero, show (16777216 : Int).toNat = 16777216 from rfl, List.take_of_length_le hlen]
theorem name_ok (s : ByteArray) (h : nameOk s = true) : s.size ≤ 64 := by
  unfold nameOk at h
  simp only [Bool.and_eq_true, decide_eq_true_eq] at h
  exact h.1.2
theorem info69 : (Try.prog.info? 69).map (fun i => (i.zero, i.size, i.bytes)) = some (some (.agg #[.string ⟨#[]⟩, .string ⟨#[]⟩]), 2, 32) := by kernel_rfl
theorem own_keep {w w' : World} {B e s : Nat} {v : Value} {n : Nat} {xs : List Value} (h : w.ownsRow B e s v n xs) (hb : ∀ g, v.ownBlock = some g → w'.heap[g]? = w.heap[g]?) : w'.ownsRow B e s v n xs := by
  refine ⟨h.1, ?_⟩
  rcases h.2 with h | ⟨g, cap, cur, rfl, h1, h2, h3⟩
  · exact .inl h
  · exact .inr ⟨g, cap, cur, rfl, h1, (hb g rfl).trans h2, h3⟩
theorem own_base {w : World} {B B' e s : Nat} {v : Value} {n : Nat} {xs : List Value} (h : w.ownsRow B e s v n xs) (hB : B' ≤ B) : w.ownsRow B' e s v n xs := by
  refine ⟨h.1, ?_⟩
  rcases h.2 with h | ⟨g, cap, cur, rfl, h1, h3⟩
  · exact .inl h
  · exact .inr ⟨g, cap, cur, rfl, by omega, h3⟩
/-- The world in the midst of the loop: the files so far, what was there, the names' row. -/
structure In (w w1 wr : World) (v : Value) (l : List (ByteArray × ByteArray)) : Prop where
  row : wr.ownsRow w1.heap.size 69 2 v l.length (cellsF l)
  below : Below w1.heap.size w1 wr
theorem In.start (w w1 : World) : In w w1 w1 (.slice none 0 0) [] := ⟨World.ownsRow_nil _ _ _ _, Below.refl _ _⟩
theorem news2 (w : World) (x y : ByteArray) : ∀ j u, [Value.string x, Value.string y][j]? = some u → (w.alloc (.cells #[.string x, .string y] 69)).cell? ((⟨w.heap.size, 0, none⟩ : Addr).add j) = some u := by
  intro j u hj
  have hh : (w.alloc (.cells #[.string x, .string y] 69)).heap[w.heap.size]? = some (.cells #[.string x, .string y] 69) := heap_alloc_new w _
  match j, hj with
  | 0, hj =>
    simp at hj; subst hj
    rw [show (⟨w.heap.size, 0, none⟩ : Addr).add 0 = ⟨w.heap.size, 0, none⟩ by simp [Addr.add]]
    unfold World.cell?
    rw [hh]; rfl
  | 1, hj =>
    simp at hj; subst hj
    rw [show (⟨w.heap.size, 0, none⟩ : Addr).add 1 = ⟨w.heap.size, 1, none⟩ by simp [Addr.add]]
    unfold World.cell?
    rw [hh]; rfl
set_option maxRecDepth 20000 in
set_option maxHeartbeats 2000000 in
theorem files_any {S : Nat → Prop} {w : World} {p : Nat} {D : St} (h : Full w S p D) (hst : D.still = false) (hn : ∀ e ∈ D.now, nameOk e.1 = true) (hl : D.now.length ≤ 900) :
    Calls Try.prog 14 #[.pointer (some ⟨p, 0, none⟩)] w fun e w' => ∃ v, e = .returned (.tuple #[v, .bool true]) ∧ w'.ownsRow w.heap.size 69 2 v (files D.now).length (cellsF (files D.now)) ∧ Below w.heap.size w w' := by
  have hnames := names_any h (fun e he => by have := name_ok _ (hn e he); unfold maxLen; omega) (by omega)
  have HN := Lib.hid hnames
  have hgood : Go.Proofs.Ytjnkennlncdlgaa.St.Good D := by obtain ⟨d, _, _, _, _, _, _, _, g8⟩ := h; exact g8
  have HR : Hid (∀ (wr : World) (n : List UInt8), Below w.heap.size w wr → n ∈ names D.now → Calls Try.prog 18 #[.pointer (some ⟨p, 0, none⟩), .string (key n), .int .i64 0, .int .i64 16777216] wr fun e w' =>
      e = .returned (.tuple #[.string ⟨(txt D.now (key n)).toArray⟩, .int .i64 0]) ∧ w' = wr.alloc (cap1 (.string (key n)))) := Lib.hid fun wr n hb hm => by
    have hf : Full wr S p D := Full.frame h fun b hb1 hb2 => hb.block b hb2
    obtain ⟨e, he, hk⟩ := name_mem hm
    have hok := name_ok _ (hn e he)
    rw [hk] at hok
    have := Rp.read_at hf (key n) 0 16777216 (by unfold maxLen; omega) (by decide) (by decide)
    rw [read_name hst hn hgood hm] at this
    exact this
  obtain ⟨L, hL⟩ : ∃ L, L = names D.now := ⟨_, rfl⟩
  have hLl : L.length ≤ 900 := by rw [hL, names_len]; exact hl
  obtain ⟨F, hF⟩ : ∃ F, F = files D.now := ⟨_, rfl⟩
  have hFl : F.length = L.length := by rw [hF, hL, files_len]
  have HF : Hid (∀ k (hk : k < L.length) (hk2 : k < F.length), F[k] = (key L[k], ⟨(txt D.now (key L[k])).toArray⟩)) := Lib.hid fun k hk hk2 => by
    subst hF hL
    simp only [files, List.getElem_map]
  rw [← hL] at HN HR
  rw [← hF]
  clear hF hL hnames hgood h hst hn hl
  go_enter Try.func14, Try.ntmps14
  go_wp2_with fail
  refine HN.out.mono ?_
  rintro e w1 ⟨v, rfl, hrow, hb1⟩
  obtain ⟨ao, cp, rfl, hsh⟩ := own_shape hrow
  have HRow := Lib.hid hrow
  have HSh := Lib.hid hsh
  have HB1 := Lib.hid hb1
  clear hrow hsh hb1
  obtain ⟨i0, hi, hz0, hz1, hz2⟩ := info_parts info69
  go_wp2
  go_loopw [4, 6, 7, 8, 11, 12, 13, 14, 15, 16, 17, 18, 19, 20, 21, 22, 23, 24, 25, 26, 27, 28, 29, 30, 31, 32, 33, 34, 35, 36, 37, 38, 39, 40] (fun v i _ _ _ _ _ _ _ _ _ _ _ _ _ _ _ _ _ _ _ _ _ _ _ _ _ _ _ _ _ _ _ _ wr => ∃ k : Nat, k ≤ L.length ∧ i = .int .i64 k ∧ Hid (In w w1 wr v (F.take k))) (fun _ i _ _ _ _ _ _ _ _ _ _ _ _ _ _ _ _ _ _ _ _ _ _ _ _ _ _ _ _ _ _ _ _ _ => L.length - (intOf i).toNat)
  case atStart => exact ⟨0, by omega, rfl, Lib.hid (In.start w w1)⟩
  case round =>
    obtain ⟨k, hk, rfl, HIn⟩ := hrel
    by_cases hlt : k < L.length
    · have h1000 : k < 1000 := by omega
      obtain ⟨g, rfl, hg⟩ := HSh.out (by omega)
      obtain ⟨nm, hnm⟩ : ∃ nm, nm = L[k] := ⟨_, rfl⟩
      have hcell : wr.cell? ⟨g, k, none⟩ = some (.string (key nm)) := by
        have hlt1 := HRow.out.lt g hg
        rw [World.cell?_of_block (w := w1) (HIn.out.below.block g hlt1.2)]
        refine own_cell HRow.out hg k _ ?_
        rw [List.getElem?_map, List.getElem?_eq_getElem hlt, hnm]
        rfl
      have hbw : Below w.heap.size w wr := HB1.out.trans (HIn.out.below.mono HB1.out.size)
      have HRd := Lib.hid (HR.out wr nm hbw (by rw [hnm]; exact List.getElem_mem hlt))
      obtain ⟨y, hy⟩ : ∃ y : ByteArray, y = ⟨(txt D.now (key nm)).toArray⟩ := ⟨_, rfl⟩
      rw [← hy] at HRd
      obtain ⟨x, hx⟩ : ∃ x : ByteArray, x = key nm := ⟨_, rfl⟩
      rw [← hx] at HRd hcell
      have hcell2 : (wr.alloc (cap1 (.string x))).cell? ⟨g, k, none⟩ = some (.string x) := by
        rw [World.cell?_of_block (w := wr) (heap_alloc wr _ g (World.block_lt_of_cell? (w := wr) (a := ⟨g, k, none⟩) hcell))]; exact hcell
      have HFk : Hid (F[k]'(by omega) = (x, y)) := Lib.hid (by rw [HF.out k hlt (by omega), hx, hy, hnm])
      have HTk : Hid (F.take (k + 1) = F.take k ++ [(x, y)]) := Lib.hid (by rw [List.take_succ_eq_append_getElem (by omega), HFk.out])
      have hlenk : (F.take k).length = k := by rw [List.length_take]; omega
      have HLk := Lib.hid hlenk
      have hrk := HIn.out.row
      rw [hlenk] at hrk
      have HRk := Lib.hid hrk
      have HSz : Hid (w1.heap.size ≤ wr.heap.size) := Lib.hid HIn.out.below.size
      have hnw := news2 (wr.alloc (cap1 (.string x))) x y
      rw [show (wr.alloc (cap1 (.string x))).heap.size = wr.heap.size + 1 from Array.size_push ..] at hnw
      have HNW := Lib.hid hnw
      have HO2 := Lib.hid ((hrk.alloc (cap1 (.string x))).alloc (.cells #[.string x, .string y] 69))
      have h1c : ∀ u ∈ [Value.string x, Value.string y], u.oneCell' = true := by intro u hu; simp at hu; rcases hu with rfl | rfl <;> rfl
      have H1C := Lib.hid h1c
      have hb63 : Hid (k + 1 ≤ maxLen) := Lib.hid (by unfold maxLen; omega)
      have hbyt : Hid ((k + 1) * 32 ≤ 140737488355328) := Lib.hid (by omega)
      have hbas : Hid (w1.heap.size ≤ ((wr.alloc (cap1 (.string x))).alloc (.cells #[.string x, .string y] 69)).heap.size) := Lib.hid (by simp; have := HSz.out; omega)
      clear hy hx hnm hbw hlenk hrk hnw h1c
      go_wp2_with (first
        | (go_at_call 18; refine HRd.out.mono ?_; rintro e w' ⟨rfl, rfl⟩)
        | (at_builtin; refine wpList_append_own_at _ rfl _ _ 36 rfl w1.heap.size 69 i0 _ 2 32 Try.underlying36 hi hz0 hz1 hz2 rfl (by decide) _ _ _ rfl HO2.out ⟨wr.heap.size + 1, 0, none⟩ 1 1 [.string x, .string y] rfl rfl HNW.out H1C.out hb63.out hbyt.out hbas.out ?_; intro v2 w2 r1 r2 r3 r4; have HV := Lib.hid (And.intro r1 (And.intro r2 r4)); clear r1 r2 r3 r4))
      refine ⟨⟨k + 1, by omega, by go_num, ?_⟩, by simp [intOf]; omega⟩
      obtain ⟨r1, r2, _⟩ := (by assumption : Hid (_ ∧ _ ∧ _)).out
      refine Lib.hid ⟨?_, ?_⟩
      · rw [HTk.out, cellsF_snoc, List.length_append, HLk.out]
        exact r1
      · refine Below.grown ((HIn.out.below.alloc HSz.out _).alloc (by simp; have := HSz.out; omega) _) r2 (by simp; have := HSz.out; omega) fun g' hg' => ?_
        exact (HRk.out.lt g' hg').1
    · have : k = L.length := by omega
      subst this
      have hT : F.take L.length = F := by rw [← hFl, List.take_length]
      have HIn2 := HIn
      rw [hT] at HIn2
      clear hlt
      go_wp2
      go_ret2
      exact ⟨_, rfl, own_base HIn2.out.row HB1.out.size, HB1.out.trans (HIn2.out.below.mono HB1.out.size)⟩
end Go.Proofs.Ytjnkennlncdlgaa.Fi
