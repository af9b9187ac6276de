/- The contract of disk.Names. -/
import Derived.Test.YtjnkennlncdlgaaHs
import Derived.Test.YtjnkennlncdlgaaKy
namespace Go.Proofs.Ytjnkennlncdlgaa.Nd
open Go Go.RowKit Go.Lib Go.Maps Go.WideShapes Go.Proofs.Ytjnkennlncdlgaa.Bu Go.Proofs.Ytjnkennlncdlgaa.Mp Go.Proofs.Ytjnkennlncdlgaa.Dh Go.Proofs.Ytjnkennlncdlgaa.Fm Go.Proofs.Ytjnkennlncdlgaa.Dk Go.Proofs.Ytjnkennlncdlgaa.St Go.Proofs.Ytjnkennlncdlgaa.Ky
def keyL (fs : Fs) : List (List UInt8) := fs.map fun e => e.1.data.toList
/-- The names of all files, rising. -/
def names (fs : Fs) : List (List UInt8) := (keyL fs).mergeSort leB
def anyR : Value → Option (DataW Unit × List MemPlace) := fun _ => some (.lit (.bool true), [])
theorem rd_ent (e : Ent) (h : e.key.size ≤ maxLen) : WideElems.rd Try.prog 9 anyR e.entry = some (.string e.key.data.toList, .lit (.bool true)) := by
  have hk : keyOf Try.prog 9 (.string e.key) = some (.string e.key.data.toList) := by
    simp [keyOf, mapKey, h]
  simp [WideElems.rd, Ent.entry, hk, anyR]
theorem rg_ent (e : Ent) (h : e.key.size ≤ maxLen) : WideElems.rg Try.prog 9 anyR e.entry = (.string e.key.data.toList, .lit (.bool true)) := by
  simp [WideElems.rg, rd_ent e h]
def dat (es : List Ent) : DataW Unit := .map ((es.map fun e => ((.string e.key.data.toList, .lit (.bool true)) : Lit × DataW Unit)).foldr DataW.insert [])
theorem owns {w : World} {S : Nat → Prop} {m : Nat} {es : List Ent} {c : Nat} (h : At w S m (obj es c)) (hw : Wf es c) (hk : ∀ e ∈ es, e.key.size ≤ maxLen) (hl : es.length ≤ maxLen) :
    w.ownsMap Try.prog 9 anyR m es.length (dat es) := by
  refine ⟨(es.map Ent.entry).toArray, c, h.2, ⟨by simpa using hl, ⟨?_, ?_, ?_⟩, ?_⟩, by simp, ?_⟩
  · intro x hx
    obtain ⟨e, he, rfl⟩ := List.mem_map.1 (by simpa using hx)
    exact hw.born e he
  · have e1 : ((es.map Ent.entry).toArray.toList.map (·.born)) = es.map Ent.born := by simp [Ent.entry]
    rw [e1]; exact hw.bornN
  · have e1 : ((es.map Ent.entry).toArray.toList.map (·.key)) = (es.map Ent.key).map Value.string := by simp [Ent.entry]
    rw [e1]
    exact List.pairwise_map.2 (hw.keys.imp fun {a b} hab hc => hab (by simpa using hc))
  · intro x hx
    obtain ⟨e, he, rfl⟩ := List.mem_map.1 (by simpa using hx)
    exact ⟨_, rd_ent e (hk e he)⟩
  · unfold dat
    congr 2
    rw [List.toList_toArray, List.map_map]
    refine List.map_congr_left fun e he => ?_
    rw [Function.comp_apply, rg_ent e (hk e he)]
theorem keys_dat (es : List Ent) : (strKeys (dat es)).Perm (keyL (view es)) := by
  unfold dat strKeys keyL view
  refine ((Go.WideShapes.sorted_perm _).map _).trans ?_
  rw [List.map_map, List.map_map]
  exact .of_eq (List.map_congr_left fun e _ => rfl)
theorem size_dat (es : List Ent) : Maps.size (dat es) = es.length := by
  unfold dat
  rw [Maps.size_eq, (Go.WideShapes.sorted_perm _).length_eq, List.length_map]
set_option maxHeartbeats 1000000 in
theorem names_any {S : Nat → Prop} {w : World} {p : Nat} {D : St} (h : Full w S p D) (hk : ∀ e ∈ D.now, e.1.size ≤ maxLen) (hl : D.now.length ≤ 1048576) :
    Calls Try.prog 20 #[.pointer (some ⟨p, 0, none⟩)] w fun e w' => ∃ v, e = .returned v ∧ w'.ownsRow w.heap.size 9 1 v (names D.now).length ((names D.now).map encStr) ∧ Below w.heap.size w w' := by
  obtain ⟨d, g1, g2, g3, g4, g5, g6, g7, g8⟩ := h
  have hlen : d.es1.length = D.now.length := by rw [← g4]; simp [view]
  have hown := owns g1.now g1.wf1 (fun e he => by
    have : (e.key, e.text) ∈ D.now := by rw [← g4]; exact List.mem_map.2 ⟨e, he, rfl⟩
    exact hk _ this) (by unfold maxLen; omega)
  have hK := maps_Keys_35 (some d.m1) w
  have hS := slices_Sorted_keys_34_35 d.m1 d.es1.length (dat d.es1) anyR w hown (by rw [size_dat]; unfold maxLen; omega) (by rw [size_dat]; omega)
  have HK := Lib.hid (callsIn_wide.1 hK)
  have HS := Lib.hid (callsIn_wide.1 hS)
  have HP : Hid (∀ ss : List (List UInt8), ss.Perm (strKeys (dat d.es1)) → ss.mergeSort leB = names D.now ∧ ss.length = (names D.now).length) := Lib.hid fun ss hp => by
    have hp2 : ss.Perm (keyL D.now) := by rw [← g4]; exact hp.trans (keys_dat _)
    exact ⟨mergeSort_of_perm hp2, by unfold names; rw [List.length_mergeSort]; exact hp2.length_eq⟩
  have c1 : w.cell? ⟨p, 1, none⟩ = some (.map (some d.m1)) := DskAt.c g1 1
  clear hK hS hown g1 g2 g3 g4 g5 g6 g7 g8 hlen
  go_enter Try.func20, Try.ntmps20
  go_wp2_with (first
    | (go_at_call 35; refine HK.out.mono ?_; rintro e w' ⟨rfl, rfl⟩)
    | (go_at_call 34; refine HS.out.mono ?_; rintro e w' ⟨v, ss, rfl, hp, hrow, hnil, hb⟩; have HR := Lib.hid (And.intro hp (And.intro hrow hb)); clear hp hrow hb hnil))
  go_ret
  obtain ⟨hp, hrow, hb⟩ := (by assumption : Hid (_ ∧ _ ∧ _)).out
  obtain ⟨e1, e2⟩ := HP.out _ hp
  refine ⟨_, rfl, ?_, ?_⟩
  · rw [← e2, ← e1]
    obtain ⟨r1, r2⟩ := hrow
    refine ⟨r1, ?_⟩
    rcases r2 with r2 | ⟨g, cap, cur, q1, q2, q3⟩
    · exact .inl r2
    · exact .inr ⟨g, cap, cur, q1, by simp at q2; omega, q3⟩
  · refine ⟨hb.os, hb.tape, hb.output, by have := hb.size; simp at this; omega, fun b hlt => ?_⟩
    rw [hb.block b (by simp; omega)]
    exact heap_alloc w _ b hlt
end Go.Proofs.Ytjnkennlncdlgaa.Nd
