/- The contracts of maps.Keys and slices.Sorted over our maps: the library's own, laid over this program by its own tool (the numbers below are this seat's: see NOTES). The contract of disk.Names. The contract of the law's own Same, over two rows of one content. The contract of the law's own Files: the names, rising, each with its bytes. -/
import Derived.Shelf.SlGeneric
import Derived.Shelf.SlIter.Nil
import Derived.Shelf.SortM.Plain
import Derived.Shelf.SortM.SortNone
import Derived.Ground.GgzProg
import Derived.Ground.SlgmProg
import Derived.Test.YtaoneiicoaiehaaGreatProg
import Derived.Test.YtaoneiicoaiehaaGreatDb2
import Derived.Maps.AppendAt
import Derived.OwnWalk
namespace Go.Proofs.YtaoneiicoaiehaaGreat.Ky
set_option maxRecDepth 100000
open Go Go.RowKit Go.Maps Go.Sort Go.Shelf Go.Proofs
def keys56_ren : Go.Shelf.Ren := ⟨fun | 7 => 56 | 10 => 82 | n => n, fun | 23 => 55 | 26 => 9 | 3 => 97 | 28 => 95 | 0 => 0 | 27 => 94 | 33 => 113 | 4 => 4 | n => n, fun | n => n⟩
theorem keys56 : Go.Proofs.SlLaysZ.n7 Tryz.prog keys56_ren := {
  mixed := by kernel_rfl
  f7 := ⟨Tryz.f56.name, by decide, Tryz.func56.trans (congrArg some (by kernel_rfl))⟩
  f10 := ⟨Tryz.f82.name, by decide, Tryz.func82.trans (congrArg some (by kernel_rfl))⟩
  t0 := Tryz.underlying0
  a0 := Tryz.isAgg0
  z0 := Tryz.sizeOf0
  v0 := Tryz.zeroValue0
  t4 := Tryz.underlying4
  a4 := Tryz.isAgg4
  z4 := Tryz.sizeOf4
  v4 := Tryz.zeroValue4
  t23 := Tryz.underlying55
  a23 := Tryz.isAgg55
  z23 := Tryz.sizeOf55
  v23 := Tryz.zeroValue55
  t26 := Tryz.underlying9
  a26 := Tryz.isAgg9
  z26 := Tryz.sizeOf9
  v26 := Tryz.zeroValue9
  t27 := Tryz.underlying94
  a27 := Tryz.isAgg94
  z27 := Tryz.sizeOf94
  v27 := Tryz.zeroValue94
  t28 := Tryz.underlying95
  a28 := Tryz.isAgg95
  z28 := Tryz.sizeOf95
  v28 := Tryz.zeroValue95
  t33 := Tryz.underlying113
  a33 := Tryz.isAgg113
  z33 := Tryz.sizeOf113
  v33 := Tryz.zeroValue113 }
def sorted55_ren : Go.Shelf.Ren := ⟨fun | 6 => 55 | 8 => 80 | 9 => 81 | 11 => 108 | 13 => 68 | 12 => 109 | 23 => 102 | 24 => 103 | 14 => 125 | 15 => 126 | 16 => 127 | 17 => 128 | 18 => 129 | 19 => 130 | 20 => 131 | 21 => 132 | 22 => 133 | 25 => 138 | 26 => 120 | 27 => 121 | 28 => 139 | 29 => 140 | 30 => 141 | 31 => 144 | n => n, fun | 26 => 9 | 28 => 95 | 24 => 72 | 0 => 0 | 3 => 3 | 37 => 110 | 48 => 149 | 50 => 33 | 4 => 4 | 40 => 142 | 39 => 141 | 45 => 114 | 5 => 5 | 9 => 9 | 51 => 160 | 55 => 164 | 57 => 175 | 58 => 176 | 33 => 113 | n => n, fun | n => n⟩
theorem sorted55 : Go.Proofs.SlLaysZ.n6 Tryz.prog sorted55_ren := {
  mixed := by kernel_rfl
  f6 := ⟨Tryz.f55.name, by decide, Tryz.func55.trans (congrArg some (by kernel_rfl))⟩
  f8 := ⟨Tryz.f80.name, by decide, Tryz.func80.trans (congrArg some (by kernel_rfl))⟩
  f11 := ⟨Tryz.f108.name, by decide, Tryz.func108.trans (congrArg some (by kernel_rfl))⟩
  t0 := Tryz.underlying0
  a0 := Tryz.isAgg0
  z0 := Tryz.sizeOf0
  v0 := Tryz.zeroValue0
  t24 := Tryz.underlying72
  a24 := Tryz.isAgg72
  z24 := Tryz.sizeOf72
  v24 := Tryz.zeroValue72
  t26 := Tryz.underlying9
  a26 := Tryz.isAgg9
  z26 := Tryz.sizeOf9
  v26 := Tryz.zeroValue9
  t28 := Tryz.underlying95
  a28 := Tryz.isAgg95
  z28 := Tryz.sizeOf95
  v28 := Tryz.zeroValue95
  i26 := by kernel_rfl }
def sort81_ren : Go.Shelf.Ren := ⟨fun | 6 => 81 | 8 => 68 | 9 => 109 | 19 => 102 | 20 => 103 | 21 => 125 | 22 => 126 | 23 => 127 | 24 => 128 | 25 => 129 | 26 => 130 | 27 => 131 | 28 => 132 | 29 => 133 | 36 => 138 | 31 => 120 | 32 => 121 | 37 => 139 | 38 => 140 | 39 => 141 | 41 => 144 | n => n, fun | 27 => 72 | 29 => 9 | 3 => 3 | 32 => 110 | 26 => 72 | 0 => 0 | 44 => 149 | 46 => 33 | 4 => 4 | 36 => 142 | 35 => 141 | 41 => 114 | 5 => 5 | 9 => 9 | 53 => 160 | 57 => 164 | 63 => 175 | 64 => 176 | n => n, fun | n => n⟩
theorem sort81 : Go.Proofs.SlLaysM.n6 Tryz.prog sort81_ren := {
  mixed := by kernel_rfl
  f6 := ⟨Tryz.f81.name, by decide, Tryz.func81.trans (congrArg some (by kernel_rfl))⟩
  f8 := Tryz.func68.trans (congrArg some (by kernel_rfl))
  f9 := ⟨Tryz.f109.name, by decide, Tryz.func109.trans (congrArg some (by kernel_rfl))⟩
  f19 := Tryz.func102.trans (congrArg some (by kernel_rfl))
  f20 := Tryz.func103.trans (congrArg some (by kernel_rfl))
  f21 := ⟨Tryz.f125.name, by decide, Tryz.func125.trans (congrArg some (by kernel_rfl))⟩
  f22 := ⟨Tryz.f126.name, by decide, Tryz.func126.trans (congrArg some (by kernel_rfl))⟩
  f23 := ⟨Tryz.f127.name, by decide, Tryz.func127.trans (congrArg some (by kernel_rfl))⟩
  f24 := ⟨Tryz.f128.name, by decide, Tryz.func128.trans (congrArg some (by kernel_rfl))⟩
  f25 := ⟨Tryz.f129.name, by decide, Tryz.func129.trans (congrArg some (by kernel_rfl))⟩
  f26 := ⟨Tryz.f130.name, by decide, Tryz.func130.trans (congrArg some (by kernel_rfl))⟩
  f27 := ⟨Tryz.f131.name, by decide, Tryz.func131.trans (congrArg some (by kernel_rfl))⟩
  f28 := ⟨Tryz.f132.name, by decide, Tryz.func132.trans (congrArg some (by kernel_rfl))⟩
  f29 := ⟨Tryz.f133.name, by decide, Tryz.func133.trans (congrArg some (by kernel_rfl))⟩
  f31 := Tryz.func120.trans (congrArg some (by kernel_rfl))
  f32 := Tryz.func121.trans (congrArg some (by kernel_rfl))
  f36 := ⟨Tryz.f138.name, by decide, Tryz.func138.trans (congrArg some (by kernel_rfl))⟩
  f37 := ⟨Tryz.f139.name, by decide, Tryz.func139.trans (congrArg some (by kernel_rfl))⟩
  f38 := ⟨Tryz.f140.name, by decide, Tryz.func140.trans (congrArg some (by kernel_rfl))⟩
  f39 := ⟨Tryz.f141.name, by decide, Tryz.func141.trans (congrArg some (by kernel_rfl))⟩
  f41 := ⟨Tryz.f144.name, by decide, Tryz.func144.trans (congrArg some (by kernel_rfl))⟩
  t0 := Tryz.underlying0
  a0 := Tryz.isAgg0
  z0 := Tryz.sizeOf0
  v0 := Tryz.zeroValue0
  t3 := Tryz.underlying3
  a3 := Tryz.isAgg3
  z3 := Tryz.sizeOf3
  v3 := Tryz.zeroValue3
  t4 := Tryz.underlying4
  a4 := Tryz.isAgg4
  z4 := Tryz.sizeOf4
  v4 := Tryz.zeroValue4
  t5 := Tryz.underlying5
  a5 := Tryz.isAgg5
  z5 := Tryz.sizeOf5
  v5 := Tryz.zeroValue5
  t9 := Tryz.underlying9
  a9 := Tryz.isAgg9
  z9 := Tryz.sizeOf9
  v9 := Tryz.zeroValue9
  t26 := Tryz.underlying72
  a26 := Tryz.isAgg72
  z26 := Tryz.sizeOf72
  v26 := Tryz.zeroValue72
  t27 := Tryz.underlying72
  a27 := Tryz.isAgg72
  z27 := Tryz.sizeOf72
  v27 := Tryz.zeroValue72
  t29 := Tryz.underlying9
  a29 := Tryz.isAgg9
  z29 := Tryz.sizeOf9
  v29 := Tryz.zeroValue9
  t32 := Tryz.underlying110
  a32 := Tryz.isAgg110
  z32 := Tryz.sizeOf110
  v32 := Tryz.zeroValue110
  t35 := Tryz.underlying141
  a35 := Tryz.isAgg141
  z35 := Tryz.sizeOf141
  v35 := Tryz.zeroValue141
  t36 := Tryz.underlying142
  a36 := Tryz.isAgg142
  z36 := Tryz.sizeOf142
  v36 := Tryz.zeroValue142
  t41 := Tryz.underlying114
  a41 := Tryz.isAgg114
  z41 := Tryz.sizeOf114
  v41 := Tryz.zeroValue114
  t44 := Tryz.underlying149
  a44 := Tryz.isAgg149
  z44 := Tryz.sizeOf149
  v44 := Tryz.zeroValue149
  t46 := Tryz.underlying33
  a46 := Tryz.isAgg33
  z46 := Tryz.sizeOf33
  v46 := Tryz.zeroValue33
  t53 := Tryz.underlying160
  a53 := Tryz.isAgg160
  z53 := Tryz.sizeOf160
  v53 := Tryz.zeroValue160
  t57 := Tryz.underlying164
  a57 := Tryz.isAgg164
  z57 := Tryz.sizeOf164
  v57 := Tryz.zeroValue164
  t63 := Tryz.underlying175
  a63 := Tryz.isAgg175
  z63 := Tryz.sizeOf175
  v63 := Tryz.zeroValue175
  t64 := Tryz.underlying176
  a64 := Tryz.isAgg176
  z64 := Tryz.sizeOf176
  v64 := Tryz.zeroValue176 }
theorem sorts55 (m : Nat) : AnyZ.SortsIn Tryz.prog sorted55_ren Fence.wide m :=
  ⟨fun blk off cap ss W hH hblk hsz => callsIn_wide.2 (AnyM.slices_Sort_string sort81 blk off cap ss W hH hblk hsz),
   fun p cap W => callsIn_wide.2 (AnyM.slices_Sort_string_none sort81 p cap W)⟩

theorem maps_Keys_56 (mb : Option Nat) (W : World) : CallsIn Fence.wide 5 Tryz.prog 56 #[.map mb] W fun e w' => e = .returned (.func (.func 82) #[] #[.pointer (some ⟨W.heap.size, 0, none⟩)]) ∧ w' = W.alloc (.cells #[.map mb] 55) :=
  AnyZ.keys_in keys56 Fence.wide 5 trivial rfl mb W

set_option maxHeartbeats 1000000 in
theorem slices_Sorted_keys_55_56 {H : Type} (b nn : Nat) (D0 : DataW H) (R : Value → Option (DataW H × List MemPlace)) (w : World) (hown : w.ownsMap Tryz.prog 9 R b nn D0) (hmax : Maps.size D0 ≤ maxLen) (hbytes : Maps.size D0 * 16 ≤ 140737488355328) :
    CallsIn Fence.wide 5 Tryz.prog 55 #[.func (.func 82) #[] #[.pointer (some ⟨w.heap.size, 0, none⟩)]] (w.alloc (.cells #[.map (some b)] 55)) fun e w' => ∃ (v : Value) (ss : List (List UInt8)), e = .returned v ∧ ss.Perm (strKeys D0) ∧
      w'.ownsRow (w.alloc (.cells #[.map (some b)] 55)).heap.size 9 1 v ss.length ((ss.mergeSort (fun x y => decide (x ≤ y))).map encStr) ∧ (v = .slice none 0 0 ↔ ss = []) ∧ Below (w.alloc (.cells #[.map (some b)] 55)).heap.size (w.alloc (.cells #[.map (some b)] 55)) w' := by
  have hbl := hown.lt
  have hseq : SeqGives Fence.wide 2 Tryz.prog 82 #[.pointer (some ⟨w.heap.size, 0, none⟩)] encStr (fun ss => ss.Perm (strKeys D0)) (Maps.size D0) (w.alloc (.cells #[.map (some b)] 55)) :=
    AnyZ.keys_gives (ρ := keys56_ren) { keys56 with } Fence.wide _ trivial rfl (by omega) w.heap.size b nn D0 _ (by simp) (by simp) (by
      obtain ⟨es, clock, hb, Ft, hs, hD⟩ := hown
      exact ⟨es, clock, (Below.heap_alloc _ _ b hbl).trans hb, Ft, hs, hD⟩)
  exact AnyZ.sorted_in sorted55 Fence.wide 5 trivial trivial trivial trivial rfl (by omega) (sorts55 _) (enters_of Tryz.func81 (by kernel_rfl) rfl) 82 #[.pointer (some ⟨w.heap.size, 0, none⟩)] trivial (enters_of Tryz.func82 (by kernel_rfl) rfl) _ _ hmax hbytes _ hseq

set_option maxHeartbeats 1000000 in
theorem slices_Sorted_keys_nil_55_56 (w : World) :
    CallsIn Fence.wide 5 Tryz.prog 55 #[.func (.func 82) #[] #[.pointer (some ⟨w.heap.size, 0, none⟩)]] (w.alloc (.cells #[.map none] 55)) fun e w' => ∃ (v : Value) (ss : List (List UInt8)), e = .returned v ∧ ss = [] ∧
      w'.ownsRow (w.alloc (.cells #[.map none] 55)).heap.size 9 1 v ss.length ((ss.mergeSort (fun x y => decide (x ≤ y))).map encStr) ∧ (v = .slice none 0 0 ↔ ss = []) ∧ Below (w.alloc (.cells #[.map none] 55)).heap.size (w.alloc (.cells #[.map none] 55)) w' := by
  have hseq : SeqGives Fence.wide 2 Tryz.prog 82 #[.pointer (some ⟨w.heap.size, 0, none⟩)] encStr (fun ss : List (List UInt8) => ss = []) 0 (w.alloc (.cells #[.map none] 55)) :=
    AnyZ.keys_gives_nil (ρ := keys56_ren) { keys56 with } Fence.wide _ trivial rfl w.heap.size _ (by simp) (by simp)
  exact AnyZ.sorted_in sorted55 Fence.wide 5 trivial trivial trivial trivial rfl (by omega) (sorts55 _) (enters_of Tryz.func81 (by kernel_rfl) rfl) 82 #[.pointer (some ⟨w.heap.size, 0, none⟩)] trivial (enters_of Tryz.func82 (by kernel_rfl) rfl) _ 0 (Nat.zero_le _) (by omega) _ hseq

end Go.Proofs.YtaoneiicoaiehaaGreat.Ky
namespace Go.Proofs.YtaoneiicoaiehaaGreat.Nd
set_option maxRecDepth 100000
open Go Go.RowKit Go.Lib Go.Maps Go.WideShapes Go.Proofs.YtaoneiicoaiehaaGreat.Bu Go.Proofs.YtaoneiicoaiehaaGreat.Mp Go.Proofs.YtaoneiicoaiehaaGreat.Dh Go.Proofs.YtaoneiicoaiehaaGreat.Fm Go.Proofs.YtaoneiicoaiehaaGreat.Dk Go.Proofs.YtaoneiicoaiehaaGreat.St Go.Proofs.YtaoneiicoaiehaaGreat.Ky
def keyL (fs : Fs) : List (List UInt8) := fs.map fun e => e.1.data.toList
/-- The names of all files, rising. -/
def names (fs : Fs) : List (List UInt8) := (keyL fs).mergeSort leB
def anyR : Value → Option (DataW Unit × List MemPlace) := fun _ => some (.lit (.bool true), [])
theorem rd_ent (e : Ent) (h : e.key.size ≤ maxLen) : WideElems.rd Tryz.prog 9 anyR e.entry = some (.string e.key.data.toList, .lit (.bool true)) := by
  have hk : keyOf Tryz.prog 9 (.string e.key) = some (.string e.key.data.toList) := by
    simp [keyOf, mapKey, h]
  simp [WideElems.rd, Ent.entry, hk, anyR]
theorem rg_ent (e : Ent) (h : e.key.size ≤ maxLen) : WideElems.rg Tryz.prog 9 anyR e.entry = (.string e.key.data.toList, .lit (.bool true)) := by
  simp [WideElems.rg, rd_ent e h]
def dat (es : List Ent) : DataW Unit := .map ((es.map fun e => ((.string e.key.data.toList, .lit (.bool true)) : Lit × DataW Unit)).foldr DataW.insert [])
theorem owns {w : World} {S : Nat → Prop} {m : Nat} {es : List Ent} {c : Nat} (h : At w S m (obj es c)) (hw : Wf es c) (hk : ∀ e ∈ es, e.key.size ≤ maxLen) (hl : es.length ≤ maxLen) :
    w.ownsMap Tryz.prog 9 anyR m es.length (dat es) := by
  refine ⟨(es.map Ent.entry).toArray, c, h.2, ⟨by simpa using hl, ⟨?_, ?_, ?_⟩, ?_⟩, by simp, ?_⟩
  · intro x hx
    obtain ⟨e, he, rfl⟩ := List.mem_map.1 (by simpa using hx)
    exact hw.born e he
  · have e1 : ((es.map Ent.entry).toArray.toList.map (·.born)) = es.map Ent.born := by simp [Ent.entry]
    rw [e1]; exact hw.bornN
  · have e1 : ((es.map Ent.entry).toArray.toList.map (·.key)) = (es.map Ent.key).map Value.string := by simp [Ent.entry]
    rw [e1]
    exact List.pairwise_map.2 (hw.keys.imp fun {a b} hab hc => hab (by simpa using hc))
  · intro x hx
    obtain ⟨e, he, rfl⟩ := List.mem_map.1 (by simpa using hx)
    exact ⟨_, rd_ent e (hk e he)⟩
  · unfold dat
    congr 2
    rw [List.toList_toArray, List.map_map]
    refine List.map_congr_left fun e he => ?_
    rw [Function.comp_apply, rg_ent e (hk e he)]
theorem keys_dat (es : List Ent) : (strKeys (dat es)).Perm (keyL (view es)) := by
  unfold dat strKeys keyL view
  refine ((Go.WideShapes.sorted_perm _).map _).trans ?_
  rw [List.map_map, List.map_map]
  exact .of_eq (List.map_congr_left fun e _ => rfl)
theorem size_dat (es : List Ent) : Maps.size (dat es) = es.length := by
  unfold dat
  rw [Maps.size_eq, (Go.WideShapes.sorted_perm _).length_eq, List.length_map]
set_option maxHeartbeats 1000000 in
theorem names_any {S : Nat → Prop} {w : World} {p : Nat} {D : St} (h : Full w S p D) (hk : ∀ e ∈ D.now, e.1.size ≤ maxLen) (hl : D.now.length ≤ 1048576) :
    Calls Tryz.prog 29 #[.pointer (some ⟨p, 0, none⟩)] w fun e w' => ∃ v, e = .returned v ∧ w'.ownsRow w.heap.size 9 1 v (names D.now).length ((names D.now).map encStr) ∧ Below w.heap.size w w' := by
  obtain ⟨d, g1, g2, g3, g4, g5, g6, g7, g8⟩ := h
  have hlen : d.es1.length = D.now.length := by rw [← g4]; simp [view]
  have hown := owns g1.now g1.wf1 (fun e he => by
    have : (e.key, e.text) ∈ D.now := by rw [← g4]; exact List.mem_map.2 ⟨e, he, rfl⟩
    exact hk _ this) (by unfold maxLen; omega)
  have hK := maps_Keys_56 (some d.m1) w
  have hS := slices_Sorted_keys_55_56 d.m1 d.es1.length (dat d.es1) anyR w hown (by rw [size_dat]; unfold maxLen; omega) (by rw [size_dat]; omega)
  have HK := Lib.hid (callsIn_wide.1 hK)
  have HS := Lib.hid (callsIn_wide.1 hS)
  have HP : Hid (∀ ss : List (List UInt8), ss.Perm (strKeys (dat d.es1)) → ss.mergeSort leB = names D.now ∧ ss.length = (names D.now).length) := Lib.hid fun ss hp => by
    have hp2 : ss.Perm (keyL D.now) := by rw [← g4]; exact hp.trans (keys_dat _)
    exact ⟨mergeSort_of_perm hp2, by unfold names; rw [List.length_mergeSort]; exact hp2.length_eq⟩
  have c1 : w.cell? ⟨p, 1, none⟩ = some (.map (some d.m1)) := DskAt.c g1 1
  clear hK hS hown g1 g2 g3 g4 g5 g6 g7 g8 hlen
  go_enter Tryz.func29, Tryz.ntmps29
  go_wp2_with (first
    | (go_at_call 56; refine HK.out.mono ?_; rintro e w' ⟨rfl, rfl⟩)
    | (go_at_call 55; refine HS.out.mono ?_; rintro e w' ⟨v, ss, rfl, hp, hrow, hnil, hb⟩; have HR := Lib.hid (And.intro hp (And.intro hrow hb)); clear hp hrow hb hnil))
  go_ret
  obtain ⟨hp, hrow, hb⟩ := (by assumption : Hid (_ ∧ _ ∧ _)).out
  obtain ⟨e1, e2⟩ := HP.out _ hp
  refine ⟨_, rfl, ?_, ?_⟩
  · rw [← e2, ← e1]
    obtain ⟨r1, r2⟩ := hrow
    refine ⟨r1, ?_⟩
    rcases r2 with r2 | ⟨g, cap, cur, q1, q2, q3⟩
    · exact .inl r2
    · exact .inr ⟨g, cap, cur, q1, by simp at q2; omega, q3⟩
  · refine ⟨hb.os, hb.tape, hb.output, by have := hb.size; simp at this; omega, fun b hlt => ?_⟩
    rw [hb.block b (by simp; omega)]
    exact heap_alloc w _ b hlt
end Go.Proofs.YtaoneiicoaiehaaGreat.Nd
namespace Go.Proofs.YtaoneiicoaiehaaGreat.Sm
set_option maxRecDepth 100000
open Go Go.RowKit Go.Lib
/-- The cells of a row of files. -/
def cellsF : List (ByteArray × ByteArray) → List Value
  | [] => []
  | f :: l => .string f.1 :: .string f.2 :: cellsF l
theorem cellsF_len : ∀ l, (cellsF l).length = l.length * 2
  | [] => rfl
  | f :: l => by simp [cellsF, cellsF_len l]; omega
theorem cellsF_snoc (f : ByteArray × ByteArray) : ∀ l, cellsF (l ++ [f]) = cellsF l ++ [.string f.1, .string f.2]
  | [] => rfl
  | g :: l => by simp [cellsF, cellsF_snoc f l]
theorem cellsF_at : ∀ (l : List (ByteArray × ByteArray)) (k : Nat) (h : k < l.length), (cellsF l)[k * 2]? = some (.string l[k].1) ∧ (cellsF l)[k * 2 + 1]? = some (.string l[k].2)
  | [], k, h => by simp at h
  | f :: l, 0, _ => ⟨rfl, rfl⟩
  | f :: l, k + 1, h => by
    have := cellsF_at l k (by simpa using h)
    have e : (k + 1) * 2 = k * 2 + 1 + 1 := by omega
    rw [e]
    simpa [cellsF] using this
theorem own_shape {w : World} {B e s : Nat} {v : Value} {n : Nat} {xs : List Value} (h : w.ownsRow B e s v n xs) :
    ∃ ao cap, v = .slice ao n cap ∧ (0 < n → ∃ g, ao = some ⟨g, 0, none⟩ ∧ v.ownBlock = some g) := by
  rcases h.2 with ⟨rfl, rfl⟩ | ⟨g, cap, cur, rfl, _, _, _, _, _, _⟩
  · exact ⟨none, 0, rfl, fun h => absurd h (by omega)⟩
  · exact ⟨some ⟨g, 0, none⟩, cap, rfl, fun _ => ⟨g, rfl, rfl⟩⟩
theorem own_cell {w : World} {B e s : Nat} {v : Value} {n : Nat} {xs : List Value} (h : w.ownsRow B e s v n xs) {g : Nat} (hg : v.ownBlock = some g) (j : Nat) (u : Value) (hj : xs[j]? = some u) : w.cell? ⟨g, j, none⟩ = some u := by
  have := h.cells hg j u hj
  rwa [show (⟨g, 0, none⟩ : Addr).add j = ⟨g, j, none⟩ by unfold Addr.add; split <;> simp_all] at this
set_option maxRecDepth 20000 in
set_option maxHeartbeats 2000000 in
theorem same_rows (w : World) {B1 B2 : Nat} {v1 v2 : Value} (l : List (ByteArray × ByteArray)) (h1 : w.ownsRow B1 71 2 v1 l.length (cellsF l)) (h2 : w.ownsRow B2 71 2 v2 l.length (cellsF l)) (hl : l.length ≤ 1048576) :
    Calls Tryz.prog 14 #[v1, v2] w fun e w' => e = .returned (.bool true) ∧ ∃ n, w' = w.drewN n := by
  obtain ⟨a1, c1, e1, s1⟩ := own_shape h1
  obtain ⟨a2, c2, e2, s2⟩ := own_shape h2
  have HC : Hid (∀ k (hk : k < l.length), ∃ g1 g2, a1 = some ⟨g1, 0, none⟩ ∧ a2 = some ⟨g2, 0, none⟩ ∧ w.cell? ⟨g1, k * 2, none⟩ = some (.string l[k].1) ∧ w.cell? ⟨g1, k * 2 + 1, none⟩ = some (.string l[k].2) ∧ w.cell? ⟨g2, k * 2, none⟩ = some (.string l[k].1) ∧ w.cell? ⟨g2, k * 2 + 1, none⟩ = some (.string l[k].2)) := Lib.hid fun k hk => by
    obtain ⟨g1, q1, o1⟩ := s1 (by omega)
    obtain ⟨g2, q2, o2⟩ := s2 (by omega)
    obtain ⟨x1, x2⟩ := cellsF_at l k hk
    exact ⟨g1, g2, q1, q2, own_cell h1 o1 _ _ x1, own_cell h1 o1 _ _ x2, own_cell h2 o2 _ _ x1, own_cell h2 o2 _ _ x2⟩
  subst e1 e2
  clear h1 h2 s1 s2
  go_enter Tryz.func14, Tryz.ntmps14
  go_wp2
  go_loopw [5, 11, 12, 13, 14, 15, 16, 17, 18, 19, 20, 21, 22, 23, 24, 25] (fun i _ _ _ _ _ _ _ _ _ _ _ _ _ _ _ wr => ∃ k : Nat, k ≤ l.length ∧ i = .int .i64 k ∧ ∃ n, wr = w.drewN n) (fun i _ _ _ _ _ _ _ _ _ _ _ _ _ _ _ _ => l.length - (intOf i).toNat)
  case atStart => exact ⟨0, by omega, rfl, 0, rfl⟩
  case round =>
    obtain ⟨k, hk, rfl, n, rfl⟩ := hrel
    by_cases hlt : k < l.length
    · obtain ⟨g1, g2, rfl, rfl, d1, d2, d3, d4⟩ := HC.out k hlt
      obtain ⟨x, hx⟩ : ∃ x, x = l[k].1 := ⟨_, rfl⟩
      obtain ⟨y, hy⟩ : ∃ y, y = l[k].2 := ⟨_, rfl⟩
      rw [← hx] at d1 d3
      rw [← hy] at d2 d4
      clear hx hy
      go_wp2
      go_quiet (fail)
      go_wp2
      exact ⟨⟨k + 1, by omega, by go_num, _, rfl⟩, by simp [intOf]; omega⟩
    · have : k = l.length := by omega
      subst this
      go_wp2
      go_ret
      exact ⟨rfl, n, rfl⟩
end Go.Proofs.YtaoneiicoaiehaaGreat.Sm
namespace Go.Proofs.YtaoneiicoaiehaaGreat.Fi
set_option maxRecDepth 100000
open Go Go.RowKit Go.Lib Go.Maps Go.Proofs.YtaoneiicoaiehaaGreat.Mp Go.Proofs.YtaoneiicoaiehaaGreat.Dh Go.Proofs.YtaoneiicoaiehaaGreat.Fm Go.Proofs.YtaoneiicoaiehaaGreat.Dk Go.Proofs.YtaoneiicoaiehaaGreat.Cl Go.Proofs.YtaoneiicoaiehaaGreat.Nm Go.Proofs.YtaoneiicoaiehaaGreat.St Go.Proofs.YtaoneiicoaiehaaGreat.Ap Go.Proofs.YtaoneiicoaiehaaGreat.Nd Go.Proofs.YtaoneiicoaiehaaGreat.Sm
def key (n : List UInt8) : ByteArray := ⟨n.toArray⟩
/-- What a disk has. -/
def files (fs : Fs) : List (ByteArray × ByteArray) := (names fs).map fun n => (key n, ⟨(txt fs (key n)).toArray⟩)
theorem files_len (fs : Fs) : (files fs).length = (names fs).length := by simp [files]
theorem names_len (fs : Fs) : (names fs).length = fs.length := by simp [names, keyL]
theorem get_mem (k : ByteArray) : ∀ fs : Fs, (∃ e ∈ fs, e.1 = k) → ∃ t, Fm.get fs k = some t
  | [], h => by obtain ⟨e, he, _⟩ := h; simp at he
  | x :: fs, h => by
    unfold Fm.get
    by_cases hx : x.1 = k
    · rw [if_pos hx]; exact ⟨_, rfl⟩
    · rw [if_neg hx]
      obtain ⟨e, he, hk⟩ := h
      rcases List.mem_cons.1 he with rfl | he
      · exact absurd hk hx
      · exact get_mem k fs ⟨e, he, hk⟩
theorem name_mem {fs : Fs} {n : List UInt8} (h : n ∈ names fs) : ∃ e ∈ fs, e.1 = key n := by
  unfold names at h
  have h1 : n ∈ keyL fs := (List.mergeSort_perm _ _).mem_iff.1 h
  obtain ⟨e, he, rfl⟩ := List.mem_map.1 h1
  exact ⟨e, he, rfl⟩
theorem read_name {D : St} (hs : D.still = false) (hn : ∀ e ∈ D.now, nameOk e.1 = true) (hg : Go.Proofs.YtaoneiicoaiehaaGreat.St.Good D) {n : List UInt8} (h : n ∈ names D.now) :
    stRead D (key n) 0 16777216 = (txt D.now (key n), 0) := by
  obtain ⟨e, he, hk⟩ := name_mem h
  obtain ⟨t, ht⟩ := get_mem (key n) D.now ⟨e, he, hk⟩
  have hok := hn e he
  rw [hk] at hok
  have hlen := Nat.le_trans (txt_le (key n) D.now) hg.now
  have htx : txt D.now (key n) = t := by unfold txt; rw [ht]; rfl
  rw [htx] at hlen ⊢
  unfold stRead
  rw [if_neg (by rw [hs]; decide), if_neg (by rw [hok]; decide), if_neg (by decide), ht]
  show (((t.drop (0 : Int).toNat).take (16777216 : Int).toNat), (0 : Int)) = _
  rw [show (0 : Int).toNat = 0 from rfl, List.drop_zero, show (16777216 : Int).toNat = 16777216 from rfl, List.take_of_length_le hlen]
theorem name_ok (s : ByteArray) (h : nameOk s = true) : s.size ≤ 64 := by
  unfold nameOk at h
  simp only [Bool.and_eq_true, decide_eq_true_eq] at h
  exact h.1.2
theorem info69 : (Tryz.prog.info? 71).map (fun i => (i.zero, i.size, i.bytes)) = some (some (.agg #[.string ⟨#[]⟩, .string ⟨#[]⟩]), 2, 32) := by kernel_rfl
theorem own_keep {w w' : World} {B e s : Nat} {v : Value} {n : Nat} {xs : List Value} (h : w.ownsRow B e s v n xs) (hb : ∀ g, v.ownBlock = some g → w'.heap[g]? = w.heap[g]?) : w'.ownsRow B e s v n xs := by
  refine ⟨h.1, ?_⟩
  rcases h.2 with h | ⟨g, cap, cur, rfl, h1, h2, h3⟩
  · exact .inl h
  · exact .inr ⟨g, cap, cur, rfl, h1, (hb g rfl).trans h2, h3⟩
theorem own_base {w : World} {B B' e s : Nat} {v : Value} {n : Nat} {xs : List Value} (h : w.ownsRow B e s v n xs) (hB : B' ≤ B) : w.ownsRow B' e s v n xs := by
  refine ⟨h.1, ?_⟩
  rcases h.2 with h | ⟨g, cap, cur, rfl, h1, h3⟩
  · exact .inl h
  · exact .inr ⟨g, cap, cur, rfl, by omega, h3⟩
/-- The world in the midst of the loop: the files so far, what was there, the names' row. -/
structure In (w w1 wr : World) (v : Value) (l : List (ByteArray × ByteArray)) : Prop where
  row : wr.ownsRow w1.heap.size 71 2 v l.length (cellsF l)
  below : Below w1.heap.size w1 wr
theorem In.start (w w1 : World) : In w w1 w1 (.slice none 0 0) [] := ⟨World.ownsRow_nil _ _ _ _, Below.refl _ _⟩
theorem news2 (w : World) (x y : ByteArray) : ∀ j u, [Value.string x, Value.string y][j]? = some u → (w.alloc (.cells #[.string x, .string y] 71)).cell? ((⟨w.heap.size, 0, none⟩ : Addr).add j) = some u := by
  intro j u hj
  have hh : (w.alloc (.cells #[.string x, .string y] 71)).heap[w.heap.size]? = some (.cells #[.string x, .string y] 71) := heap_alloc_new w _
  match j, hj with
  | 0, hj =>
    simp at hj; subst hj
    rw [show (⟨w.heap.size, 0, none⟩ : Addr).add 0 = ⟨w.heap.size, 0, none⟩ by simp [Addr.add]]
    unfold World.cell?
    rw [hh]; rfl
  | 1, hj =>
    simp at hj; subst hj
    rw [show (⟨w.heap.size, 0, none⟩ : Addr).add 1 = ⟨w.heap.size, 1, none⟩ by simp [Addr.add]]
    unfold World.cell?
    rw [hh]; rfl
set_option maxRecDepth 20000 in
set_option maxHeartbeats 2000000 in
theorem files_any {S : Nat → Prop} {w : World} {p : Nat} {D : St} (h : Full w S p D) (hst : D.still = false) (hn : ∀ e ∈ D.now, nameOk e.1 = true) (hl : D.now.length ≤ 900) :
    Calls Tryz.prog 13 #[.pointer (some ⟨p, 0, none⟩)] w fun e w' => ∃ v, e = .returned (.tuple #[v, .bool true]) ∧ w'.ownsRow w.heap.size 71 2 v (files D.now).length (cellsF (files D.now)) ∧ Below w.heap.size w w' := by
  have hnames := names_any h (fun e he => by have := name_ok _ (hn e he); unfold maxLen; omega) (by omega)
  have HN := Lib.hid hnames
  have hgood : Go.Proofs.YtaoneiicoaiehaaGreat.St.Good D := by obtain ⟨d, _, _, _, _, _, _, _, g8⟩ := h; exact g8
  have HR : Hid (∀ (wr : World) (n : List UInt8), Below w.heap.size w wr → n ∈ names D.now → Calls Tryz.prog 30 #[.pointer (some ⟨p, 0, none⟩), .string (key n), .int .i64 0, .int .i64 16777216] wr fun e w' =>
      e = .returned (.tuple #[.string ⟨(txt D.now (key n)).toArray⟩, .int .i64 0]) ∧ w' = wr.alloc (cap1 (.string (key n)))) := Lib.hid fun wr n hb hm => by
    have hf : Full wr S p D := Full.frame h fun b hb1 hb2 => hb.block b hb2
    obtain ⟨e, he, hk⟩ := name_mem hm
    have hok := name_ok _ (hn e he)
    rw [hk] at hok
    have := Rp.read_at hf (key n) 0 16777216 (by unfold maxLen; omega) (by decide) (by decide)
    rw [read_name hst hn hgood hm] at this
    exact this
  obtain ⟨L, hL⟩ : ∃ L, L = names D.now := ⟨_, rfl⟩
  have hLl : L.length ≤ 900 := by rw [hL, names_len]; exact hl
  obtain ⟨F, hF⟩ : ∃ F, F = files D.now := ⟨_, rfl⟩
  have hFl : F.length = L.length := by rw [hF, hL, files_len]
  have HF : Hid (∀ k (hk : k < L.length) (hk2 : k < F.length), F[k] = (key L[k], ⟨(txt D.now (key L[k])).toArray⟩)) := Lib.hid fun k hk hk2 => by
    subst hF hL
    simp only [files, List.getElem_map]
  rw [← hL] at HN HR
  rw [← hF]
  clear hF hL hnames hgood h hst hn hl
  go_enter Tryz.func13, Tryz.ntmps13
  go_wp2_with fail
  refine HN.out.mono ?_
  rintro e w1 ⟨v, rfl, hrow, hb1⟩
  obtain ⟨ao, cp, rfl, hsh⟩ := own_shape hrow
  have HRow := Lib.hid hrow
  have HSh := Lib.hid hsh
  have HB1 := Lib.hid hb1
  clear hrow hsh hb1
  obtain ⟨i0, hi, hz0, hz1, hz2⟩ := info_parts info69
  go_wp2
  go_loopw [4, 6, 7, 8, 11, 12, 13, 14, 15, 16, 17, 18, 19, 20, 21, 22, 23, 24, 25, 26, 27, 28, 29, 30, 31, 32, 33, 34, 35, 36, 37, 38, 39, 40] (fun v i _ _ _ _ _ _ _ _ _ _ _ _ _ _ _ _ _ _ _ _ _ _ _ _ _ _ _ _ _ _ _ _ wr => ∃ k : Nat, k ≤ L.length ∧ i = .int .i64 k ∧ Hid (In w w1 wr v (F.take k))) (fun _ i _ _ _ _ _ _ _ _ _ _ _ _ _ _ _ _ _ _ _ _ _ _ _ _ _ _ _ _ _ _ _ _ _ => L.length - (intOf i).toNat)
  case atStart => exact ⟨0, by omega, rfl, Lib.hid (In.start w w1)⟩
  case round =>
    obtain ⟨k, hk, rfl, HIn⟩ := hrel
    by_cases hlt : k < L.length
    · have h1000 : k < 1000 := by omega
      obtain ⟨g, rfl, hg⟩ := HSh.out (by omega)
      obtain ⟨nm, hnm⟩ : ∃ nm, nm = L[k] := ⟨_, rfl⟩
      have hcell : wr.cell? ⟨g, k, none⟩ = some (.string (key nm)) := by
        have hlt1 := HRow.out.lt g hg
        rw [World.cell?_of_block (w := w1) (HIn.out.below.block g hlt1.2)]
        refine own_cell HRow.out hg k _ ?_
        rw [List.getElem?_map, List.getElem?_eq_getElem hlt, hnm]
        rfl
      have hbw : Below w.heap.size w wr := HB1.out.trans (HIn.out.below.mono HB1.out.size)
      have HRd := Lib.hid (HR.out wr nm hbw (by rw [hnm]; exact List.getElem_mem hlt))
      obtain ⟨y, hy⟩ : ∃ y : ByteArray, y = ⟨(txt D.now (key nm)).toArray⟩ := ⟨_, rfl⟩
      rw [← hy] at HRd
      obtain ⟨x, hx⟩ : ∃ x : ByteArray, x = key nm := ⟨_, rfl⟩
      rw [← hx] at HRd hcell
      have hcell2 : (wr.alloc (cap1 (.string x))).cell? ⟨g, k, none⟩ = some (.string x) := by
        rw [World.cell?_of_block (w := wr) (heap_alloc wr _ g (World.block_lt_of_cell? (w := wr) (a := ⟨g, k, none⟩) hcell))]; exact hcell
      have HFk : Hid (F[k]'(by omega) = (x, y)) := Lib.hid (by rw [HF.out k hlt (by omega), hx, hy, hnm])
      have HTk : Hid (F.take (k + 1) = F.take k ++ [(x, y)]) := Lib.hid (by rw [List.take_succ_eq_append_getElem (by omega), HFk.out])
      have hlenk : (F.take k).length = k := by rw [List.length_take]; omega
      have HLk := Lib.hid hlenk
      have hrk := HIn.out.row
      rw [hlenk] at hrk
      have HRk := Lib.hid hrk
      have HSz : Hid (w1.heap.size ≤ wr.heap.size) := Lib.hid HIn.out.below.size
      have hnw := news2 (wr.alloc (cap1 (.string x))) x y
      rw [show (wr.alloc (cap1 (.string x))).heap.size = wr.heap.size + 1 from Array.size_push ..] at hnw
      have HNW := Lib.hid hnw
      have HO2 := Lib.hid ((hrk.alloc (cap1 (.string x))).alloc (.cells #[.string x, .string y] 71))
      have h1c : ∀ u ∈ [Value.string x, Value.string y], u.oneCell' = true := by intro u hu; simp at hu; rcases hu with rfl | rfl <;> rfl
      have H1C := Lib.hid h1c
      have hb63 : Hid (k + 1 ≤ maxLen) := Lib.hid (by unfold maxLen; omega)
      have hbyt : Hid ((k + 1) * 32 ≤ 140737488355328) := Lib.hid (by omega)
      have hbas : Hid (w1.heap.size ≤ ((wr.alloc (cap1 (.string x))).alloc (.cells #[.string x, .string y] 71)).heap.size) := Lib.hid (by simp; have := HSz.out; omega)
      clear hy hx hnm hbw hlenk hrk hnw h1c
      go_wp2_with (first
        | (go_at_call 30; refine HRd.out.mono ?_; rintro e w' ⟨rfl, rfl⟩)
        | (at_builtin; refine wpList_append_own_at _ rfl _ _ 40 rfl w1.heap.size 71 i0 _ 2 32 Tryz.underlying40 hi hz0 hz1 hz2 rfl (by decide) _ _ _ rfl HO2.out ⟨wr.heap.size + 1, 0, none⟩ 1 1 [.string x, .string y] rfl rfl HNW.out H1C.out hb63.out hbyt.out hbas.out ?_; intro v2 w2 r1 r2 r3 r4; have HV := Lib.hid (And.intro r1 (And.intro r2 r4)); clear r1 r2 r3 r4))
      refine ⟨⟨k + 1, by omega, by go_num, ?_⟩, by simp [intOf]; omega⟩
      obtain ⟨r1, r2, _⟩ := (by assumption : Hid (_ ∧ _ ∧ _)).out
      refine Lib.hid ⟨?_, ?_⟩
      · rw [HTk.out, cellsF_snoc, List.length_append, HLk.out]
        exact r1
      · refine Below.grown ((HIn.out.below.alloc HSz.out _).alloc (by simp; have := HSz.out; omega) _) r2 (by simp; have := HSz.out; omega) fun g' hg' => ?_
        exact (HRk.out.lt g' hg').1
    · have : k = L.length := by omega
      subst this
      have hT : F.take L.length = F := by rw [← hFl, List.take_length]
      have HIn2 := HIn
      rw [hT] at HIn2
      clear hlt
      go_wp2
      go_ret2
      exact ⟨_, rfl, own_base HIn2.out.row HB1.out.size, HB1.out.trans (HIn2.out.below.mono HB1.out.size)⟩
end Go.Proofs.YtaoneiicoaiehaaGreat.Fi
