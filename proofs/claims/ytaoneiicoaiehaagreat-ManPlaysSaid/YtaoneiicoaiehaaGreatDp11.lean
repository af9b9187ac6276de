/- What the law's Files tell is the document's row. -/
import Derived.Test.YtaoneiicoaiehaaGreatDb3
import Derived.Test.YtaoneiicoaiehaaGreatDa11
namespace Go.Proofs.YtaoneiicoaiehaaGreat.Dp11
open Go Go.RowKit Go.Lib Go.Maps Go.Proofs.YtaoneiicoaiehaaGreat Go.Proofs.YtaoneiicoaiehaaGreat.Fm Go.Proofs.YtaoneiicoaiehaaGreat.Nd Go.Proofs.YtaoneiicoaiehaaGreat.Fi Go.Proofs.YtaoneiicoaiehaaGreat.Ol11 Go.Proofs.YtaoneiicoaiehaaGreat.Fr11 Go.Proofs.YtaoneiicoaiehaaGreat.Fq11 Go.Proofs.YtaoneiicoaiehaaGreat.Kp11
theorem less_iff : ∀ l m : List UInt8, Op.bytesLess l m = true ↔ l < m
  | [], [] => by simp [Op.bytesLess]
  | [], b :: y => by simp [Op.bytesLess]
  | a :: x, [] => by simp [Op.bytesLess]
  | a :: x, b :: y => by
    have ih := less_iff x y
    simp only [Op.bytesLess, Bool.or_eq_true, decide_eq_true_eq, Bool.and_eq_true, beq_iff_eq, List.cons_lt_cons_iff]
    rw [ih]
theorem key_list (x : ByteArray) : key x.data.toList = x := by
  unfold key
  cases x; simp
theorem list_key (n : List UInt8) : (key n).data.toList = n := by simp [key]
theorem key_iff {n : List UInt8} {x : ByteArray} : key n = x ↔ n = x.data.toList := ⟨fun h => by rw [← h, list_key], fun h => by rw [h, key_list]⟩
theorem look_map (F : ByteArray → ByteArray) (x : ByteArray) : ∀ ns : List (List UInt8), Fr11.look x (ns.map fun n => (key n, F (key n))) = if x.data.toList ∈ ns then some (F x) else none
  | [] => by simp [Fr11.look]
  | n :: ns => by
    have ih := look_map F x ns
    rw [List.map_cons, Fr11.look, ih]
    by_cases h : key n = x
    · rw [if_pos h, if_pos (by rw [key_iff.1 h]; exact List.mem_cons_self ..), h]
    · rw [if_neg h]
      have hn : ¬ x.data.toList = n := fun e => h (key_iff.2 e.symm)
      by_cases hm : x.data.toList ∈ ns
      · rw [if_pos hm, if_pos (List.mem_cons_of_mem _ hm)]
      · rw [if_neg hm, if_neg (fun e => (List.mem_cons.1 e).elim hn hm)]
theorem names_mem (fs : Fs) (x : ByteArray) : x.data.toList ∈ names fs ↔ x ∈ fs.map (·.1) := by
  unfold names
  rw [List.mem_mergeSort]
  unfold keyL
  constructor
  · intro h
    obtain ⟨e, he, hx⟩ := List.mem_map.1 h
    refine List.mem_map.2 ⟨e, he, ?_⟩
    have := congrArg key hx
    rwa [key_list, key_list] at this
  · intro h
    obtain ⟨e, he, hx⟩ := List.mem_map.1 h
    exact List.mem_map.2 ⟨e, he, by rw [← hx]⟩
theorem names_nodup {fs : Fs} (h : Uq fs) : (names fs).Nodup := by
  have hp : (names fs).Perm (keyL fs) := List.mergeSort_perm _ _
  refine hp.nodup_iff.2 ?_
  unfold keyL Uq at *
  rw [List.Nodup, List.pairwise_map] at *
  exact h.imp fun {a b} hab e => hab (by have := congrArg key e; rwa [key_list, key_list] at this)
theorem names_sorted {fs : Fs} (h : Uq fs) : (names fs).Pairwise fun a b => Op.bytesLess a b = true := by
  have hp : (names fs).Pairwise fun a b => decide (a ≤ b) = true := by
    unfold names
    refine List.pairwise_mergeSort ?_ ?_ _
    · intro a b c h1 h2
      exact decide_eq_true (List.le_trans (of_decide_eq_true h1) (of_decide_eq_true h2))
    · intro a b
      simp only [Bool.or_eq_true, decide_eq_true_eq]
      exact List.le_total a b
  have hn := names_nodup h
  refine (hp.and hn).imp fun {a b} ⟨h1, h2⟩ => ?_
  rw [less_iff]
  have h3 := of_decide_eq_true h1
  exact Classical.byContradiction fun h => h2 (List.le_antisymm h3 (List.not_lt.1 h))
theorem files_srt {fs : Fs} (h : Uq fs) : Srt (files fs) := by
  unfold Srt files
  rw [List.pairwise_map]
  refine (names_sorted h).imp fun {a b} hab => ?_
  show Op.bytesLess (key a).toList (key b).toList = true
  rw [ByteArray.toList_eq, ByteArray.toList_eq, list_key, list_key]
  exact hab
theorem files_look (fs : Fs) (x : ByteArray) : Fr11.look x (files fs) = (Fm.get fs x).map Fl7.bs := by
  have h := look_map (fun k => Fl7.bs (txt fs k)) x (names fs)
  have e : files fs = (names fs).map fun n => (key n, Fl7.bs (txt fs (key n))) := rfl
  rw [e, h]
  by_cases hm : x ∈ fs.map (·.1)
  · rw [if_pos ((names_mem fs x).2 hm)]
    obtain ⟨e, he, hx⟩ := List.mem_map.1 hm
    obtain ⟨t, ht⟩ := get_mem x fs ⟨e, he, hx⟩
    unfold txt
    rw [ht]; rfl
  · rw [if_neg (fun e => hm ((names_mem fs x).1 e)), get_in hm]; rfl
/-- The files, by rising names, are the row. -/
theorem files_eq {fs : Fs} {R : List Fl} (h : RF fs R) (hu : Uq fs) : files fs = R :=
  srt_uniq (files_srt hu) h.srt fun x => by rw [files_look, h.look]
theorem cells_eq : ∀ l : List Fl, Sm.cellsF l = Fw11.cellsF l
  | [] => rfl
  | q :: l => by
    have ih := cells_eq l
    show Value.string q.1 :: Value.string q.2 :: Sm.cellsF l = Fw11.cells2 q ++ Fw11.cellsF l
    rw [ih]; rfl
end Go.Proofs.YtaoneiicoaiehaaGreat.Dp11
