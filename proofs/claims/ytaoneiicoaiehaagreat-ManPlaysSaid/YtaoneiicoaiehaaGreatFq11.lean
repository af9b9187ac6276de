/- The document's rows of files beside the program's files: what each call that changes makes of both. -/
import Derived.Test.YtaoneiicoaiehaaGreatFr11
import Derived.Test.YtaoneiicoaiehaaGreatKp11
import Derived.Test.YtaoneiicoaiehaaGreatRf7
namespace Go.Proofs.YtaoneiicoaiehaaGreat.Fq11
open Go Go.RowKit Go.Proofs.YtaoneiicoaiehaaGreat Go.Proofs.YtaoneiicoaiehaaGreat.Ol11 Go.Proofs.YtaoneiicoaiehaaGreat.Fr11 Go.Proofs.YtaoneiicoaiehaaGreat.Fl7 Go.Proofs.YtaoneiicoaiehaaGreat.Fm Go.Proofs.YtaoneiicoaiehaaGreat.Kp11
def sumF : List Fl → Nat
  | [] => 0
  | q :: l => q.2.size + sumF l
def lenO : Option ByteArray → Nat
  | none => 0
  | some t => t.size
theorem sum_none (k : ByteArray) : ∀ l : List Fl, (∀ q ∈ l, q.1 ≠ k) → wo k l = l
  | [], _ => rfl
  | q :: l, h => by
    unfold wo
    rw [if_neg (h q (List.mem_cons_self ..)), sum_none k l fun p hp => h p (List.mem_cons_of_mem _ hp)]
theorem sum_wo (k : ByteArray) : ∀ {l : List Fl}, Srt l → sumF (wo k l) + lenO (Fr11.look k l) = sumF l
  | [], _ => rfl
  | q :: l, h => by
    obtain ⟨h1, h2⟩ := List.pairwise_cons.1 h
    have ih := sum_wo k h2
    unfold wo Fr11.look
    by_cases e : q.1 = k
    · rw [if_pos e, if_pos e, sum_none k l fun p hp e2 => by have := h1 p hp; rw [e, e2, lt_irrefl] at this; cases this]
      show sumF l + q.2.size = q.2.size + sumF l
      omega
    · rw [if_neg e, if_neg e]
      show q.2.size + sumF (wo k l) + _ = q.2.size + sumF l
      omega
theorem sum_wi (f : Fl) : ∀ {l : List Fl}, Srt l → sumF (wi f false l) + lenO (Fr11.look f.1 l) = sumF l + f.2.size
  | [], _ => by show f.2.size + 0 + 0 = 0 + f.2.size; omega
  | q :: l, h => by
    obtain ⟨h1, h2⟩ := List.pairwise_cons.1 h
    unfold wi
    cases hl : lt q.1 f.1 with
    | true =>
      have ih := sum_wi f h2
      rw [if_neg (by simp), if_neg (lt_ne hl), Fr11.look, if_neg (lt_ne hl)]
      show q.2.size + sumF (wi f false l) + _ = q.2.size + sumF l + _
      omega
    | false =>
      have hw := sum_wo f.1 h
      rw [if_pos ⟨rfl, rfl⟩]
      show sumF (f :: ((if q.1 = f.1 then [] else [q]) ++ wi f true l)) + _ = _
      rw [wi_true]
      have e : (if q.1 = f.1 then [] else [q]) ++ wo f.1 l = wo f.1 (q :: l) := by
        rw [wo]
        by_cases e : q.1 = f.1
        · rw [if_pos e, if_pos e]; rfl
        · rw [if_neg e, if_neg e]; rfl
      rw [e]
      show f.2.size + sumF (wo f.1 (q :: l)) + _ = _
      omega
/-- The row tells what the files are. -/
structure RF (fs : Fs) (R : List Fl) : Prop where
  srt : Srt R
  look : ∀ k, Fr11.look k R = (Fm.get fs k).map bs
  sum : sumF R = Fm.used fs
theorem RF.nil : RF [] [] := ⟨List.Pairwise.nil, fun _ => rfl, rfl⟩
def textR (R : List Fl) (k : ByteArray) : ByteArray := (Fr11.look k R).getD ⟨#[]⟩
theorem RF.text {fs : Fs} {R : List Fl} (h : RF fs R) (k : ByteArray) : textR R k = bs (txt fs k) := by
  unfold textR txt
  rw [h.look]
  cases Fm.get fs k <;> rfl
theorem RF.len {fs : Fs} {R : List Fl} (h : RF fs R) (k : ByteArray) : lenO (Fr11.look k R) = (txt fs k).length := by
  unfold txt
  rw [h.look]
  cases Fm.get fs k <;> rfl
theorem RF.put {fs : Fs} {R : List Fl} (h : RF fs R) (k : ByteArray) (t : List UInt8) : RF (Fm.put fs k t) (wi (k, bs t) false R) := by
  refine ⟨srt_wi _ h.srt, fun x => ?_, ?_⟩
  · rw [look_wi]
    by_cases e : x = k
    · rw [if_pos e, e, Fm.get_put_eq]; rfl
    · rw [if_neg e, Fm.get_put_ne _ _ _ e]; exact h.look x
  · have h1 := sum_wi (k, bs t) h.srt
    have h2 := Fm.used_put k t fs
    have h3 := h.len k
    have h4 : (bs t).size = t.length := bs_size t
    have h5 := h.sum
    dsimp only at h1
    omega
theorem RF.del {fs : Fs} {R : List Fl} (h : RF fs R) (hu : Uq fs) (k : ByteArray) : RF (Fm.del fs k) (wo k R) := by
  refine ⟨srt_wo _ h.srt, fun x => ?_, ?_⟩
  · rw [look_wo]
    by_cases e : x = k
    · rw [if_pos e, e, get_del_eq k hu]; rfl
    · rw [if_neg e, get_del_ne (fun x => e x.symm)]; exact h.look x
  · have h1 := sum_wo k h.srt
    have h2 := Fm.used_del k fs
    have h3 := h.len k
    have h5 := h.sum
    omega
/-- What the document's 'done' makes of a row. -/
def doneR (R : List Fl) : Cmd → List Fl
  | .app k s => wi (k, textR R k ++ s) false R
  | .cut k n => wi (k, bs ((textR R k).data.toList.take n)) false R
  | .mov j k => wi (k, textR R j) false (wo j R)
  | .rem k => wo k R
theorem RF.run {fs : Fs} {R : List Fl} (h : RF fs R) (hu : Uq fs) (c : Cmd) (hm : ∀ j k, c = .mov j k → j ≠ k) : RF (c.run fs) (doneR R c) := by
  cases c with
  | app k s =>
    show RF (Fm.put fs k (txt fs k ++ s.data.toList)) (wi (k, textR R k ++ s) false R)
    have e : textR R k ++ s = bs (txt fs k ++ s.data.toList) := by
      rw [h.text, Rf7.bs_append]; rfl
    rw [e]; exact h.put k _
  | cut k n =>
    show RF (Fm.put fs k ((txt fs k).take n)) (wi (k, bs ((textR R k).data.toList.take n)) false R)
    rw [h.text]; exact h.put k _
  | mov j k =>
    have hne := hm j k rfl
    show RF (Fm.del (Fm.put fs k (txt fs j)) j) (wi (k, textR R j) false (wo j R))
    rw [h.text]
    have h1 := h.del hu j
    have h2 := h1.put k (txt fs j)
    refine ⟨h2.srt, fun x => ?_, ?_⟩
    · rw [h2.look]
      by_cases e : x = k
      · rw [e, Fm.get_put_eq, get_del_ne hne, Fm.get_put_eq]
      · rw [Fm.get_put_ne _ _ _ e]
        by_cases e2 : x = j
        · rw [e2, get_del_eq j hu, get_del_eq j (uq_put k _ hu)]
        · rw [get_del_ne (fun x => e2 x.symm), get_del_ne (fun x => e2 x.symm), Fm.get_put_ne _ _ _ e]
    · rw [h2.sum]
      have a1 := Fm.used_put k (txt fs j) (Fm.del fs j)
      have a2 := Fm.used_del j fs
      have a3 := Fm.used_mov j k fs hne
      have a4 : txt (Fm.del fs j) k = txt fs k := by unfold txt; rw [get_del_ne hne]
      rw [a4] at a1
      omega
  | rem k => exact h.del hu k
end Go.Proofs.YtaoneiicoaiehaaGreat.Fq11
