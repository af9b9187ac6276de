/- ManKeeps: what each step leaves of what may be loaded, and what is loaded. -/
import Derived.Test.YtaoneiicoaiehaaKs11
namespace Go.Proofs.Ytaoneiicoaiehaa.Km11
open Go Go.RowKit Go.Lib Go.Proofs.Ytaoneiicoaiehaa Go.Proofs.Ytaoneiicoaiehaa.Wm Go.Proofs.Ytaoneiicoaiehaa.Fl7 Go.Proofs.Ytaoneiicoaiehaa.Dh Go.Proofs.Ytaoneiicoaiehaa.Dk Go.Proofs.Ytaoneiicoaiehaa.Fm Go.Proofs.Ytaoneiicoaiehaa.Cl Go.Proofs.Ytaoneiicoaiehaa.Bu Go.Proofs.Ytaoneiicoaiehaa.Ch Go.Proofs.Ytaoneiicoaiehaa.Nm Go.Proofs.Ytaoneiicoaiehaa.St Go.Proofs.Ytaoneiicoaiehaa.Sy Go.Proofs.Ytaoneiicoaiehaa.Nu11 Go.Proofs.Ytaoneiicoaiehaa.Ma11 Go.Proofs.Ytaoneiicoaiehaa.Ck11 Go.Proofs.Ytaoneiicoaiehaa.Tx11 Go.Proofs.Ytaoneiicoaiehaa.Mn11 Go.Proofs.Ytaoneiicoaiehaa.Pg11 Go.Proofs.Ytaoneiicoaiehaa.Gb11 Go.Proofs.Ytaoneiicoaiehaa.Sv11 Go.Proofs.Ytaoneiicoaiehaa.Ld11 Go.Proofs.Ytaoneiicoaiehaa.Ap11 Go.Proofs.Ytaoneiicoaiehaa.Sa11 Go.Proofs.Ytaoneiicoaiehaa.Av11 Go.Proofs.Ytaoneiicoaiehaa.Kp11 Go.Proofs.Ytaoneiicoaiehaa.Hv11 Go.Proofs.Ytaoneiicoaiehaa.Ro11 Go.Proofs.Ytaoneiicoaiehaa.Ks11
/-- What may stand in the file. -/
def Al (sm : Bool) (hv : Sx) (ms : List Sx) (c : Option (List UInt8)) : Prop := (sm = false ∧ c = none) ∨ (sm = true ∧ c = some (by_ hv.m)) ∨ ∃ x ∈ ms, c = some (by_ x.m)
structure Mok (w0 : World) (x : Sx) : Prop where
  man : ManAt w0 x.m x.A x.c
  len : x.m.runs.length ≤ 20
structure Mind (w0 : World) (i : Nat) (D : St) (sm : Bool) (hv : Sx) (ms : List Sx) : Prop where
  inv : Inv kN kM (Al sm hv ms) D
  loose : D.loose.length ≤ 10 * i
  hok : Mok w0 hv
  hmay : sm = true → may hv.m = true
  mok : ∀ x ∈ ms, Mok w0 x ∧ may x.m = true
  mlen : ms.length ≤ i
theorem Mok.fits {w0 : World} {x : Sx} (h : Mok w0 x) : Fits x.m := ⟨h.man.wal, h.man.next, h.man.runs⟩
theorem follow_loose : ∀ (l : List (St → Int × St)) (D : St), (∀ f ∈ l, ∀ D, (f D).2.loose.length ≤ D.loose.length + 1) → (Sv11.follow l D).2.loose.length ≤ D.loose.length + l.length
  | [], D, _ => Nat.le_refl _
  | f :: l, D, h => by
    have h1 := h f (List.mem_cons_self ..) D
    unfold Sv11.follow
    split
    · have h2 := follow_loose l (f D).2 (fun g hg => h g (List.mem_cons_of_mem _ hg))
      rw [List.length_cons]; omega
    · rw [List.length_cons]; omega
theorem save_loose (D : St) (k : ByteArray) (m : Man) : (saveS D k m).2.loose.length ≤ D.loose.length + 5 := by
  unfold saveS
  split
  · refine follow_loose _ D ?_
    intro f hf D
    unfold steps at hf
    simp only [List.mem_cons, List.not_mem_nil, or_false] at hf
    rcases hf with rfl | rfl | rfl | rfl | rfl
    · exact drop_loose _ _
    · exact append_loose _ _ _
    · exact sync_loose _
    · exact rename_loose _ _ _
    · exact sync_loose _
  · exact Nat.le_add_right _ _
section
variable {w0 : World} {i : Nat} {D : St} {sm : Bool} {hv : Sx} {ms : List Sx}
theorem Mind.next (h : Mind w0 i D sm hv ms) : Mind w0 (i + 1) D sm hv ms := ⟨h.inv, by have := h.loose; omega, h.hok, h.hmay, h.mok, by have := h.mlen; omega⟩
theorem mind_fuse (h : Mind w0 i D sm hv ms) (n : Int) : Mind w0 (i + 1) (stFuse D n) sm hv ms := by
  refine ⟨h.inv.fuse n, ?_, h.hok, h.hmay, h.mok, by have := h.mlen; omega⟩
  have := h.loose
  unfold stFuse
  split
  · show D.loose.length ≤ _; omega
  · show D.loose.length ≤ _; omega
theorem mind_crash (h : Mind w0 i D sm hv ms) (n t : Int) : Mind w0 (i + 1) (stCrash D n t) sm hv ms :=
  ⟨h.inv.crash neNM n t, Nat.zero_le _, h.hok, h.hmay, h.mok, by have := h.mlen; omega⟩
theorem mind_room (h : Mind w0 i D sm hv ms) (n : Int) : Mind w0 (i + 1) (stRoom D n) sm hv ms := by
  unfold stRoom
  split
  · exact ⟨⟨h.inv.uq, h.inv.now, h.inv.sure, h.inv.loose⟩, by have := h.loose; show D.loose.length ≤ _; omega, h.hok, h.hmay, h.mok, by have := h.mlen; omega⟩
  · exact h.next
theorem mind_save (h : Mind w0 i D sm hv ms) (s : Sx) (hs : Mok w0 s) :
    ((saveS D kM s.m).1 = 0 ∧ Mind w0 (i + 1) (saveS D kM s.m).2 true s []) ∨
    ((saveS D kM s.m).1 = 20 ∧ Mind w0 (i + 1) (saveS D kM s.m).2 sm hv (ms ++ [s])) ∨
    (((saveS D kM s.m).1 = 2 ∨ (saveS D kM s.m).1 = 4) ∧ Mind w0 (i + 1) (saveS D kM s.m).2 sm hv ms) := by
  have hlo := save_loose D kM s.m
  have hl := h.loose
  have hm := h.mlen
  have hl2 : (saveS D kM s.m).2.loose.length ≤ 10 * (i + 1) := by omega
  by_cases hmay : may s.m = true
  · have he : saveS D kM s.m = Sv11.follow (steps kN kM (bs (by_ s.m))) D := by unfold saveS; rw [if_pos hmay]; rfl
    rw [he] at hl2 ⊢
    rcases inv_follow okN okM neNM h.inv (bs (by_ s.m)) with ⟨h1, h2⟩ | ⟨h1, h2⟩ | ⟨h1, h2⟩
    · exact .inl ⟨h1, h2.mono (fun c hc => .inr (.inl ⟨rfl, hc⟩)), hl2, hs, fun _ => hmay, (fun x hx => by cases hx), Nat.zero_le _⟩
    · refine .inr (.inl ⟨h1, h2.mono (fun c hc => ?_), hl2, h.hok, h.hmay, fun x hx => ?_, by rw [List.length_append]; show ms.length + 1 ≤ _; omega⟩)
      · rcases hc with (hc | hc | ⟨x, hx, hc⟩) | hc
        · exact .inl hc
        · exact .inr (.inl hc)
        · exact .inr (.inr ⟨x, List.mem_append_left _ hx, hc⟩)
        · exact .inr (.inr ⟨s, List.mem_append_right _ (List.mem_singleton.2 rfl), hc⟩)
      · rcases List.mem_append.1 hx with e | e
        · exact h.mok x e
        · rw [List.mem_singleton] at e; rw [e]; exact ⟨hs, hmay⟩
    · exact .inr (.inr ⟨.inr h1, h2, hl2, h.hok, h.hmay, h.mok, by omega⟩)
  · have he : saveS D kM s.m = (2, D) := by unfold saveS; rw [if_neg hmay]
    rw [he]
    exact .inr (.inr ⟨.inl rfl, h.next⟩)
/-- What is loaded. -/
theorem mind_load (h : Mind w0 i D sm hv ms) :
    loadS D kM = (none, 20) ∨ (loadS D kM = (none, 3) ∧ sm = false) ∨ ∃ m, loadS D kM = (some m, 0) ∧ m.runs.length ≤ 20 ∧ ((sm = true ∧ m = hv.m) ∨ ∃ y ∈ ms, m = y.m) := by
  have key : ∀ x : Sx, Mok w0 x → may x.m = true → ∀ t, t = by_ x.m → stRead D kM 0 16777216 = (t.take 16777216, 0) → loadS D kM = (some x.m, 0) := by
    intro x hx hxm t ht hr
    have hlen := by_len x.m
    have hx2 := hx.len
    unfold loadS
    rw [hr, if_pos rfl, ht, List.take_of_length_le (by rw [hlen]; omega), got_by hx.fits hxm]
    rfl
  rcases inv_load okM neNM h.inv with hr | ⟨hr, hP⟩ | ⟨t, hr, hP⟩
  · left
    unfold loadS
    rw [hr, if_neg (by omega)]
  · refine .inr (.inl ⟨?_, ?_⟩)
    · unfold loadS
      rw [hr, if_neg (by omega)]
    · rcases hP with ⟨h1, _⟩ | ⟨_, h1⟩ | ⟨_, _, h1⟩
      · exact h1
      · cases h1
      · cases h1
  · refine .inr (.inr ?_)
    rcases hP with ⟨_, h1⟩ | ⟨h0, h1⟩ | ⟨x, hx, h1⟩
    · cases h1
    · exact ⟨hv.m, key hv h.hok (h.hmay h0) t (by injection h1) hr, h.hok.len, .inl ⟨h0, rfl⟩⟩
    · exact ⟨x.m, key x (h.mok x hx).1 (h.mok x hx).2 t (by injection h1) hr, (h.mok x hx).1.len, .inr ⟨x, hx, rfl⟩⟩
end
/-- At the beginning. -/
def s0 : Sx := ⟨0, ⟨0, [], 0⟩, none, 0, 0, 0⟩
theorem mind_new (w0 : World) (n : Int) : Mind w0 0 ⟨n, [], [], [], -1, false⟩ false s0 [] :=
  ⟨⟨List.nodup_nil, rfl, .inl ⟨rfl, rfl⟩, .inl fun c hc => (by cases hc)⟩, Nat.le_refl _, ⟨nil_man w0 0 0 (by omega) (by omega), Nat.zero_le _⟩, (fun h => by cases h), (fun x hx => by cases hx), Nat.le_refl _⟩
end Go.Proofs.Ytaoneiicoaiehaa.Km11
