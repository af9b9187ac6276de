/- The law's plain side: what a wal's file holds, what each call and a crash leave of it. An opening of what a crash left: all that was there for good, and a beginning of what was under way. A wal and its disk over a walk: they lie behind what came in, and apart from what the walk keeps. -/
import Derived.Test.YtbjemekkpmbhhaaW8b
import Derived.Test.YtbjemekkpmbhhaaCa
import Derived.Test.YtbjemekkpmbhhaaLw7
import Derived.Test.YtbjemekkpmbhhaaNw
namespace Go.Proofs.Ytbjemekkpmbhhaa.Pl8
open Go Go.RowKit Go.Lib Go.Proofs.Ytbjemekkpmbhhaa.Fm Go.Proofs.Ytbjemekkpmbhhaa.Dk Go.Proofs.Ytbjemekkpmbhhaa.Cl Go.Proofs.Ytbjemekkpmbhhaa.Nm Go.Proofs.Ytbjemekkpmbhhaa.St Go.Proofs.Ytbjemekkpmbhhaa.Fl7 Go.Proofs.Ytbjemekkpmbhhaa.Rs7 Go.Proofs.Ytbjemekkpmbhhaa.Wl8 Go.Proofs.Ytbjemekkpmbhhaa.Wa8 Go.Proofs.Ytbjemekkpmbhhaa.Wr8 Go.Proofs.Ytbjemekkpmbhhaa.Wo8 Go.Proofs.Ytbjemekkpmbhhaa.Wq8
/-- The files are this one, of these bytes; or there is none, and these are no bytes. -/
def Holds (fs : Fs) (k : ByteArray) (t : List UInt8) : Prop := fs = [(k, t)] ∨ (fs = [] ∧ t = [])
theorem Holds.used {fs : Fs} {k : ByteArray} {t : List UInt8} (h : Holds fs k t) : used fs = t.length := by
  rcases h with rfl | ⟨rfl, rfl⟩
  · simp [Fm.used]
  · rfl
theorem Holds.txt {fs : Fs} {k : ByteArray} {t : List UInt8} (h : Holds fs k t) : txt fs k = t := by
  rcases h with rfl | ⟨rfl, rfl⟩
  · simp [Fm.txt, Fm.get]
  · rfl
theorem Holds.put {fs : Fs} {k : ByteArray} {t : List UInt8} (h : Holds fs k t) (t' : List UInt8) : Holds (put fs k t') k t' := by
  rcases h with rfl | ⟨rfl, rfl⟩
  · exact .inl (by simp [Fm.put])
  · exact .inl rfl
theorem Holds.del {fs : Fs} {k : ByteArray} {t : List UInt8} (h : Holds fs k t) : Holds (del fs k) k [] := by
  rcases h with rfl | ⟨rfl, rfl⟩
  · exact .inr ⟨by simp [Fm.del], rfl⟩
  · exact .inr ⟨rfl, rfl⟩
theorem Holds.get {fs : Fs} {k : ByteArray} {t : List UInt8} (h : Holds fs k t) : Fm.get fs k = some t ∨ (Fm.get fs k = none ∧ t = []) := by
  rcases h with rfl | ⟨rfl, rfl⟩
  · exact .inl (by simp [Fm.get])
  · exact .inr ⟨rfl, rfl⟩
/-- Frames that are whole within a beginning. -/
theorem whole_frs (l : List (List UInt8)) : ∀ n, frs (l.take (whole l n).1) = (frs l).take (whole l n).2 := by
  induction l with
  | nil => intro n; rfl
  | cons s r ih =>
    intro n
    unfold whole
    split
    · rw [List.take_succ_cons, frs, frs, ih, List.take_append, fr_len, List.take_of_length_le (l := fr s) (by rw [fr_len]; omega), Nat.add_sub_cancel_left]
    · simp [frs]
theorem whole_size (l : List (List UInt8)) (n : Nat) (hn : n ≤ (frs l).length) : size (l.take (whole l n).1) = (whole l n).2 := by
  have h := congrArg List.length (whole_frs l n)
  rw [frs_len, List.length_take] at h
  have := (whole_le l n).2
  omega
/-- What is behind whole frames leaves these whole. -/
theorem whole_least (l m : List (List UInt8)) : ∀ n, size l ≤ n → l.length ≤ (whole (l ++ m) n).1 := by
  induction l with
  | nil => intro n _; exact Nat.zero_le _
  | cons s r ih =>
    intro n hn
    have e : size (s :: r) = 12 + s.length + size r := rfl
    rw [e] at hn
    rw [List.cons_append]
    unfold whole
    rw [if_pos (by omega)]
    have := ih (n - (12 + s.length)) (by omega)
    simp only [List.length_cons]; omega
variable {Rm : Int}
/-- The wal is not down: its file is what its records are, for good. -/
structure Up (Rm : Int) (k : ByteArray) (D : St) (X : Wx) (H : List ByteArray) : Prop where
  fault : X.fault = 0
  cnt : X.cnt = H.length
  size : X.size = Fl7.size (ll H)
  still : D.still = false
  loose : D.loose = []
  room : D.room = Rm
  now : Holds D.now k (frs (ll H))
  sure : D.sure = D.now
/-- A disk that stands still, of what was under way. -/
structure Loose (Rm : Int) (k : ByteArray) (D : St) (H : List ByteArray) (l : List Cmd) : Prop where
  loose : D.loose = [] ∨ D.loose = l
  room : D.room = Rm
  sure : Holds D.sure k (frs (ll H))
theorem burnt_two (D : St) : (burnt D).1 = 20 ∧ (burnt D).2 = { D with still := true } ∨ (burnt D).1 = 0 ∧ ∃ f, (burnt D).2 = { D with fuse := f } := by
  unfold burnt
  split
  · exact .inr ⟨rfl, D.fuse, rfl⟩
  · split
    · exact .inl ⟨rfl, rfl⟩
    · exact .inr ⟨rfl, _, rfl⟩
theorem doing_two (D : St) (c : Cmd) : (doing D c).1 = 20 ∧ (doing D c).2 = { D with still := true } ∨ (doing D c).1 = 0 ∧ ∃ f, (doing D c).2 = { D with fuse := f, now := c.run D.now, loose := D.loose ++ [c] } := by
  unfold doing
  rcases burnt_two D with ⟨h1, h2⟩ | ⟨h1, f, h2⟩
  · rw [if_neg (by rw [h1]; decide), h2]; exact .inl ⟨h1, rfl⟩
  · rw [if_pos h1, h2]; exact .inr ⟨rfl, f, rfl⟩
theorem sync_two (D : St) (h : D.still = false) : (stSync D).1 = 20 ∧ (stSync D).2 = { D with still := true } ∨ (stSync D).1 = 0 ∧ ∃ f, (stSync D).2 = { D with fuse := f, sure := D.now, loose := [] } := by
  unfold stSync
  rw [if_neg (by rw [h]; decide)]
  rcases burnt_two D with ⟨h1, h2⟩ | ⟨h1, f, h2⟩
  · rw [if_neg (by rw [h1]; decide), h2]; exact .inl ⟨h1, rfl⟩
  · rw [if_pos h1, h2]; exact .inr ⟨rfl, f, rfl⟩
theorem size_ll (H L : List ByteArray) : Fl7.size (ll (H ++ L)) = Fl7.size (ll H) + Fl7.size (ll L) := by rw [ll_append, size_append]
/-- An Append: done whole; or the disk stands still, and the wal is down. -/
theorem put_out {k : ByteArray} {D : St} {X : Wx} {H : List ByteArray} (h : Up Rm k D X H) (hk : nameOk k = true) (L : List ByteArray) (hr : ((Fl7.size (ll (H ++ L)) : Nat) : Int) ≤ Rm) :
    ((walPut k D X L.length (bs (frs (ll L)))).1 = 0 ∧ Up Rm k (walPut k D X L.length (bs (frs (ll L)))).2.1 (walPut k D X L.length (bs (frs (ll L)))).2.2 (H ++ L)) ∨
    ((walPut k D X L.length (bs (frs (ll L)))).1 = 20 ∧ (walPut k D X L.length (bs (frs (ll L)))).2.2.fault = 20 ∧ Loose Rm k (walPut k D X L.length (bs (frs (ll L)))).2.1 H [.app k (bs (frs (ll L)))]) := by
  have hss := size_ll H L
  have hus := h.now.used
  rw [frs_len] at hus
  have hz : (bs (frs (ll L))).size = Fl7.size (ll L) := by rw [bs_size, frs_len]
  have hroom := h.room
  have hA : stAppend D k (bs (frs (ll L))) = doing D (.app k (bs (frs (ll L)))) := by
    unfold stAppend
    rw [if_neg (by rw [h.still]; decide), if_neg (by rw [hk]; decide), if_neg]
    rintro ⟨_, hx⟩
    rw [hus, hz] at hx
    omega
  unfold walPut
  rw [hA]
  rcases doing_two D (.app k (bs (frs (ll L)))) with ⟨h1, h2⟩ | ⟨h1, f, h2⟩
  · rw [if_pos (by rw [h1]; decide), h1, h2]
    refine .inr ⟨rfl, rfl, .inl h.loose, h.room, ?_⟩
    show Holds D.sure k _
    rw [h.sure]; exact h.now
  · rw [if_neg (fun x => x h1), h2]
    rw [h.loose, List.nil_append]
    have e0 : Cmd.run D.now (.app k (bs (frs (ll L)))) = put D.now k (frs (ll H) ++ frs (ll L)) := by
      show put D.now k (Fm.txt D.now k ++ (bs (frs (ll L))).data.toList) = _
      rw [h.now.txt, bs_list]
    rcases sync_two { D with fuse := f, now := Cmd.run D.now (.app k (bs (frs (ll L)))), loose := [.app k (bs (frs (ll L)))] } h.still with ⟨g1, g2⟩ | ⟨g1, f', g2⟩
    · rw [if_pos (by rw [g1]; decide), g1, g2]
      refine .inr ⟨rfl, rfl, .inr rfl, h.room, ?_⟩
      show Holds D.sure k _
      rw [h.sure]; exact h.now
    · rw [if_neg (fun x => x g1), g2]
      refine .inl ⟨rfl, h.fault, ?_, ?_, h.still, rfl, h.room, ?_, rfl⟩
      · show X.cnt + L.length = _
        rw [h.cnt, List.length_append]
      · show X.size + (bs (frs (ll L))).size = _
        rw [h.size, hz, hss]
      · show Holds (Cmd.run D.now (.app k (bs (frs (ll L))))) k _
        rw [e0, ll_append, frs_append]
        exact h.now.put _
/-- A Reset: done whole; or the disk stands still, and the wal is down. -/
theorem reset_out {k : ByteArray} {D : St} {X : Wx} {H : List ByteArray} (h : Up Rm k D X H) (hk : nameOk k = true) :
    ((walReset k D X).1 = 0 ∧ Up Rm k (walReset k D X).2.1 (walReset k D X).2.2 []) ∨
    ((walReset k D X).1 = 20 ∧ (walReset k D X).2.2.fault = 20 ∧ Loose Rm k (walReset k D X).2.1 H [.rem k]) := by
  have hroom := h.room
  have hR : stRemove D k = match Fm.get D.now k with | none => (3, D) | some _ => doing D (.rem k) := by
    unfold stRemove
    rw [if_neg (by rw [h.still]; decide), if_neg (by rw [hk]; decide)]
    rfl
  rcases h.now.get with hg | ⟨hg, ht⟩
  · rw [hg] at hR
    dsimp only at hR
    rcases doing_two D (.rem k) with ⟨h1, h2⟩ | ⟨h1, f, h2⟩
    · have hS : remS k D = (20, { D with still := true }) := by
        unfold remS
        rw [hR, h1, h2]; rfl
      unfold walReset
      rw [hS]
      refine .inr ⟨rfl, rfl, .inl h.loose, h.room, ?_⟩
      show Holds D.sure k _
      rw [h.sure]; exact h.now
    · rw [h.loose, List.nil_append] at h2
      rcases sync_two { D with fuse := f, now := Cmd.run D.now (.rem k), loose := [.rem k] } h.still with ⟨g1, g2⟩ | ⟨g1, f', g2⟩
      · have hS : remS k D = (20, { D with fuse := f, now := Cmd.run D.now (.rem k), loose := [.rem k], still := true }) := by
          unfold remS
          rw [hR, h1, h2, g1, g2]; rfl
        unfold walReset
        rw [hS]
        refine .inr ⟨rfl, rfl, .inr rfl, h.room, ?_⟩
        show Holds D.sure k _
        rw [h.sure]; exact h.now
      · have hS : remS k D = (0, { D with fuse := f', now := Cmd.run D.now (.rem k), sure := Cmd.run D.now (.rem k), loose := [] }) := by
          unfold remS
          rw [hR, h1, h2, g1, g2]; rfl
        unfold walReset
        rw [hS]
        exact .inl ⟨rfl, h.fault, rfl, rfl, h.still, rfl, hroom, h.now.del, rfl⟩
  · rw [hg] at hR
    dsimp only at hR
    have hS : remS k D = (0, D) := by
      unfold remS
      rw [hR]; rfl
    unfold walReset
    rw [hS]
    refine .inl ⟨rfl, h.fault, rfl, rfl, h.still, h.loose, hroom, ?_, h.sure⟩
    have := h.now
    rw [ht] at this
    exact this
/-- What a crash leaves of the file: a beginning of these frames, that has the first of them whole. -/
def LeftAt (k : ByteArray) (D : St) (G P : List ByteArray) (m : Nat) : Prop :=
  Fl7.size (ll G) ≤ m ∧ m ≤ Fl7.size (ll (G ++ P)) ∧ Holds D.now k ((frs (ll (G ++ P))).take m)
def LeftBy (k : ByteArray) (D : St) (G P : List ByteArray) : Prop := ∃ m, LeftAt k D G P m
theorem left_all {k : ByteArray} {D : St} {G : List ByteArray} (h : Holds D.now k (frs (ll G))) (P : List ByteArray) : LeftBy k D G P := by
  refine ⟨Fl7.size (ll G), Nat.le_refl _, by rw [size_ll]; omega, ?_⟩
  rw [ll_append, frs_append, ← frs_len, List.take_left]
  exact h
theorem crash_up {k : ByteArray} {D : St} {X : Wx} {H : List ByteArray} (h : Up Rm k D X H) (K t : Int) : LeftBy k (stCrash D K t) H [] := by
  refine left_all ?_ []
  have e : crashed D K t = D.sure := by
    unfold crashed
    rw [h.loose]; simp [runs]
  show Holds (crashed D K t) k _
  rw [e, h.sure]; exact h.now
theorem torn_list (s : ByteArray) (t : Int) : (torn s t).data.toList = s.data.toList.take (min t s.size).toNat := by
  unfold torn
  rw [Ff7.ex_list]; rfl
theorem keeps_one (D : St) (K : Int) (c : Cmd) (h : D.loose = [c]) : keeps D K = 0 ∨ keeps D K = 1 := by
  unfold keeps
  rw [h]
  simp only [List.length_singleton]
  omega
theorem crash_put {k : ByteArray} {D : St} {H L : List ByteArray} (h : Loose Rm k D H [.app k (bs (frs (ll L)))]) (K t : Int) : LeftBy k (stCrash D K t) H L := by
  have run : ∀ s : ByteArray, Cmd.run D.sure (.app k s) = put D.sure k (frs (ll H) ++ s.data.toList) := fun s => by
    show put D.sure k (Fm.txt D.sure k ++ s.data.toList) = _
    rw [h.sure.txt]
  have part : ∀ j, j ≤ Fl7.size (ll L) → ∀ s : ByteArray, s.data.toList = (frs (ll L)).take j → crashed D K t = Cmd.run D.sure (.app k s) → LeftBy k (stCrash D K t) H L := by
    intro j hj s hs e
    refine ⟨Fl7.size (ll H) + j, by omega, by rw [size_ll]; omega, ?_⟩
    show Holds (crashed D K t) k _
    rw [e, run, hs, ll_append, frs_append, List.take_append, frs_len, List.take_of_length_le (l := frs (ll H)) (by rw [frs_len]; omega), Nat.add_sub_cancel_left]
    exact h.sure.put _
  have none : crashed D K t = D.sure → LeftBy k (stCrash D K t) H L := fun e => by
    refine left_all ?_ L
    show Holds (crashed D K t) k _
    rw [e]; exact h.sure
  rcases h.loose with h0 | h0
  · refine none ?_
    unfold crashed
    rw [h0]; simp [runs]
  · rcases keeps_one D K _ h0 with hk | hk
    · by_cases ht : 0 < t
      · refine part (min t (bs (frs (ll L))).size).toNat ?_ (torn (bs (frs (ll L))) t) (torn_list _ _) ?_
        · rw [bs_size, frs_len]; omega
        · rw [Ca.crashed_torn D K t k _ (by rw [hk, h0]; rfl) ht, hk]; rfl
      · refine none ?_
        rw [Ca.crashed_low D K t (by omega), hk]; rfl
    · refine part (Fl7.size (ll L)) (Nat.le_refl _) (bs (frs (ll L))) (by rw [bs_list, List.take_of_length_le (by rw [frs_len]; exact Nat.le_refl _)]) ?_
      rw [Ca.crashed_end D K t (by rw [hk, h0]; rfl), hk, h0]; rfl
theorem crash_reset {k : ByteArray} {D : St} {H : List ByteArray} (h : Loose Rm k D H [.rem k]) (K t : Int) : LeftBy k (stCrash D K t) H [] ∨ LeftBy k (stCrash D K t) [] [] := by
  have none : crashed D K t = D.sure → LeftBy k (stCrash D K t) H [] := fun e => by
    refine left_all ?_ []
    show Holds (crashed D K t) k _
    rw [e]; exact h.sure
  rcases h.loose with h0 | h0
  · refine .inl (none ?_)
    unfold crashed
    rw [h0]; simp [runs]
  · rcases keeps_one D K _ h0 with hk | hk
    · refine .inl (none ?_)
      rw [Ca.crashed_other D K t _ (by rw [hk, h0]; rfl) (fun _ _ => by simp), hk]; rfl
    · refine .inr (left_all ?_ [])
      show Holds (crashed D K t) k _
      rw [Ca.crashed_end D K t (by rw [hk, h0]; rfl), hk, h0]
      exact h.sure.del
end Go.Proofs.Ytbjemekkpmbhhaa.Pl8
namespace Go.Proofs.Ytbjemekkpmbhhaa.Po8
open Go Go.RowKit Go.Lib Go.Proofs.Ytbjemekkpmbhhaa.Fm Go.Proofs.Ytbjemekkpmbhhaa.Dk Go.Proofs.Ytbjemekkpmbhhaa.Cl Go.Proofs.Ytbjemekkpmbhhaa.Nm Go.Proofs.Ytbjemekkpmbhhaa.St Go.Proofs.Ytbjemekkpmbhhaa.Rd Go.Proofs.Ytbjemekkpmbhhaa.Fl7 Go.Proofs.Ytbjemekkpmbhhaa.Rs7 Go.Proofs.Ytbjemekkpmbhhaa.Wl8 Go.Proofs.Ytbjemekkpmbhhaa.Wa8 Go.Proofs.Ytbjemekkpmbhhaa.Wr8 Go.Proofs.Ytbjemekkpmbhhaa.Wo8 Go.Proofs.Ytbjemekkpmbhhaa.Wq8 Go.Proofs.Ytbjemekkpmbhhaa.Pl8
variable {Rm : Int}
/-- A disk as a crash leaves it. -/
structure CalmD (D : St) : Prop where
  still : D.still = false
  fuse : D.fuse = -1
  loose : D.loose = []
  sure : D.sure = D.now
theorem calm_crash (D : St) (K t : Int) : CalmD (stCrash D K t) := ⟨rfl, rfl, rfl, rfl⟩
theorem read_left {k : ByteArray} {D : St} {t : List UInt8} (hc : CalmD D) (hk : nameOk k = true) (h : Holds D.now k t) (ht : t.length ≤ 16777216) : ∃ E, (E = 0 ∨ E = 3) ∧ ret (stRead D k 0 16777216).1 (stRead D k 0 16777216).2 = ret t E := by
  unfold stRead
  rw [if_neg (by rw [hc.still]; decide), if_neg (by rw [hk]; decide), if_neg (by decide)]
  rcases h.get with hg | ⟨hg, rfl⟩
  · rw [hg]
    refine ⟨0, .inl rfl, ?_⟩
    have e : (t.drop (0 : Int).toNat).take (16777216 : Int).toNat = t := by
      show (t.drop 0).take 16777216 = t
      rw [List.drop_zero, List.take_of_length_le ht]
    dsimp only
    rw [e]
  · rw [hg]
    exact ⟨3, .inr rfl, rfl⟩
theorem doing_calm {D : St} (h : D.fuse = -1) (c : Cmd) : doing D c = (0, { D with now := c.run D.now, loose := D.loose ++ [c] }) := by
  have hb : burnt D = (0, D) := by unfold burnt; rw [if_pos h]
  unfold doing
  rw [hb, if_pos rfl]
theorem sync_calm {D : St} (hs : D.still = false) (h : D.fuse = -1) : stSync D = (0, { D with sure := D.now, loose := [] }) := by
  have hb : burnt D = (0, D) := by unfold burnt; rw [if_pos h]
  unfold stSync
  rw [hb, if_neg (by rw [hs]; decide), if_pos rfl]
theorem ll_small {L : List ByteArray} (h : Fl7.size (ll L) ≤ 4000000) : ∀ s ∈ ll L, s.length ≤ 4194304 := by
  have key : ∀ (l : List (List UInt8)) (s : List UInt8), s ∈ l → s.length ≤ Fl7.size l := by
    intro l
    induction l with
    | nil => intro s hs; simp at hs
    | cons a l ih =>
      intro s hs
      have e : Fl7.size (a :: l) = 12 + a.length + Fl7.size l := rfl
      rw [e]
      rcases List.mem_cons.1 hs with rfl | hs
      · omega
      · have := ih s hs; omega
  intro s hs
  have := key _ s hs
  omega
/-- What an opening finds, and leaves. -/
theorem open_out {k : ByteArray} {D : St} {G P : List ByteArray} (hc : CalmD D) (hk : nameOk k = true) (m : Nat) (hl : LeftAt k D G P m) (hsz : Fl7.size (ll (G ++ P)) ≤ 500000) (hr : D.room = Rm) :
    ∃ (E : Int) (b : ByteArray) (n e j : Nat), WasRead D k E b (ll ((G ++ P).take j)) n e ∧ e ≠ 71 ∧ n ≤ 500000 ∧ (stepsS k D n e).1 = 0 ∧ G.length ≤ j ∧ j ≤ (G ++ P).length ∧ n ≤ m ∧ (stepsS k D n e).2.fuse = -1 ∧ Up Rm k (stepsS k D n e).2 ⟨((G ++ P).take j).length, n, 0⟩ ((G ++ P).take j) := by
  obtain ⟨hm1, hm2, hh⟩ := hl
  obtain ⟨L, hL⟩ : ∃ L, L = G ++ P := ⟨_, rfl⟩
  rw [← hL] at hm2 hh hsz ⊢
  have hfl : (frs (ll L)).length = Fl7.size (ll L) := frs_len _
  obtain ⟨t, ht⟩ : ∃ t, t = (frs (ll L)).take m := ⟨_, rfl⟩
  have htl : t.length = m := by rw [ht, List.length_take]; omega
  rw [← ht] at hh
  obtain ⟨E, hE, hrd⟩ := read_left hc hk hh (by omega)
  have hsc := scan_torn (ll L) m (ll_small (by omega)) (by omega)
  rw [← ht] at hsc
  obtain ⟨j, hj⟩ : ∃ j, j = (whole (ll L) m).1 := ⟨_, rfl⟩
  obtain ⟨n, hn⟩ : ∃ n, n = (whole (ll L) m).2 := ⟨_, rfl⟩
  have hwl := whole_le (ll L) m
  have hle : G.length ≤ j := by
    have := whole_least (ll G) (ll P) m hm1
    rw [ll_len, ← ll_append, ← hL] at this
    omega
  have hws := whole_size (ll L) m (by omega)
  have hwf := whole_frs (ll L) m
  rw [ll_len] at hwl
  rw [← hj, ← hn] at hsc hwl hws hwf
  have etj : (ll L).take j = ll (L.take j) := (ll_take L j).symm
  rw [etj] at hsc hws hwf
  have hnm : t.take n = frs (ll (L.take j)) := by rw [hwf, ht, List.take_take, Nat.min_eq_left hwl.2]
  have hroom := hr
  by_cases he : n = m
  · rw [if_pos he] at hsc
    have hst : stepsS k D n 0 = (0, D) := by
      have h0 : cutS k D n 0 = (0, D) := by unfold cutS; rw [if_neg (by decide)]
      unfold stepsS
      rw [h0, if_neg (by simp)]
      unfold syncS
      rw [if_pos hc.loose]
    have hnow : Holds D.now k (frs (ll (L.take j))) := by
      rw [← hnm, he, List.take_of_length_le (by omega)]; exact hh
    refine ⟨E, bs t, n, 0, j, ⟨hE, hrd, by rw [bs_size]; omega, hsc⟩, by decide, by omega, by rw [hst], hle, hwl.1, hwl.2, by rw [hst]; exact hc.fuse, ?_⟩
    rw [hst]
    exact ⟨rfl, rfl, hws.symm, hc.still, hc.loose, hroom, hnow, hc.sure⟩
  · rw [if_neg he] at hsc
    have hg : Fm.get D.now k = some t := by
      rcases hh.get with h | ⟨_, h⟩
      · exact h
      · rw [h] at htl; simp at htl; omega
    have hct : cutS k D n 70 = (0, { D with now := put D.now k (t.take n), loose := [.cut k n] }) := by
      unfold cutS stTruncate
      rw [if_pos rfl, if_neg (by rw [hc.still]; decide), if_neg (by rw [hk]; decide), if_neg (by omega), hg]
      dsimp only
      rw [if_neg (by omega), doing_calm hc.fuse, hc.loose, List.nil_append]
      have e1 : Cmd.run D.now (.cut k (n : Int).toNat) = put D.now k (t.take n) := by
        show put D.now k ((Fm.txt D.now k).take n) = _
        rw [hh.txt]
      rw [e1]
      rfl
    have hst : stepsS k D n 70 = (0, { D with now := put D.now k (t.take n), sure := put D.now k (t.take n), loose := [] }) := by
      unfold stepsS
      rw [hct, if_neg (by simp)]
      unfold syncS
      rw [if_neg (by simp)]
      exact sync_calm (D := { D with now := put D.now k (t.take n), loose := [.cut k n] }) hc.still hc.fuse
    refine ⟨E, bs t, n, 70, j, ⟨hE, hrd, by rw [bs_size]; omega, hsc⟩, by decide, by omega, by rw [hst], hle, hwl.1, hwl.2, by rw [hst]; exact hc.fuse, ?_⟩
    rw [hst]
    refine ⟨rfl, rfl, hws.symm, hc.still, rfl, hroom, ?_, rfl⟩
    show Holds (put D.now k (t.take n)) k _
    rw [hnm]
    exact hh.put _
/-- A wal of what is left: its records are all that was there for good, and a beginning of what was under way. -/
def Reopened (Rm : Int) (S : Nat → Prop) (w : World) (p : Nat) (k : ByteArray) (G P : List ByteArray) (m : Nat) (en : Ending) (w' : World) : Prop :=
  ∃ (j n : Nat) (D' : St), G.length ≤ j ∧ j ≤ (G ++ P).length ∧ Opened S w p k D' (ll ((G ++ P).take j)) n en w' ∧ n ≤ m ∧ D'.fuse = -1 ∧ Up Rm k D' ⟨((G ++ P).take j).length, n, 0⟩ ((G ++ P).take j)
theorem reopen_any {w : World} {S : Nat → Prop} {p : Nat} {k : ByteArray} {D : St} {G P : List ByteArray} (h : Full w S p D) (low : ∀ b, S b → b < w.heap.size) (hk2 : k.size ≤ maxLen) (hc : CalmD D) (hk : nameOk k = true) (m : Nat) (hl : LeftAt k D G P m) (hsz : Fl7.size (ll (G ++ P)) ≤ 500000) (hr : D.room = Rm) :
    Calls Try.prog 7 #[.pointer (some ⟨p, 0, none⟩), .string k] w (Reopened Rm S w p k G P m) := by
  obtain ⟨E, b, n, e, j, hrd, he, hn, hst, hj1, hj2, hnm, hfu, hup⟩ := open_out hc hk m hl hsz hr
  refine (open_read h low hk2 (by rw [hc.loose]; decide) E b _ n e hrd (by omega) he).mono ?_
  rintro en w' ⟨_, h2⟩
  exact ⟨j, n, _, hj1, hj2, h2 hst, hnm, hfu, hup⟩
end Go.Proofs.Ytbjemekkpmbhhaa.Po8
namespace Go.Proofs.Ytbjemekkpmbhhaa.Ss8
open Go Go.RowKit Go.Lib Go.Proofs.Ytbjemekkpmbhhaa.Dh Go.Proofs.Ytbjemekkpmbhhaa.Dk Go.Proofs.Ytbjemekkpmbhhaa.Nm Go.Proofs.Ytbjemekkpmbhhaa.St Go.Proofs.Ytbjemekkpmbhhaa.Fl7 Go.Proofs.Ytbjemekkpmbhhaa.Fs7 Go.Proofs.Ytbjemekkpmbhhaa.Rs7 Go.Proofs.Ytbjemekkpmbhhaa.Wl8 Go.Proofs.Ytbjemekkpmbhhaa.Wa8 Go.Proofs.Ytbjemekkpmbhhaa.Wp8 Go.Proofs.Ytbjemekkpmbhhaa.Wr8 Go.Proofs.Ytbjemekkpmbhhaa.Wq8 Go.Proofs.Ytbjemekkpmbhhaa.Pl8 Go.Proofs.Ytbjemekkpmbhhaa.Po8
variable {Rm : Int}
/-- The name of the file. -/
def kw : ByteArray := ⟨#[119]⟩
theorem kw_ok : nameOk kw = true := by decide
theorem kw_max : kw.size ≤ maxLen := by decide
/-- Kp: blocks that the walk keeps. -/
structure SesAt (w0 w : World) (S : Nat → Prop) (p q : Nat) (D : St) (X : Wx) (Kp : Nat → Prop) : Prop where
  at_ : WalAt w S p q kw D X
  high : ∀ b, S b → w0.heap.size ≤ b
  hq : w0.heap.size ≤ q
  below : Below w0.heap.size w0 w
  kept : ∀ x, Kp x → ¬ S x ∧ x ≠ q ∧ x < w.heap.size
def Ses (w0 w : World) (p q : Nat) (D : St) (X : Wx) (Kp : Nat → Prop) : Prop := ∃ S, SesAt w0 w S p q D X Kp
/-- What a step leaves as it was: what is kept, and what came in. -/
def Still (w0 w w' : World) (Kp : Nat → Prop) : Prop := ∀ x, (Kp x ∨ x < w0.heap.size) → w'.heap[x]? = w.heap[x]?
theorem SesAt.wto {w0 w w' : World} {S : Nat → Prop} {p q : Nat} {D D' : St} {X X' : Wx} {Kp : Nat → Prop} (h : SesAt w0 w S p q D X Kp) (ht : Wto S w w' p q kw D' X') : Ses w0 w' p q D' X' Kp ∧ Still w0 w w' Kp := by
  have hs := ht.1.size
  have hb := h.below.size
  refine ⟨⟨grow S w w', ht.2, ?_, h.hq, ?_, ?_⟩, ?_⟩
  · rintro b (hb2 | hb2)
    · exact h.high b hb2
    · omega
  · refine h.below.trans (below_tread _ ht.1 ?_ hb)
    rintro b (hb2 | hb2)
    · exact h.high b hb2
    · rw [hb2]; exact h.hq
  · intro x hx
    obtain ⟨h1, h2, h3⟩ := h.kept x hx
    refine ⟨?_, h2, by omega⟩
    rintro (hy | hy)
    · exact h1 hy
    · omega
  · rintro x (hx | hx)
    · obtain ⟨h1, h2, h3⟩ := h.kept x hx
      refine ht.1.block x h3 ?_
      rintro (hy | hy)
      · exact h1 hy
      · exact h2 hy
    · refine ht.1.block x (by omega) ?_
      rintro (hy | hy)
      · have := h.high x hy; omega
      · have := h.hq; omega
theorem Ses.below {w0 w w' : World} {p q : Nat} {D : St} {X : Wx} {Kp : Nat → Prop} (h : Ses w0 w p q D X Kp) (hb : Below w.heap.size w w') : Ses w0 w' p q D X Kp := by
  obtain ⟨S, h⟩ := h
  have := hb.size
  exact ⟨S, wal_below h.at_ hb, h.high, h.hq, h.below.trans (hb.mono h.below.size), fun x hx => ⟨(h.kept x hx).1, (h.kept x hx).2.1, by have := (h.kept x hx).2.2; omega⟩⟩
/-- A new block is kept, too. -/
theorem Ses.more {w0 w : World} {p q : Nat} {D : St} {X : Wx} {Kp : Nat → Prop} (h : Ses w0 w p q D X Kp) (o : Obj) : Ses w0 (w.alloc o) p q D X fun x => Kp x ∨ x = w.heap.size := by
  obtain ⟨S, h⟩ := h
  have hb : Below w.heap.size w (w.alloc o) := (Below.refl _ w).alloc (Nat.le_refl _) _
  refine ⟨S, wal_below h.at_ hb, h.high, h.hq, h.below.trans (hb.mono h.below.size), ?_⟩
  have hz := size_alloc w o
  rintro x (hx | hx)
  · exact ⟨(h.kept x hx).1, (h.kept x hx).2.1, by have := (h.kept x hx).2.2; omega⟩
  · have hl := h.at_.lt
    refine ⟨fun hy => ?_, by omega, by omega⟩
    have := h.at_.low x hy
    omega
theorem Ses.fewer {w0 w : World} {p q : Nat} {D : St} {X : Wx} {Kp Kp' : Nat → Prop} (h : Ses w0 w p q D X Kp) (hk : ∀ x, Kp' x → Kp x) : Ses w0 w p q D X Kp' := by
  obtain ⟨S, h⟩ := h
  exact ⟨S, h.at_, h.high, h.hq, h.below, fun x hx => h.kept x (hk x hx)⟩
/-- What is new, and no block of the disk or the wal, is kept. -/
theorem Ses.keep_new {w0 w w' : World} {p q : Nat} {D : St} {X : Wx} {Kp : Nat → Prop} (h : Ses w0 w p q D X Kp) (hb : Below w.heap.size w w') (Kp' : Nat → Prop) (hk : ∀ x, Kp' x → w.heap.size ≤ x ∧ x < w'.heap.size) : Ses w0 w' p q D X Kp' := by
  obtain ⟨S, h⟩ := h
  refine ⟨S, wal_below h.at_ hb, h.high, h.hq, h.below.trans (hb.mono h.below.size), fun x hx => ?_⟩
  have h1 := hk x hx
  have hl := h.at_.lt
  exact ⟨fun hy => by have := h.at_.low x hy; omega, by omega, h1.2⟩
theorem Ses.size {w0 w : World} {p q : Nat} {D : St} {X : Wx} {Kp : Nat → Prop} (h : Ses w0 w p q D X Kp) : w0.heap.size ≤ w.heap.size := by
  obtain ⟨S, h⟩ := h
  exact h.below.size
theorem Ses.blk {w0 w : World} {p q : Nat} {D : St} {X : Wx} {Kp : Nat → Prop} (h : Ses w0 w p q D X Kp) : w.heap[q]? = some (walO p kw X) := by
  obtain ⟨S, h⟩ := h
  exact h.at_.blk
/-- What a call comes to. -/
def ComesTo (w0 w : World) (p q : Nat) (r : Int) (D' : St) (X' : Wx) (Kp : Nat → Prop) (e : Ending) (w' : World) : Prop := e = .returned (.int .i64 r) ∧ Ses w0 w' p q D' X' Kp ∧ Still w0 w w' Kp
theorem s_append_down {w0 w : World} {p q : Nat} {D : St} {X : Wx} {Kp : Nat → Prop} (h : Ses w0 w p q D X Kp) (A : Option Addr) (n c : Nat) (hf : X.fault ≠ 0) :
    Calls Try.prog 8 #[.pointer (some ⟨q, 0, none⟩), .slice A n c] w (ComesTo w0 w p q X.fault D X Kp) := by
  obtain ⟨S, h⟩ := h
  refine (append_down h.at_ A n c hf).mono ?_
  rintro e w' ⟨rfl, ht⟩
  exact ⟨rfl, h.wto ht⟩
theorem s_append_none {w0 w : World} {p q : Nat} {D : St} {X : Wx} {Kp : Nat → Prop} (h : Ses w0 w p q D X Kp) (A : Option Addr) (c : Nat) (hf : X.fault = 0) :
    Calls Try.prog 8 #[.pointer (some ⟨q, 0, none⟩), .slice A 0 c] w (ComesTo w0 w p q 0 D X Kp) := by
  obtain ⟨S, h⟩ := h
  refine (append_none h.at_ A c hf).mono ?_
  rintro e w' ⟨rfl, ht⟩
  exact ⟨rfl, h.wto ht⟩
theorem each_small {L : List ByteArray} (h : Fl7.size (ll L) ≤ 4000000) : ∀ k (hk : k < L.length), L[k].size ≤ 4194304 := fun k hk => by
  have := ll_small h L[k].data.toList (List.mem_map.2 ⟨_, List.getElem_mem hk, rfl⟩)
  simpa using this
theorem len_size (L : List ByteArray) : L.length ≤ Fl7.size (ll L) := by
  have := Lw7.lens_size L
  omega
theorem s_append_some {w0 w : World} {p q : Nat} {D : St} {X : Wx} {Kp : Nat → Prop} {H : List ByteArray} (h : Ses w0 w p q D X Kp) (hu : Up Rm kw D X H) (A : Option Addr) (c : Nat) (L : List ByteArray) (hr : Rds w A L) (hne : L ≠ []) (hsz : Fl7.size (ll (H ++ L)) ≤ 500000) :
    Calls Try.prog 8 #[.pointer (some ⟨q, 0, none⟩), .slice A L.length c] w (ComesTo w0 w p q (walPut kw D X L.length (bs (frs (ll L)))).1 (walPut kw D X L.length (bs (frs (ll L)))).2.1 (walPut kw D X L.length (bs (frs (ll L)))).2.2 Kp) := by
  obtain ⟨S, h⟩ := h
  have hss := size_ll H L
  have h1 := len_size H
  have h2 := len_size L
  have h3 := hu.cnt
  have h4 := hu.size
  refine (append_some h.at_ A c L hr hu.fault hne (by omega) (by omega) (each_small (by omega)) kw_max (by rw [hu.loose]; decide) (by omega) (by omega)).mono ?_
  rintro e w' ⟨rfl, ht⟩
  exact ⟨rfl, h.wto ht⟩
theorem s_reset_down {w0 w : World} {p q : Nat} {D : St} {X : Wx} {Kp : Nat → Prop} (h : Ses w0 w p q D X Kp) (hf : X.fault ≠ 0) :
    Calls Try.prog 9 #[.pointer (some ⟨q, 0, none⟩)] w (ComesTo w0 w p q X.fault D X Kp) := by
  obtain ⟨S, h⟩ := h
  refine (reset_down h.at_ hf).mono ?_
  rintro e w' ⟨rfl, ht⟩
  exact ⟨rfl, h.wto ht⟩
theorem s_reset {w0 w : World} {p q : Nat} {D : St} {X : Wx} {Kp : Nat → Prop} {H : List ByteArray} (h : Ses w0 w p q D X Kp) (hu : Up Rm kw D X H) :
    Calls Try.prog 9 #[.pointer (some ⟨q, 0, none⟩)] w (ComesTo w0 w p q (walReset kw D X).1 (walReset kw D X).2.1 (walReset kw D X).2.2 Kp) := by
  obtain ⟨S, h⟩ := h
  refine (reset_any h.at_ hu.fault kw_max (by rw [hu.loose]; decide)).mono ?_
  rintro e w' ⟨rfl, ht⟩
  exact ⟨rfl, h.wto ht⟩
theorem s_fuse {w0 w : World} {p q : Nat} {D : St} {X : Wx} {Kp : Nat → Prop} (h : Ses w0 w p q D X Kp) (n : Int) (hn : n ≤ 9223372036854775807) :
    Calls Try.prog 11 #[.pointer (some ⟨p, 0, none⟩), .int .i64 n] w (ComesTo w0 w p q 0 (Sy.stFuse D n) X Kp) := by
  obtain ⟨S, h⟩ := h
  refine (Sy.fuse_any h.at_.full n hn).mono ?_
  rintro e w' ⟨rfl, ht⟩
  exact ⟨rfl, h.wto (wto_of_to h.at_ ht)⟩
theorem s_crash {w0 w : World} {p q : Nat} {D : St} {X : Wx} {Kp : Nat → Prop} (h : Ses w0 w p q D X Kp) (keep t : Int) (hk : -9223372036854775808 ≤ keep ∧ keep ≤ 9223372036854775807) (ht : t ≤ 9223372036854775807) (hlen : D.loose.length ≤ 1000) :
    Calls Try.prog 12 #[.pointer (some ⟨p, 0, none⟩), .int .i64 keep, .int .i64 t] w (ComesTo w0 w p q 0 (stCrash D keep t) X Kp) := by
  obtain ⟨S, h⟩ := h
  refine (Ca.crash_any h.at_.full keep t hk ht (by omega)).mono ?_
  rintro e w' ⟨rfl, ht⟩
  exact ⟨rfl, h.wto (wto_of_to h.at_ ht)⟩
theorem strs_eq (L : List ByteArray) : cellsS (ll L) = L.map Value.string := by
  unfold cellsS ll
  rw [List.map_map]
  exact List.map_congr_left fun x _ => rfl
/-- A row of the walk's own, of these texts. -/
def OwnT (w : World) (B : Nat) (A : Option Addr) (c : Nat) (L : List ByteArray) : Prop := w.ownsRow B 9 1 (.slice A L.length c) L.length (L.map Value.string)
theorem OwnT.reads {w : World} {B : Nat} {A : Option Addr} {c : Nat} {L : List ByteArray} (h : OwnT w B A c L) : Rds w A L := by
  unfold OwnT at h
  rw [← strs_eq] at h
  have h2 : w.ownsRow B 9 1 (.slice A L.length c) (ll L).length (cellsS (ll L)) := by rw [ll_len]; exact h
  have h3 := rds_of_own h2
  rwa [show (ll L).map bs = L from by
    unfold ll
    rw [List.map_map]
    exact List.map_id'' (fun x => rfl) L] at h3
theorem OwnT.cap {w : World} {B : Nat} {A : Option Addr} {c : Nat} {L : List ByteArray} (h : OwnT w B A c L) : L.length ≤ c ∧ c ≤ maxLen := by
  rcases h.2 with ⟨h1, h2⟩ | ⟨g, cap, cur, h1, _, _, h4, h5, _⟩
  · simp only [Value.slice.injEq] at h1
    exact ⟨by omega, by rw [h1.2.2]; exact Nat.zero_le _⟩
  · simp only [Value.slice.injEq] at h1
    rw [h1.2.2]
    exact ⟨h4, h5⟩
def blockOf (A : Option Addr) (x : Nat) : Prop := ∃ a, A = some a ∧ a.block = x
theorem OwnT.keep {w w' : World} {B B' : Nat} {A : Option Addr} {c : Nat} {L : List ByteArray} (h : OwnT w B A c L) (hB : B' ≤ B) (hk : ∀ x, blockOf A x → w'.heap[x]? = w.heap[x]?) : OwnT w' B' A c L := by
  refine ⟨h.1, ?_⟩
  rcases h.2 with h0 | ⟨g, cap, cur, h1, h2, h3, h4⟩
  · exact .inl h0
  · have e1 := h1
    simp only [Value.slice.injEq] at e1
    exact .inr ⟨g, cap, cur, h1, by omega, (hk g ⟨_, e1.1, rfl⟩).trans h3, h4⟩
/-- A disk over a walk, without a wal. -/
structure DsesAt (w0 w : World) (S : Nat → Prop) (p : Nat) (D : St) (Kp : Nat → Prop) : Prop where
  full : Full w S p D
  low : ∀ b, S b → b < w.heap.size
  high : ∀ b, S b → w0.heap.size ≤ b
  below : Below w0.heap.size w0 w
  kept : ∀ x, Kp x → ¬ S x ∧ x < w.heap.size
def Dses (w0 w : World) (p : Nat) (D : St) (Kp : Nat → Prop) : Prop := ∃ S, DsesAt w0 w S p D Kp
theorem Ses.disk {w0 w : World} {p q : Nat} {D : St} {X : Wx} {Kp : Nat → Prop} (h : Ses w0 w p q D X Kp) : Dses w0 w p D Kp := by
  obtain ⟨S, h⟩ := h
  exact ⟨S, h.at_.full, h.at_.low, h.high, h.below, fun x hx => ⟨(h.kept x hx).1, (h.kept x hx).2.2⟩⟩
/-- What an opening comes to. -/
def OpensTo (Rm : Int) (w0 w : World) (p : Nat) (Kp : Nat → Prop) (G P : List ByteArray) (m : Nat) (e : Ending) (w' : World) : Prop :=
  ∃ (j n q' : Nat) (A : Option Addr) (c : Nat) (D' : St), e = .returned (.tuple #[.pointer (some ⟨q', 0, none⟩), .slice A ((G ++ P).take j).length c, .int .i64 0]) ∧
    G.length ≤ j ∧ j ≤ (G ++ P).length ∧ n ≤ m ∧ D'.fuse = -1 ∧ Up Rm kw D' ⟨((G ++ P).take j).length, n, 0⟩ ((G ++ P).take j) ∧ Ses w0 w' p q' D' ⟨((G ++ P).take j).length, n, 0⟩ (fun x => Kp x ∨ blockOf A x) ∧ OwnT w' w0.heap.size A c ((G ++ P).take j) ∧ Still w0 w w' Kp
/-- An opened wal: the session goes on with it. -/
theorem s_open {w0 w : World} {p : Nat} {D : St} {Kp : Nat → Prop} {G P : List ByteArray} (h : Dses w0 w p D Kp) (hc : CalmD D) (m : Nat) (hl : LeftAt kw D G P m) (hsz : Fl7.size (ll (G ++ P)) ≤ 500000) (hr : D.room = Rm) :
    Calls Try.prog 7 #[.pointer (some ⟨p, 0, none⟩), .string kw] w (OpensTo Rm w0 w p Kp G P m) := by
  obtain ⟨S, h⟩ := h
  refine (reopen_any h.full h.low kw_max hc kw_ok m hl hsz hr).mono ?_
  rintro e w' ⟨j, n, D', hj1, hj2, ⟨q', A, c, S', rfl, ht, hw, hS, hq, hrow, hoff⟩, hn, hfu, hup⟩
  have hb := h.below.size
  have hts := ht.size
  rw [ll_len] at hrow hw
  rw [ll_len]
  refine ⟨j, n, q', A, c, D', rfl, hj1, hj2, hn, hfu, hup, ⟨S', hw, ?_, by omega, ?_, ?_⟩, ?_, ?_⟩
  · intro b hx
    rcases hS b hx with hy | hy
    · exact h.high b hy
    · omega
  · exact h.below.trans (below_tread _ ht h.high hb)
  · rintro x (hx | ⟨a, ha, rfl⟩)
    · obtain ⟨h1, h3⟩ := h.kept x hx
      refine ⟨fun hy => ?_, by omega, by omega⟩
      rcases hS x hy with hz | hz
      · exact h1 hz
      · omega
    · exact ⟨(hoff a ha).1, (hoff a ha).2, (row_block hrow a ha).2⟩
  · unfold OwnT
    rw [← strs_eq]
    exact row_keep hrow hb fun g _ _ => rfl
  · rintro x (hx | hx)
    · obtain ⟨h1, h3⟩ := h.kept x hx
      exact ht.block x h3 h1
    · exact ht.block x (by omega) fun hy => by have := h.high x hy; omega
/-- A new disk. -/
theorem s_new (w : World) (n : Int) (h : 0 ≤ n) (h2 : n ≤ 16777216) :
    Calls Try.prog 6 #[.int .i64 n] w fun e w' => ∃ p, e = .returned (.tuple #[.pointer (some ⟨p, 0, none⟩), .int .i64 0]) ∧ Dses w w' p ⟨n, [], [], [], -1, false⟩ fun _ => False := by
  refine (Nw.new_any w n h h2).mono ?_
  rintro e w' ⟨p, rfl, hb, hf⟩
  exact ⟨p, rfl, _, hf, fun b hb => hb.2, fun b hb => hb.1, hb, fun x hx => hx.elim⟩
theorem calm_new (n : Int) : CalmD ⟨n, [], [], [], -1, false⟩ := ⟨rfl, rfl, rfl, rfl⟩
theorem left_new (n : Int) : LeftAt kw ⟨n, [], [], [], -1, false⟩ [] [] 0 := ⟨Nat.le_refl _, Nat.zero_le _, .inr ⟨rfl, rfl⟩⟩
theorem up_fuse {D : St} {X : Wx} {H : List ByteArray} (h : Up Rm kw D X H) (n : Int) : Up Rm kw (Sy.stFuse D n) X H := by
  unfold Sy.stFuse
  split
  · exact ⟨h.fault, h.cnt, h.size, rfl, h.loose, h.room, h.now, h.sure⟩
  · exact ⟨h.fault, h.cnt, h.size, h.still, h.loose, h.room, h.now, h.sure⟩
end Go.Proofs.Ytbjemekkpmbhhaa.Ss8
