/- A disk's state, and what each call of it answers and leaves: the plain side. -/
import Derived.Test.YtbjemekkpmbhhaaFc
namespace Go.Proofs.Ytbjemekkpmbhhaa.St
open Go Go.RowKit Go.Lib Go.Proofs.Ytbjemekkpmbhhaa.Mp Go.Proofs.Ytbjemekkpmbhhaa.Dh Go.Proofs.Ytbjemekkpmbhhaa.Fm Go.Proofs.Ytbjemekkpmbhhaa.Dk Go.Proofs.Ytbjemekkpmbhhaa.Cl Go.Proofs.Ytbjemekkpmbhhaa.Bu Go.Proofs.Ytbjemekkpmbhhaa.Ch Go.Proofs.Ytbjemekkpmbhhaa.La Go.Proofs.Ytbjemekkpmbhhaa.Co Go.Proofs.Ytbjemekkpmbhhaa.Nm
structure St where
  room : Int
  now : Fs
  sure : Fs
  loose : List Cmd
  fuse : Int
  still : Bool
structure Good (D : St) : Prop where
  oks : oks D.sure D.loose
  runs : runs D.sure D.loose = D.now
  used : used D.sure ≤ 16777216
  room : 0 ≤ D.room ∧ D.room ≤ 16777216
  fuse : -1 ≤ D.fuse ∧ D.fuse ≤ 9223372036854775807
theorem Good.now {D : St} (h : Good D) : Fm.used D.now ≤ 16777216 := by rw [← h.runs]; exact runs_used _ _ h.oks h.used
def Full (w : World) (S : Nat → Prop) (p : Nat) (D : St) : Prop :=
  ∃ d, DskAt w S p d ∧ LooseAt w S d.lv D.loose ∧ d.room = D.room ∧ view d.es1 = D.now ∧ view d.es2 = D.sure ∧ d.fuse = D.fuse ∧ d.still = D.still ∧ Good D
/-- What a call leaves: it touches its own blocks and new ones alone. -/
def To (S : Nat → Prop) (w w' : World) (p : Nat) (D' : St) : Prop := Tread S w w' ∧ Full w' (grow S w w') p D'
theorem Full.up {w : World} {S S' : Nat → Prop} {p : Nat} {D : St} (h : Full w S p D) (hs : ∀ b, S b → S' b) : Full w S' p D := by
  obtain ⟨d, h1, h2, h3⟩ := h
  exact ⟨d, DskAt.up h1 hs, LooseAt.keep h2 fun _ _ _ ha => ha.up hs, h3⟩
theorem Full.frame {w w' : World} {S : Nat → Prop} {p : Nat} {D : St} (h : Full w S p D) (hb : ∀ b, S b → b < w.heap.size → w'.heap[b]? = w.heap[b]?) : Full w' S p D := by
  obtain ⟨d, h1, h2, h3⟩ := h
  have hk : ∀ b o, At w S b o → At w' S b o := fun b o ha => ⟨ha.1, by rw [hb b ha.1 (lt_of_at ha.2)]; exact ha.2⟩
  exact ⟨d, ⟨hk _ _ h1.blk, hk _ _ h1.now, hk _ _ h1.sure, h1.ne, h1.wf1, h1.wf2, h1.texts.keep fun b o _ ha => hk b o ha⟩, LooseAt.keep h2 fun b o _ ha => hk b o ha, h3⟩
theorem Full.drew {w : World} {S : Nat → Prop} {p : Nat} {D : St} (h : Full w S p D) : Full w.drew S p D := Full.frame h fun _ _ _ => rfl
theorem To.refl {w : World} {S : Nat → Prop} {p : Nat} {D : St} (h : Full w S p D) : To S w w p D := ⟨Tread.refl S w, h.up grow_up⟩
theorem To.trans {S : Nat → Prop} {a b c : World} {p : Nat} {D1 D2 : St} (h : To S a b p D1) (k : To (grow S a b) b c p D2) : To S a c p D2 :=
  ⟨h.1.trans k.1, Full.up k.2 (grow_grow h.1.size k.1.size)⟩
theorem To.drew {S : Nat → Prop} {w w1 : World} {p : Nat} {D : St} (h : To S w w1 p D) : To S w w1.drew p D := ⟨h.1.drew, Full.drew h.2⟩
theorem To.of_drew {S : Nat → Prop} {w w1 : World} {p : Nat} {D : St} (h : To S w.drew w1 p D) : To S w w1 p D := ⟨h.1.of_drew, h.2⟩
theorem To.alloc {w : World} {S : Nat → Prop} {p : Nat} {D : St} (h : Full w S p D) (o : Obj) : To S w (w.alloc o) p D := by
  refine ⟨Tread.alloc S w o, ?_⟩
  refine Full.up (Full.frame h fun b _ hb => heap_alloc w o b hb) grow_up
/-- The fuse burns. -/
def burnt (D : St) : Int × St := if D.fuse = -1 then (0, D) else if D.fuse = 0 then (20, { D with still := true }) else (0, { D with fuse := D.fuse - 1 })
def doing (D : St) (c : Cmd) : Int × St :=
  if (burnt D).1 = 0 then (0, { (burnt D).2 with now := c.run D.now, loose := D.loose ++ [c] }) else burnt D
def stAppend (D : St) (k s : ByteArray) : Int × St :=
  if D.still then (20, D) else if nameOk k = false then (2, D) else if s.size ≠ 0 ∧ D.room < used D.now + s.size then (4, D) else doing D (.app k s)
def stTruncate (D : St) (k : ByteArray) (n : Int) : Int × St :=
  if D.still then (20, D) else if nameOk k = false then (2, D) else if n < 0 then (2, D) else
    match get D.now k with
    | none => (3, D)
    | some t => if (t.length : Int) < n then (2, D) else doing D (.cut k n.toNat)
def stRename (D : St) (j k : ByteArray) : Int × St :=
  if D.still then (20, D) else if nameOk j = false ∨ nameOk k = false then (2, D) else if j = k then (2, D) else
    match get D.now j with
    | none => (3, D)
    | some _ => doing D (.mov j k)
def stRemove (D : St) (k : ByteArray) : Int × St :=
  if D.still then (20, D) else if nameOk k = false then (2, D) else
    match get D.now k with
    | none => (3, D)
    | some _ => doing D (.rem k)
def stSync (D : St) : Int × St :=
  if D.still then (20, D) else if (burnt D).1 = 0 then (0, { (burnt D).2 with sure := D.now, loose := [] }) else burnt D
def keeps (D : St) (keep : Int) : Nat := (min (max keep 0) D.loose.length).toNat
/-- What is sure behind a crash. -/
def crashed (D : St) (keep t : Int) : Fs :=
  match D.loose[keeps D keep]? with
  | some (.app k s) => if 0 < t then Cmd.run (runs D.sure (D.loose.take (keeps D keep))) (.app k (torn s t)) else runs D.sure (D.loose.take (keeps D keep))
  | _ => runs D.sure (D.loose.take (keeps D keep))
def stCrash (D : St) (keep t : Int) : St := { D with now := crashed D keep t, sure := crashed D keep t, loose := [], fuse := -1, still := false }
/-- What a Read answers. -/
def stRead (D : St) (k : ByteArray) (o n : Int) : List UInt8 × Int :=
  if D.still then ([], 20) else if nameOk k = false then ([], 2) else if o < 0 ∨ n < 0 then ([], 2) else
    match get D.now k with
    | none => ([], 3)
    | some t => ((t.drop o.toNat).take n.toNat, 0)
theorem burnt_is (d : Dsk) (D : St) (hf : d.fuse = D.fuse) : (burn d).1 = (burnt D).1 := by
  unfold burn burnt
  rw [hf]
  split
  · rfl
  · split <;> rfl
theorem burn_full {d : Dsk} {D : St} (h1 : d.room = D.room) (h4 : d.fuse = D.fuse) (h5 : d.still = D.still) :
    (burn d).1 = (burnt D).1 ∧ (burn d).2.room = (burnt D).2.room ∧ (burn d).2.fuse = (burnt D).2.fuse ∧ (burn d).2.still = (burnt D).2.still ∧ (burn d).2.es1 = d.es1 ∧ (burn d).2.es2 = d.es2 ∧ (burn d).2.lv = d.lv ∧
      (burnt D).2.now = D.now ∧ (burnt D).2.sure = D.sure ∧ (burnt D).2.loose = D.loose ∧ (burnt D).2.room = D.room := by
  unfold burn burnt
  rw [h4]
  split
  · exact ⟨rfl, h1, h4, h5, rfl, rfl, rfl, rfl, rfl, rfl, rfl⟩
  · split
    · exact ⟨rfl, h1, rfl, rfl, rfl, rfl, rfl, rfl, rfl, rfl, rfl⟩
    · exact ⟨rfl, h1, rfl, h5, rfl, rfl, rfl, rfl, rfl, rfl, rfl⟩
theorem burnt_fuse {D : St} (h : -1 ≤ D.fuse ∧ D.fuse ≤ 9223372036854775807) : -1 ≤ (burnt D).2.fuse ∧ (burnt D).2.fuse ≤ 9223372036854775807 := by
  unfold burnt
  split
  · exact h
  · split
    · exact h
    · show -1 ≤ D.fuse - 1 ∧ D.fuse - 1 ≤ 9223372036854775807; omega
theorem burnt_or (D : St) : (burnt D).1 = 0 ∨ (burnt D).1 = 20 := by
  unfold burnt
  split
  · exact .inl rfl
  · split
    · exact .inr rfl
    · exact .inl rfl
theorem Good.burnt {D : St} (h : Good D) : Good (burnt D).2 := by
  have hf := burnt_fuse h.fuse
  obtain ⟨_, _, _, _, _, _, _, e1, e2, e3, e4⟩ := burn_full (d := ⟨D.room, 0, [], 0, 0, [], 0, .nilFunc, D.fuse, D.still⟩) (D := D) rfl rfl rfl
  exact ⟨by rw [e2, e3]; exact h.oks, by rw [e2, e3, e1]; exact h.runs, by rw [e2]; exact h.used, by rw [e4]; exact h.room, hf⟩
theorem change_full {S : Nat → Prop} {w : World} {p : Nat} {D : St} (h : Full w S p D) (c : Cmd) (dv tv : Value) (hc : CmdAt w S dv tv c) (hok : Cmd.ok D.now c) (hlen : D.loose.length ≤ 1099511627776) :
    Calls Try.prog 41 #[.pointer (some ⟨p, 0, none⟩), .agg #[dv, tv]] w fun e w' => e = .returned (.int .i64 (doing D c).1) ∧ To S w w' p (doing D c).2 := by
  obtain ⟨d, h1, h2, h3, h4, h5, h6, h7, h8⟩ := h
  obtain ⟨b1, b2, b3, b4, b5, b6, b7, b8, b9, b10, b11⟩ := burn_full h3 h6 h7
  have hgb := Good.burnt h8
  have hf : -1 ≤ d.fuse ∧ d.fuse ≤ 9223372036854775807 := by rw [h6]; exact h8.fuse
  have hu : used (view d.es1) ≤ 16777216 := by rw [h4]; exact h8.now
  rcases burnt_or D with hb | hb
  · refine (change_ok h1 hf dv tv (b1.trans hb) c hc (by rw [h4]; exact hok) hu D.loose h2 hlen).mono ?_
    rintro e w' ⟨rfl, es', c', v', hv, hl⟩
    unfold doing
    rw [if_pos hb]
    refine ⟨rfl, hl.tread, _, hl.at_, hl.loose, b2, ?_, ?_, b3, b4, ?_⟩
    · rw [hv, h4]
    · show view (burn d).2.es2 = (burnt D).2.sure
      rw [b6, h5, b9]
    · refine ⟨?_, ?_, hgb.used, hgb.room, hgb.fuse⟩
      · show oks (burnt D).2.sure (D.loose ++ [c])
        rw [b9]; exact oks_snoc c _ _ h8.oks (by rw [h8.runs]; exact hok)
      · show runs (burnt D).2.sure (D.loose ++ [c]) = c.run D.now
        rw [b9, runs_snoc, h8.runs]
  · refine (change_down h1 hf dv tv (b1.trans hb)).mono ?_
    rintro e w' ⟨rfl, hr⟩
    unfold doing
    rw [if_neg (by rw [hb]; decide), hb]
    refine ⟨rfl, hr.tread, _, hr.at_, ?_, b2, ?_, ?_, b3, b4, hgb⟩
    · rw [b7, b10]; exact LooseAt.keep h2 (Ch.Ran.keepPlain hr)
    · rw [b5, h4, b8]
    · rw [b6, h5, b9]
end Go.Proofs.Ytbjemekkpmbhhaa.St
