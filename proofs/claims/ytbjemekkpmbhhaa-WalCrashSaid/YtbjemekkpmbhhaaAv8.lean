/- The law's own alive: the chapter's examples hold, in any world. -/
import Derived.Test.YtbjemekkpmbhhaaW8c
namespace Go.Proofs.Ytbjemekkpmbhhaa.Av8
open Go Go.RowKit Go.Lib Go.Proofs.Ytbjemekkpmbhhaa.Dh Go.Proofs.Ytbjemekkpmbhhaa.Fm Go.Proofs.Ytbjemekkpmbhhaa.Dk Go.Proofs.Ytbjemekkpmbhhaa.Nm Go.Proofs.Ytbjemekkpmbhhaa.St Go.Proofs.Ytbjemekkpmbhhaa.Fl7 Go.Proofs.Ytbjemekkpmbhhaa.Rs7 Go.Proofs.Ytbjemekkpmbhhaa.Wl8 Go.Proofs.Ytbjemekkpmbhhaa.Wa8 Go.Proofs.Ytbjemekkpmbhhaa.Wp8 Go.Proofs.Ytbjemekkpmbhhaa.Wr8 Go.Proofs.Ytbjemekkpmbhhaa.Pl8 Go.Proofs.Ytbjemekkpmbhhaa.Po8 Go.Proofs.Ytbjemekkpmbhhaa.Ss8
/-- No fuse: an Append is done. -/
theorem put_calm {D : St} {X : Wx} {H : List ByteArray} (h : Up 1000 kw D X H) (hf : D.fuse = -1) (L : List ByteArray) (hsz : Fl7.size (ll (H ++ L)) ≤ 500) :
    (walPut kw D X L.length (bs (frs (ll L)))).1 = 0 ∧ (walPut kw D X L.length (bs (frs (ll L)))).2.1.fuse = -1 ∧ Up 1000 kw (walPut kw D X L.length (bs (frs (ll L)))).2.1 (walPut kw D X L.length (bs (frs (ll L)))).2.2 (H ++ L) := by
  have hss := size_ll H L
  have hus := h.now.used
  rw [frs_len] at hus
  have hz : (bs (frs (ll L))).size = Fl7.size (ll L) := by rw [bs_size, frs_len]
  have hroom := h.room
  have hA : stAppend D kw (bs (frs (ll L))) = (0, { D with now := Cmd.run D.now (.app kw (bs (frs (ll L)))), loose := D.loose ++ [.app kw (bs (frs (ll L)))] }) := by
    unfold stAppend
    rw [if_neg (by rw [h.still]; decide), if_neg (by rw [kw_ok]; decide), if_neg]
    · exact doing_calm hf _
    · rintro ⟨_, hx⟩
      rw [hus, hz] at hx
      omega
  have hS : stSync (stAppend D kw (bs (frs (ll L)))).2 = (0, { D with now := Cmd.run D.now (.app kw (bs (frs (ll L)))), sure := Cmd.run D.now (.app kw (bs (frs (ll L)))), loose := [] }) := by
    rw [hA]
    exact sync_calm (D := { D with now := Cmd.run D.now (.app kw (bs (frs (ll L)))), loose := D.loose ++ [.app kw (bs (frs (ll L)))] }) h.still hf
  have hw : walPut kw D X L.length (bs (frs (ll L))) = (0, { D with now := Cmd.run D.now (.app kw (bs (frs (ll L)))), sure := Cmd.run D.now (.app kw (bs (frs (ll L)))), loose := [] }, ⟨X.cnt + L.length, X.size + (bs (frs (ll L))).size, X.fault⟩) := by
    unfold walPut
    rw [hS, hA]; rfl
  rcases put_out h kw_ok L (by omega) with hp | hp
  · refine ⟨hp.1, ?_, hp.2⟩
    rw [hw]; exact hf
  · rw [hw] at hp
    have h1 : (0 : Int) = 20 := hp.1
    omega
/-- A fuse of one call: it is appended, and not synced; and behind a crash of which five bytes are left the first records are there. -/
theorem put_one {D : St} {X : Wx} {H : List ByteArray} (h : Up 1000 kw D X H) (hf : D.fuse = 1) (L : List ByteArray) (hl : 5 ≤ Fl7.size (ll L)) (hsz : Fl7.size (ll (H ++ L)) ≤ 500) :
    (walPut kw D X L.length (bs (frs (ll L)))).1 = 20 ∧ (walPut kw D X L.length (bs (frs (ll L)))).2.2.fault = 20 ∧ (walPut kw D X L.length (bs (frs (ll L)))).2.1.loose.length ≤ 1000 ∧ (walPut kw D X L.length (bs (frs (ll L)))).2.1.room = D.room ∧
      LeftAt kw (stCrash (walPut kw D X L.length (bs (frs (ll L)))).2.1 0 5) H L (Fl7.size (ll H) + 5) := by
  have hss := size_ll H L
  have hus := h.now.used
  rw [frs_len] at hus
  have hz : (bs (frs (ll L))).size = Fl7.size (ll L) := by rw [bs_size, frs_len]
  have hroom := h.room
  have hA : stAppend D kw (bs (frs (ll L))) = (0, { D with fuse := 0, now := Cmd.run D.now (.app kw (bs (frs (ll L)))), loose := [.app kw (bs (frs (ll L)))] }) := by
    have hb : burnt D = (0, { D with fuse := 0 }) := by
      unfold burnt
      rw [if_neg (by rw [hf]; decide), if_neg (by rw [hf]; decide), hf]; rfl
    unfold stAppend
    rw [if_neg (by rw [h.still]; decide), if_neg (by rw [kw_ok]; decide), if_neg]
    · unfold doing
      rw [hb, if_pos rfl, h.loose]; rfl
    · rintro ⟨_, hx⟩
      rw [hus, hz] at hx
      omega
  have hS : stSync { D with fuse := 0, now := Cmd.run D.now (.app kw (bs (frs (ll L)))), loose := [.app kw (bs (frs (ll L)))] } = (20, { D with fuse := 0, now := Cmd.run D.now (.app kw (bs (frs (ll L)))), loose := [.app kw (bs (frs (ll L)))], still := true }) := by
    unfold stSync
    rw [if_neg (by show ¬ D.still = true; rw [h.still]; decide)]
    rfl
  have hw : walPut kw D X L.length (bs (frs (ll L))) = (20, { D with fuse := 0, now := Cmd.run D.now (.app kw (bs (frs (ll L)))), loose := [.app kw (bs (frs (ll L)))], still := true }, { X with fault := 20 }) := by
    unfold walPut
    rw [hA]
    dsimp only
    rw [hS]; rfl
  rw [hw]
  refine ⟨rfl, rfl, by simp, rfl, by omega, by omega, ?_⟩
  have e : crashed { D with fuse := 0, now := Cmd.run D.now (.app kw (bs (frs (ll L)))), loose := [.app kw (bs (frs (ll L)))], still := true } 0 5 = put D.sure kw ((frs (ll (H ++ L))).take (Fl7.size (ll H) + 5)) := by
    rw [Ca.crashed_torn _ 0 5 kw (bs (frs (ll L))) rfl (by decide)]
    show put D.sure kw (Fm.txt D.sure kw ++ (Cl.torn (bs (frs (ll L))) 5).data.toList) = _
    rw [torn_list, bs_list, h.sure, h.now.txt, ll_append, frs_append, List.take_append, frs_len, List.take_of_length_le (l := frs (ll H)) (by rw [frs_len]; omega), Nat.add_sub_cancel_left]
    have e5 : (min (5 : Int) ((bs (frs (ll L))).size : Int)).toNat = 5 := by rw [hz]; omega
    rw [e5]
  have hh := h.now.put ((frs (ll (H ++ L))).take (Fl7.size (ll H) + 5))
  rw [← h.sure, ← e] at hh
  exact hh
theorem reset_calm {D : St} {X : Wx} {H : List ByteArray} (h : Up 1000 kw D X H) (hf : D.fuse = -1) : (walReset kw D X).1 = 0 ∧ Up 1000 kw (walReset kw D X).2.1 (walReset kw D X).2.2 [] := by
  rcases reset_out h kw_ok with hp | hp
  · exact hp
  · exfalso
    have hR : stRemove D kw = match Fm.get D.now kw with | none => (3, D) | some _ => (0, { D with now := Cmd.run D.now (.rem kw), loose := D.loose ++ [.rem kw] }) := by
      unfold stRemove
      rw [if_neg (by rw [h.still]; decide), if_neg (by rw [kw_ok]; decide), doing_calm hf]
      rfl
    have h1 := hp.1
    unfold walReset remS at h1
    rcases h.now.get with hg | ⟨hg, _⟩
    · rw [hg] at hR
      dsimp only at hR
      rw [hR] at h1
      have hS := sync_calm (D := { D with now := Cmd.run D.now (.rem kw), loose := D.loose ++ [.rem kw] }) h.still hf
      dsimp only at h1
      rw [hS] at h1
      have h2 : (0 : Int) = 20 := h1
      omega
    · rw [hg] at hR
      dsimp only at hR
      rw [hR] at h1
      have h2 : (0 : Int) = 20 := h1
      omega
def la : List ByteArray := [⟨#[97]⟩]
def lb : List ByteArray := [⟨#[98]⟩]
theorem ses_one {w0 w : World} {p q : Nat} {D : St} {X : Wx} {Kp : Nat → Prop} (h : Ses w0 w p q D X Kp) (s : ByteArray) : Ses w0 (w.alloc (.cells #[.string s] 9)) p q D X Kp :=
  h.below ((Below.refl _ w).alloc (Nat.le_refl _) _)
set_option maxRecDepth 40000 in
set_option maxHeartbeats 4000000 in
theorem alive_any (w : World) :
    Calls Try.prog 5 #[] w fun e w' => e = .returned (.bool true) ∧ Below w.heap.size w w' := by
  have HN := Lib.hid (s_new w 1000 (by decide) (by decide))
  have za : Fl7.size (ll ([] ++ la)) ≤ 500 := by decide
  have zb : Fl7.size (ll ([] ++ la ++ lb)) ≤ 500 := by decide
  go_enter Try.func5, Try.ntmps5
  go_wp2_with fail
  refine HN.out.mono ?_
  rintro e w1 ⟨p, rfl, hd⟩
  have HO := Lib.hid (s_open (G := []) (P := []) hd (calm_new 1000) 0 (left_new 1000) (by decide) rfl)
  clear hd HN
  go_wp2_with fail
  refine HO.out.mono ?_
  rintro e w2 ⟨j, n, q, A, c, D1, rfl, _, _, _, hfu, hup, hses, _, _⟩
  simp only [List.append_nil, List.take_nil, List.length_nil] at hup hses ⊢
  have hses := ses_one (hses.fewer (Kp' := fun _ => False) fun x hx => hx.elim) ⟨#[97]⟩
  obtain ⟨a, ha⟩ : ∃ a, a = walPut kw D1 ⟨0, n, 0⟩ la.length (bs (frs (ll la))) := ⟨_, rfl⟩
  have hp := put_calm hup hfu la za
  have hA := s_append_some hses hup (some ⟨w2.heap.size, 0, none⟩) 1 la (Fp7.rds_one w2 _) (by decide) (by decide)
  rw [← ha] at hp hA
  rw [hp.1] at hA
  have HA := Lib.hid hA
  have HP := Lib.hid hp.2
  clear HO hp hses hup hfu hA ha
  go_wp2_with fail
  refine HA.out.mono ?_
  rintro e w3 ⟨rfl, hs3, _⟩
  have HF := Lib.hid (s_fuse hs3 1 (by decide))
  have hu3 := up_fuse HP.out.2 1
  have hf3 : (Sy.stFuse a.2.1 1).fuse = 1 := rfl
  obtain ⟨D3, hD3⟩ : ∃ D3, D3 = Sy.stFuse a.2.1 1 := ⟨_, rfl⟩
  rw [← hD3] at HF hu3 hf3
  have HU3 := Lib.hid (And.intro hu3 hf3)
  clear hs3 HA hu3 hf3 hD3
  go_wp2_with fail
  refine HF.out.mono ?_
  rintro e w4 ⟨rfl, hs4, _⟩
  have hs4 := ses_one hs4 ⟨#[98]⟩
  obtain ⟨hu3, hf3⟩ := HU3.out
  have hp := put_one hu3 hf3 lb (by decide) zb
  have hB := s_append_some hs4 hu3 (some ⟨w4.heap.size, 0, none⟩) 1 lb (Fp7.rds_one w4 _) (by decide) (by decide)
  have hr3 := hu3.room
  obtain ⟨b, hb⟩ : ∃ b, b = walPut kw D3 a.2.2 lb.length (bs (frs (ll lb))) := ⟨_, rfl⟩
  rw [← hb] at hp hB
  rw [hp.1] at hB
  have HB := Lib.hid hB
  have HP2 := Lib.hid hp.2
  have HR3 := Lib.hid hr3
  clear hp hB hs4 hu3 hf3 HU3 HF HP hb hr3
  go_wp2_with fail
  refine HB.out.mono ?_
  rintro e w5 ⟨rfl, hs5, _⟩
  have hF := fault_any hs5.blk
  rw [HP2.out.1] at hF
  have HF := Lib.hid hF
  have HS5 := Lib.hid hs5
  clear HB hF hs5
  go_wp2_with fail
  refine HF.out.mono ?_
  rintro e w6 ⟨rfl, rfl⟩
  have HC := Lib.hid (s_crash HS5.out 0 5 (by decide) (by decide) HP2.out.2.1)
  clear HF HS5
  go_wp2_with fail
  refine HC.out.mono ?_
  rintro e w7 ⟨rfl, hs7, _⟩
  obtain ⟨D7, hD7⟩ : ∃ D7, D7 = stCrash b.2.1 0 5 := ⟨_, rfl⟩
  have hl7 := HP2.out.2.2.2
  have hc7 := calm_crash b.2.1 0 5
  have hr7 : D7.room = 1000 := by
    have e1 : D7.room = b.2.1.room := by rw [hD7]; rfl
    rw [e1, HP2.out.2.2.1]
    exact HR3.out
  rw [← hD7] at hs7 hl7 hc7
  have HO := Lib.hid (s_open hs7.disk hc7 _ hl7 (by decide) hr7)
  clear hs7 hl7 hc7 hr7 hD7 HP2 HR3 HC
  go_wp2_with fail
  refine HO.out.mono ?_
  rintro e w8 ⟨j, m, q8, A8, c8, D8, rfl, hj1, hj2, hm, hfu, hup, hses, hown, _⟩
  have hj : j = 1 := by
    have e1 : ([] ++ la).length = 1 := rfl
    have e2 : ([] ++ la ++ lb).length = 2 := rfl
    rw [e1] at hj1
    rw [e2] at hj2
    rcases Nat.lt_or_ge j 2 with h | h
    · omega
    · exfalso
      have hj3 : j = 2 := by omega
      have h1 := hup.size
      rw [hj3] at h1
      have e3 : Fl7.size (ll (([] ++ la ++ lb).take 2)) = 26 := by decide
      have e4 : Fl7.size (ll ([] ++ la)) = 13 := by decide
      rw [e3] at h1
      rw [e4] at hm
      have h2 : m = 26 := h1
      omega
  subst hj
  have e5 : ([] ++ la ++ lb).take 1 = la := rfl
  rw [e5] at hup hses hown ⊢
  have hm13 : m = 13 := by
    have h1 : m = Fl7.size (ll la) := hup.size
    rw [h1]; decide
  subst hm13
  have HUP := Lib.hid (And.intro hup hfu)
  have HS8 := Lib.hid hses
  have HOW := Lib.hid hown
  clear hup hses hown HO hj1 hj2 hm hfu e5 za zb
  have hw9 : Below w8.heap.size w8 (w8.alloc (.cells #[.string ⟨#[97]⟩] 9)) := (Below.refl _ w8).alloc (Nat.le_refl _) _
  have hsm := same_any (w8.alloc (.cells #[.string ⟨#[97]⟩] 9)) A8 (some ⟨w8.heap.size, 0, none⟩) c8 1 la la (HOW.out.reads.keep (Nat.le_refl _) hw9) (Fp7.rds_one w8 _) (by decide) true (by simp)
  have HSM := Lib.hid hsm
  have HS9 := Lib.hid (HS8.out.below hw9)
  clear hsm hw9 HS8 HOW
  go_wp2_with fail
  refine HSM.out.mono ?_
  rintro e w10 ⟨rfl, hb⟩
  have HS10 := Lib.hid (HS9.out.below hb)
  have HL := Lib.hid (len_any HS10.out.blk)
  clear hb HS9 HSM
  go_wp2_with fail
  refine HL.out.mono ?_
  rintro e w11 ⟨rfl, rfl⟩
  have HZ := Lib.hid (size_any HS10.out.blk)
  clear HL
  go_wp2_with fail
  refine HZ.out.mono ?_
  rintro e w12 ⟨rfl, rfl⟩
  have hr := s_reset HS10.out HUP.out.1
  have hrc := reset_calm HUP.out.1 HUP.out.2
  obtain ⟨a, ha⟩ : ∃ a, a = walReset kw D8 ⟨la.length, 13, 0⟩ := ⟨_, rfl⟩
  rw [← ha] at hr hrc
  rw [hrc.1] at hr
  have HR := Lib.hid hr
  have hc0 := hrc.2.cnt
  have HC0 := Lib.hid hc0
  clear HZ hr hrc ha hc0 HS10 HUP
  go_wp2_with fail
  refine HR.out.mono ?_
  rintro e w13 ⟨rfl, hs13, _⟩
  have hL := len_any hs13.blk
  rw [HC0.out] at hL
  have HL := Lib.hid hL
  have HBW := Lib.hid hs13.disk
  clear hs13 hL HR HC0
  go_wp2_with fail
  refine HL.out.mono ?_
  rintro e w14 ⟨rfl, rfl⟩
  go_wp2
  go_ret
  obtain ⟨S, hS⟩ := HBW.out
  exact ⟨rfl, hS.below⟩
end Go.Proofs.Ytbjemekkpmbhhaa.Av8
