/- The chapter's examples: the plain side. -/
import Derived.Test.YtaoneiicoaiehaaGreatGb11
import Derived.Test.YtaoneiicoaiehaaGreatSv11
import Derived.Test.YtaoneiicoaiehaaGreatLd11
import Derived.Test.YtaoneiicoaiehaaGreatDb2
namespace Go.Proofs.YtaoneiicoaiehaaGreat.Ap11
open Go Go.RowKit Go.Lib Go.Proofs.YtaoneiicoaiehaaGreat Go.Proofs.YtaoneiicoaiehaaGreat.Wm Go.Proofs.YtaoneiicoaiehaaGreat.Fl7 Go.Proofs.YtaoneiicoaiehaaGreat.Dh Go.Proofs.YtaoneiicoaiehaaGreat.Dk Go.Proofs.YtaoneiicoaiehaaGreat.Fm Go.Proofs.YtaoneiicoaiehaaGreat.Cl Go.Proofs.YtaoneiicoaiehaaGreat.Ch Go.Proofs.YtaoneiicoaiehaaGreat.Nm Go.Proofs.YtaoneiicoaiehaaGreat.St Go.Proofs.YtaoneiicoaiehaaGreat.Sy Go.Proofs.YtaoneiicoaiehaaGreat.Nu11 Go.Proofs.YtaoneiicoaiehaaGreat.Ma11 Go.Proofs.YtaoneiicoaiehaaGreat.Ck11 Go.Proofs.YtaoneiicoaiehaaGreat.Tx11 Go.Proofs.YtaoneiicoaiehaaGreat.Mn11 Go.Proofs.YtaoneiicoaiehaaGreat.Pg11 Go.Proofs.YtaoneiicoaiehaaGreat.Gb11 Go.Proofs.YtaoneiicoaiehaaGreat.Sv11 Go.Proofs.YtaoneiicoaiehaaGreat.Ld11
def kM : ByteArray := ⟨#[109]⟩
def kX : ByteArray := ⟨#[120]⟩
def kN : ByteArray := new_ kM
theorem kN_is : kN = ⟨#[109, 46, 110, 101, 119]⟩ := by decide
theorem okM : nameOk kM = true := by decide
theorem okX : nameOk kX = true := by decide
theorem okN : nameOk kN = true := by rw [kN_is]; decide
theorem neNM : kN ≠ kM := by rw [kN_is]; decide
theorem neXM : kM ≠ kX := by decide
theorem neXN : kN ≠ kX := by rw [kN_is]; decide
/-- Steps of a Save where nothing is amiss. -/
theorem drop_none {D : St} {k : ByteArray} (hs : D.still = false) (hk : nameOk k = true) (hg : Fm.get D.now k = none) : dropS D k = (0, D) := by
  have hr : stRemove D k = (3, D) := by
    unfold stRemove
    rw [if_neg (by rw [hs]; simp), if_neg (by rw [hk]; simp), hg]
  unfold dropS
  rw [hr, if_pos rfl]
theorem append_do {D : St} {k s : ByteArray} (hs : D.still = false) (hk : nameOk k = true) (hr : (used D.now : Int) + s.size ≤ D.room) : stAppend D k s = doing D (.app k s) := by
  unfold stAppend
  rw [if_neg (by rw [hs]; simp), if_neg (by rw [hk]; simp), if_neg (by omega)]
theorem rename_do {D : St} {j k : ByteArray} {t : List UInt8} (hs : D.still = false) (hj : nameOk j = true) (hk : nameOk k = true) (hne : j ≠ k) (hg : Fm.get D.now j = some t) : stRename D j k = doing D (.mov j k) := by
  unfold stRename
  rw [if_neg (by rw [hs]; simp), if_neg (by rw [hj, hk]; simp), if_neg hne, hg]
theorem doing_free {D : St} (c : Cmd) (hf : D.fuse = -1) : doing D c = (0, { D with now := c.run D.now, loose := D.loose ++ [c] }) := by
  have hb : burnt D = (0, D) := by unfold burnt; rw [if_pos hf]
  unfold doing
  rw [hb, if_pos rfl]
theorem doing_burns {D : St} (c : Cmd) (hf : 0 < D.fuse) : doing D c = (0, { D with now := c.run D.now, loose := D.loose ++ [c], fuse := D.fuse - 1 }) := by
  have hb : burnt D = (0, { D with fuse := D.fuse - 1 }) := by unfold burnt; rw [if_neg (by omega), if_neg (by omega)]
  unfold doing
  rw [hb, if_pos rfl]
theorem doing_out {D : St} (c : Cmd) (hf : D.fuse = 0) : doing D c = (20, { D with still := true }) := by
  have hb : burnt D = (20, { D with still := true }) := by unfold burnt; rw [if_neg (by omega), if_pos hf]
  unfold doing
  rw [hb, if_neg (by simp)]
theorem sync_free {D : St} (hs : D.still = false) (hf : D.fuse = -1) : stSync D = (0, { D with sure := D.now, loose := [] }) := by
  have hb : burnt D = (0, D) := by unfold burnt; rw [if_pos hf]
  unfold stSync
  rw [if_neg (by rw [hs]; simp), hb, if_pos rfl]
theorem sync_burns {D : St} (hs : D.still = false) (hf : 0 < D.fuse) : stSync D = (0, { D with sure := D.now, loose := [], fuse := D.fuse - 1 }) := by
  have hb : burnt D = (0, { D with fuse := D.fuse - 1 }) := by unfold burnt; rw [if_neg (by omega), if_neg (by omega)]
  unfold stSync
  rw [if_neg (by rw [hs]; simp), hb, if_pos rfl]
theorem follow_ok {f : St → Int × St} {l : List (St → Int × St)} {D D' : St} (h : f D = (0, D')) : Sv11.follow (f :: l) D = Sv11.follow l D' := by
  show (if (f D).1 = 0 then _ else _) = _
  rw [h, if_pos rfl]
theorem follow_bad {f : St → Int × St} {l : List (St → Int × St)} {D D' : St} {k : Int} (h : f D = (k, D')) (hk : k ≠ 0) : Sv11.follow (f :: l) D = (k, D') := by
  show (if (f D).1 = 0 then _ else _) = _
  rw [h, if_neg hk]
def m1 : Man := ⟨1, [], 2⟩
def m2 : Man := ⟨2, [], 3⟩
theorem may1 : may m1 = true := by decide
theorem may2 : may m2 = true := by decide
theorem fits1 : Fits m1 := ⟨by decide, by decide, fun n h => by cases h⟩
def D0 : St := ⟨1000, [], [], [], -1, false⟩
def D1 : St := ⟨1000, [(kM, by_ m1)], [(kM, by_ m1)], [], -1, false⟩
def D2 : St := ⟨1000, [(kM, by_ m1), (kN, by_ m2)], [(kM, by_ m1), (kN, by_ m2)], [], 0, true⟩
theorem len1 : (by_ m1).length = 36 := by rw [by_len]; rfl
theorem len2 : (by_ m2).length = 36 := by rw [by_len]; rfl
theorem save1 : saveS D0 kM m1 = (0, D1) := by
  unfold saveS
  rw [if_pos may1]
  show Sv11.follow (steps kN kM (bs (by_ m1))) D0 = _
  unfold steps
  rw [follow_ok (drop_none rfl okN rfl)]
  rw [follow_ok ((append_do rfl okN (by rw [bs_size, len1]; show (0 : Int) + 36 ≤ 1000; omega)).trans (doing_free _ rfl))]
  rw [follow_ok (sync_free rfl rfl)]
  have hn : (Cmd.app kN (bs (by_ m1))).run D0.now = [(kN, by_ m1)] := by
    show Fm.put [] kN (txt [] kN ++ (bs (by_ m1)).data.toList) = _
    rfl
  rw [follow_ok ((rename_do (t := by_ m1) rfl okN okM neNM (by show Fm.get ((Cmd.app kN (bs (by_ m1))).run D0.now) kN = _; rw [hn]; simp [Fm.get])).trans (doing_free _ rfl))]
  rw [follow_ok (sync_free rfl rfl)]
  have hm : (Cmd.mov kN kM).run ((Cmd.app kN (bs (by_ m1))).run D0.now) = [(kM, by_ m1)] := by
    rw [hn]
    show Fm.del (Fm.put [(kN, by_ m1)] kM (txt [(kN, by_ m1)] kN)) kN = _
    simp [Fm.put, Fm.del, txt, Fm.get, neNM]
  show ((0 : Int), _) = _
  unfold D1 D0 at *
  simp only [hm]
theorem save2 : saveS (stFuse D1 2) kM m2 = (20, D2) := by
  unfold saveS
  rw [if_pos may2]
  show Sv11.follow (steps kN kM (bs (by_ m2))) (stFuse D1 2) = _
  have hf : stFuse D1 2 = ⟨1000, [(kM, by_ m1)], [(kM, by_ m1)], [], 2, false⟩ := rfl
  rw [hf]
  unfold steps
  rw [follow_ok (drop_none rfl okN (by show Fm.get [(kM, by_ m1)] kN = none; simp [Fm.get, neNM.symm]))]
  rw [follow_ok ((append_do rfl okN (by rw [bs_size, len2]; show (((by_ m1).length + 0 : Nat) : Int) + 36 ≤ 1000; rw [len1]; omega)).trans (doing_burns _ (by show (0 : Int) < 2; omega)))]
  have hn : (Cmd.app kN (bs (by_ m2))).run [(kM, by_ m1)] = [(kM, by_ m1), (kN, by_ m2)] := by
    show Fm.put [(kM, by_ m1)] kN (txt [(kM, by_ m1)] kN ++ (bs (by_ m2)).data.toList) = _
    simp [Fm.put, txt, Fm.get, neNM.symm, bs_list]
  rw [follow_ok (sync_burns rfl (by show (0 : Int) < 2 - 1; omega))]
  rw [follow_bad ((rename_do (t := by_ m2) rfl okN okM neNM (by show Fm.get ((Cmd.app kN (bs (by_ m2))).run [(kM, by_ m1)]) kN = _; rw [hn]; simp [Fm.get, neNM.symm])).trans (doing_out _ rfl)) (by omega)]
  simp only [hn]
  rfl
def D3 : St := ⟨1000, [(kM, by_ m1), (kN, by_ m2)], [(kM, by_ m1), (kN, by_ m2)], [], -1, false⟩
theorem crash3 : stCrash D2 0 0 = D3 := rfl
theorem load1 : loadS D3 kM = (some m1, 0) := by
  have hr : stRead D3 kM 0 16777216 = (by_ m1, 0) := by
    unfold stRead
    rw [if_neg (by simp [D3]), if_neg (by rw [okM]; simp), if_neg (by omega)]
    have hg : Fm.get D3.now kM = some (by_ m1) := by simp [D3, Fm.get]
    rw [hg]
    show (((by_ m1).drop 0).take _, (0 : Int)) = _
    rw [List.drop_zero, List.take_of_length_le (by rw [len1]; decide)]
  unfold loadS
  rw [hr, if_pos rfl, got_by fits1 may1]
  rfl
theorem load2 : loadS D3 kX = (none, 3) := by
  have hr : stRead D3 kX 0 16777216 = ([], 3) := by
    unfold stRead
    rw [if_neg (by simp [D3]), if_neg (by rw [okX]; simp), if_neg (by omega)]
    have hg : Fm.get D3.now kX = none := by simp [D3, Fm.get, neXM, neXN]
    rw [hg]
  unfold loadS
  rw [hr, if_neg (by simp)]
theorem bad0 : may ⟨0, [], 0⟩ = false := by decide
end Go.Proofs.YtaoneiicoaiehaaGreat.Ap11
