/- ManKeeps' walk. -/
import Derived.Test.YtaoneiicoaiehaaKm11
import Derived.Maps.AppendAt
import Derived.Deep.LoopGhost
import Derived.Deep.CutRange
import Derived.Deep.CutBlock
namespace Go.Proofs.Ytaoneiicoaiehaa.Kw11
open Go Go.RowKit Go.Lib Go.Proofs.Ytaoneiicoaiehaa Go.Proofs.Ytaoneiicoaiehaa.Wm Go.Proofs.Ytaoneiicoaiehaa.Fl7 Go.Proofs.Ytaoneiicoaiehaa.Dh Go.Proofs.Ytaoneiicoaiehaa.Dk Go.Proofs.Ytaoneiicoaiehaa.Fm Go.Proofs.Ytaoneiicoaiehaa.Cl Go.Proofs.Ytaoneiicoaiehaa.Bu Go.Proofs.Ytaoneiicoaiehaa.Ch Go.Proofs.Ytaoneiicoaiehaa.Nm Go.Proofs.Ytaoneiicoaiehaa.St Go.Proofs.Ytaoneiicoaiehaa.Sy Go.Proofs.Ytaoneiicoaiehaa.Nu11 Go.Proofs.Ytaoneiicoaiehaa.Ma11 Go.Proofs.Ytaoneiicoaiehaa.Ck11 Go.Proofs.Ytaoneiicoaiehaa.Tx11 Go.Proofs.Ytaoneiicoaiehaa.Mn11 Go.Proofs.Ytaoneiicoaiehaa.Pg11 Go.Proofs.Ytaoneiicoaiehaa.Gb11 Go.Proofs.Ytaoneiicoaiehaa.Sv11 Go.Proofs.Ytaoneiicoaiehaa.Ld11 Go.Proofs.Ytaoneiicoaiehaa.Ap11 Go.Proofs.Ytaoneiicoaiehaa.Sa11 Go.Proofs.Ytaoneiicoaiehaa.Av11 Go.Proofs.Ytaoneiicoaiehaa.Kp11 Go.Proofs.Ytaoneiicoaiehaa.Hv11 Go.Proofs.Ytaoneiicoaiehaa.Ro11 Go.Proofs.Ytaoneiicoaiehaa.Ks11 Go.Proofs.Ytaoneiicoaiehaa.Km11
theorem Stand.draw {w0 w w' : World} {S : Nat → Prop} {p b : Nat} {D : St} {hv : Sx} {V : Value} {ms : List Sx} (h : Stand w0 w S p b D hv V ms) (e1 : w'.os = w.os) (e2 : w'.tape = w.tape) (e3 : w'.output = w.output) (e4 : w'.heap = w.heap) : Stand w0 w' S p b D hv V ms :=
  h.below ⟨e1, e2, e3, by rw [e4]; exact Nat.le_refl _, fun _ _ => by rw [e4]⟩
theorem load_cases {w : World} {D : St} {e : Ending} {w' : World} (h : Loads w (loadS D kM) e w') {k : Int} (hk : loadS D kM = (none, k)) : e = .returned (.tuple #[zeroV, .int .i64 k]) ∧ Below w.heap.size w w' := by
  obtain ⟨hb, h⟩ := h
  rw [hk] at h
  rcases h with ⟨m, h1, _⟩ | ⟨k', h1, _, h2⟩
  · cases h1
  · injection h1 with _ h1; subst h1; exact ⟨h2, hb⟩
theorem load_some {w : World} {D : St} {e : Ending} {w' : World} (h : Loads w (loadS D kM) e w') {m : Man} (hk : loadS D kM = (some m, 0)) : ∃ A c, e = .returned (.tuple #[manV m A c, .int .i64 0]) ∧ Nums w' A m.runs ∧ Below w.heap.size w w' := by
  obtain ⟨hb, h⟩ := h
  rw [hk] at h
  rcases h with ⟨m', h1, A, c, h2, h3⟩ | ⟨k', h1, _⟩
  · injection h1 with h1 _; injection h1 with h1; subst h1; exact ⟨A, c, h2, h3.nums, hb⟩
  · cases h1
/-- What a call of the disk leaves of the step's box. -/
theorem box_call {w0 w w' : World} {S : Nat → Prop} {p b : Nat} {D D' : St} {hv : Sx} {V : Value} {ms : List Sx} (h : Stand w0 w S p b D hv V ms) (s : Sx) (ht : To S (w.alloc (stepO s)) w' p D') : w'.heap[w.heap.size]? = some (stepO s) :=
  (ht.1.block _ (by rw [size_alloc]; omega) (fun e => by have := h.hi _ e; omega)).trans (heap_new _ _)
set_option maxRecDepth 100000 in
set_option maxHeartbeats 16000000 in
theorem walk (hsort : Sorts) (w : World) (ao : Option Addr) (cap : Nat) (l : List Sx) (h : CameIn w ao l) :
    Calls Try.prog 4 #[.slice ao l.length cap] w fun e w' => e = .returned (.bool true) ∧ Below w.heap.size w w' := by
  obtain ⟨i0, hi, iz0, iz1, iz2⟩ := info_parts infoM
  have HH := Lib.hid (heavy_any h cap)
  have HN := Lib.hid (Nw.new_any w 65536 (by omega) (by omega))
  have HCI := Lib.hid h
  clear h
  go_enter Try.func4, Try.ntmps4
  go_wp2_with fail
  refine HH.out.mono ?_
  rintro e w1 ⟨⟨r, rfl, hr⟩, rfl⟩
  clear HH
  cases r with
  | true =>
    clear hr HN
    have HA := Lib.hid (alive_any hsort w1)
    go_wp2_with fail
    refine HA.out.mono ?_
    rintro e w2 ⟨rfl, hb⟩
    have HB := Lib.hid hb
    clear hb
    go_wp2
    go_ret
    exact ⟨rfl, HB.out⟩
  | false =>
    have HV := Lib.hid (hr rfl)
    clear hr
    go_wp2_with fail
    refine HN.out.mono ?_
    rintro e w2 ⟨p, rfl, hb2, hf2⟩
    have hst : Stand w1 (w2.alloc (manO s0)) (fun x => w1.heap.size ≤ x ∧ x < w2.heap.size) p w2.heap.size ⟨65536, [], [], [], -1, false⟩ s0 (.slice none 0 0) [] := by
      refine ⟨hb2.alloc hb2.size _, Full.frame hf2 (fun x _ hx => heap_alloc _ _ _ hx), fun x hx => hx.1, fun x hx => by rw [size_alloc]; have := hx.2; omega, heap_new _ _, fun hx => by have := hx.2; omega, hb2.size, row_nil _ _, fun x hx => by cases hx⟩
    have HS := Lib.hid hst
    clear hst hb2 hf2 HN
    go_wp2
    go_loopg [5, 7, 8, 9, 10, 11, 12, 13, 14] (l.length + 1) (fun g1 vs vm vi _ _ _ _ _ _ wr => ∃ (k : Nat) (sm : Bool) (S : Nat → Prop) (D : St) (hv : Sx) (ms : List Sx), vi = .int .i64 (k : Int) ∧ vs = .bool sm ∧ k ≤ l.length ∧ l.length + 1 - k ≤ g1 ∧ Hid (Stand w1 wr S p w2.heap.size D hv vm ms) ∧ Hid (Mind w1 k D sm hv ms))
    case atStart => exact ⟨0, false, _, _, s0, [], rfl, rfl, by omega, by omega, HS, Lib.hid (mind_new _ _)⟩
    case round =>
      obtain ⟨k, sm, S, D, hv, ms, rfl, rfl, hk, hg, HS1, HM⟩ := hrel
      clear HS
      obtain ⟨Am, cm, rfl⟩ := HS1.out.row.shape
      by_cases hlt : k < l.length
      · have hin := HCI.out
        have hsl : l[k] ∈ l := List.getElem_mem hlt
        have hsok := hin.ok _ hsl
        have hs20 := HV.out.2 _ hsl
        obtain ⟨b, o, rfl, hblt, hcs⟩ := hin.cells (fun e => by rw [e] at hlt; simp at hlt)
        have hcl := (hcs k hlt).keep hblt HS1.out.bel
        obtain ⟨s, hse⟩ : ∃ s, s = l[k] := ⟨_, rfl⟩
        rw [← hse] at hsok hs20 hcl
        obtain ⟨c0, c1, c2, c3, c4, c5⟩ := hcl
        have hl60 := HV.out.1
        have hil : (k : Int) < (l.length : Int) := by omega
        have hi0 : (0 : Int) ≤ (k : Int) := by omega
        have hz1 : decide ((k : Int) < (l.length : Int)) = true := decide_eq_true hil
        have HK := Lib.hid hsok
        have HMK : Hid (Mok w1 s) := Lib.hid ⟨hsok.man, hs20⟩
        have HS2 := Lib.hid (HS1.out.alloc (stepO s))
        clear hsl hsok hse hcs hin hs20
        go_upto_block 2 with fail
        go_cut [5, 7, 10] from 28 to 132 (fun s5 s7 _ wc => ∃ (sm2 : Bool) (S2 : Nat → Prop) (D2 : St) (hv2 : Sx) (ms2 : List Sx), s5 = .bool sm2 ∧ Hid (Stand w1 wc S2 p w2.heap.size D2 hv2 s7 ms2) ∧ Hid (Mind w1 (k + 1) D2 sm2 hv2 ms2))
        case first =>
          have hlo : D.loose.length ≤ 900000 := by have := HM.out.loose; omega
          by_cases h0 : s.o = 0
          · have e0 : (s.o == 0) = true := by rw [h0]; rfl
            have hc := save_any hsort HS2.out.full HS2.out.hi kM (by decide) hlo (HMK.out.man.keep (Nat.le_refl _) HS2.out.bel) (by have := HMK.out.len; omega)
            rcases mind_save HM.out s HMK.out with ⟨h1, hM⟩ | ⟨h1, hM⟩ | ⟨h1, hM⟩
            · rw [h1] at hc
              unfold manV at hc
              simp only [stepO] at hc
              have HC := Lib.hid hc
              have HM2 := Lib.hid hM
              clear hc hM h1 h0 hlo c0 c1 c2 c3 c4 c5
              go_wp2_with fail
              refine HC.out.mono ?_
              rintro e w3 ⟨rfl, ht⟩
              have hbx := box_call HS1.out s ht
              have x1 : w3.cell? ⟨wr.heap.size, 1, none⟩ = some (.int .u64 (s.m.wal : Int)) := by rw [cell_of hbx]; rfl
              have x2 : w3.cell? ⟨wr.heap.size, 2, none⟩ = some (.slice s.A s.m.runs.length s.c) := by rw [cell_of hbx]; rfl
              have x3 : w3.cell? ⟨wr.heap.size, 3, none⟩ = some (.int .u64 (s.m.next : Int)) := by rw [cell_of hbx]; rfl
              have hs3 := HS2.out.call ht
              have y0 : w3.cell? ⟨w2.heap.size, 0, none⟩ = some (.int .u64 (hv.m.wal : Int)) := by rw [cell_of hs3.box]; rfl
              have y1 : w3.cell? ⟨w2.heap.size, 1, none⟩ = some (.slice hv.A hv.m.runs.length hv.c) := by rw [cell_of hs3.box]; rfl
              have y2 : w3.cell? ⟨w2.heap.size, 2, none⟩ = some (.int .u64 (hv.m.next : Int)) := by rw [cell_of hs3.box]; rfl
              have f0 := free_of hs3.box 0
              have f1 := free_of hs3.box 1
              have f2 := free_of hs3.box 2
              have HS3 := Lib.hid (hs3.put s)
              clear hs3 hbx ht HC
              go_wp2
              go_meet
              case rel => exact ⟨true, _, _, s, [], rfl, HS3, HM2⟩
            · rw [h1] at hc
              unfold manV at hc
              simp only [stepO] at hc
              have HC := Lib.hid hc
              have HM2 := Lib.hid hM
              have hml : ms.length ≤ 60 := by have := HM.out.mlen; omega
              clear hc hM h1 h0 hlo c0 c1 c2 c3 c4 c5
              go_wp2_with fail
              refine HC.out.mono ?_
              rintro e w3 ⟨rfl, ht⟩
              have hbx := box_call HS1.out s ht
              have x1 : w3.cell? ⟨wr.heap.size, 1, none⟩ = some (.int .u64 (s.m.wal : Int)) := by rw [cell_of hbx]; rfl
              have x2 : w3.cell? ⟨wr.heap.size, 2, none⟩ = some (.slice s.A s.m.runs.length s.c) := by rw [cell_of hbx]; rfl
              have x3 : w3.cell? ⟨wr.heap.size, 3, none⟩ = some (.int .u64 (s.m.next : Int)) := by rw [cell_of hbx]; rfl
              have hs3 := HS2.out.call ht
              have HO := Lib.hid (hs3.alloc (manO s)).row
              have HN3 := Lib.hid (news3 w3 s)
              have H63 : Hid (ms.length + 1 ≤ maxLen) := Lib.hid (by unfold maxLen; omega)
              have HBY : Hid ((ms.length + 1) * 40 ≤ 140737488355328) := Lib.hid (by omega)
              have HBS := Lib.hid (hs3.alloc (manO s)).bel.size
              have HS3 := Lib.hid hs3
              clear hs3 hbx ht HC hml
              go_wp2_with (at_builtin; refine wpList_append_own_at _ rfl _ _ 41 rfl w1.heap.size 25 i0 _ 3 40 Try.underlying41 hi iz0 iz1 iz2 rfl (by decide) _ _ _ rfl HO.out ⟨w3.heap.size, 0, none⟩ 1 1 (cells3 s) rfl rfl HN3.out (one3 s) H63.out HBY.out HBS.out ?_; intro v3 w4 r1 r2 _ r4; have HR := Lib.hid (Stand.app HS3.out s r1 r2 (fun x hx => r4.elim (fun e => .inl (e ▸ hx)) (fun e => .inr (by rw [hx] at e; injection e with e; rw [e, size_alloc]; omega)))); clear r1 r2 r4)
              go_meet
              case rel => exact ⟨sm, _, _, hv, ms ++ [s], rfl, (by assumption), HM2⟩
            · have HM2 := Lib.hid hM
              rcases h1 with h1 | h1
              · rw [h1] at hc
                unfold manV at hc
                simp only [stepO] at hc
                have HC := Lib.hid hc
                clear hc hM h1 h0 hlo c0 c1 c2 c3 c4 c5
                go_wp2_with fail
                refine HC.out.mono ?_
                rintro e w3 ⟨rfl, ht⟩
                have HS3 := Lib.hid (HS2.out.call ht)
                clear ht HC
                go_wp2
                go_meet
                case rel => exact ⟨sm, _, _, hv, ms, rfl, HS3, HM2⟩
              · rw [h1] at hc
                unfold manV at hc
                simp only [stepO] at hc
                have HC := Lib.hid hc
                clear hc hM h1 h0 hlo c0 c1 c2 c3 c4 c5
                go_wp2_with fail
                refine HC.out.mono ?_
                rintro e w3 ⟨rfl, ht⟩
                have HS3 := Lib.hid (HS2.out.call ht)
                clear ht HC
                go_wp2
                go_meet
                case rel => exact ⟨sm, _, _, hv, ms, rfl, HS3, HM2⟩
          · have e0 : (s.o == 0) = false := by simpa using h0
            by_cases h2 : s.o = 2
            · have e2 : (s.o == 2) = true := by rw [h2]; rfl
              have hc := fuse_any HS2.out.full s.n HK.out.n.2
              simp only [stepO] at hc
              have HC := Lib.hid hc
              have HM2 := Lib.hid (mind_fuse HM.out s.n)
              clear hc h0 h2 hlo c0 c1 c2 c3 c4 c5
              go_wp2_with fail
              refine HC.out.mono ?_
              rintro e w3 ⟨rfl, ht⟩
              have HS3 := Lib.hid (HS2.out.call ht)
              clear ht HC
              go_wp2
              go_meet
              case rel => exact ⟨sm, _, _, hv, ms, rfl, HS3, HM2⟩
            · have e2 : (s.o == 2) = false := by simpa using h2
              by_cases h3 : s.o = 3
              · have e3 : (s.o == 3) = true := by rw [h3]; rfl
                have hc := Ca.crash_any HS2.out.full s.n s.k HK.out.n HK.out.k.2 (by omega)
                simp only [stepO] at hc
                have HC := Lib.hid hc
                have HM2 := Lib.hid (mind_crash HM.out s.n s.k)
                clear hc h0 h2 h3 hlo c0 c1 c2 c3 c4 c5
                go_wp2_with fail
                refine HC.out.mono ?_
                rintro e w3 ⟨rfl, ht⟩
                have HS3 := Lib.hid (HS2.out.call ht)
                clear ht HC
                go_wp2
                go_meet
                case rel => exact ⟨sm, _, _, hv, ms, rfl, HS3, HM2⟩
              · have e3 : (s.o == 3) = false := by simpa using h3
                by_cases h4 : s.o = 4
                · have e4 : (s.o == 4) = true := by rw [h4]; rfl
                  have hc := room_any HS2.out.full s.n
                  simp only [stepO] at hc
                  have HC := Lib.hid hc
                  have HM2 := Lib.hid (mind_room HM.out s.n)
                  clear hc h0 h2 h3 h4 hlo c0 c1 c2 c3 c4 c5
                  go_wp2_with fail
                  refine HC.out.mono ?_
                  rintro e w3 ⟨⟨q, rfl⟩, ht⟩
                  have HS3 := Lib.hid (HS2.out.call ht)
                  clear ht HC
                  go_wp2
                  go_meet
                  case rel => exact ⟨sm, _, _, hv, ms, rfl, HS3, HM2⟩
                · have e4 : (s.o == 4) = false := by simpa using h4
                  have HM2 := Lib.hid HM.out.next
                  clear h0 h2 h3 h4 hlo c0 c1 c2 c3 c4 c5
                  go_wp2
                  go_meet
                  case rel => exact ⟨sm, _, _, hv, ms, rfl, HS2, HM2⟩
        case rest =>
          obtain ⟨sm2, S2, D2, hv2, ms2, rfl, HS4, HM4⟩ := hcut
          obtain ⟨A2, k2, hsh⟩ := HS4.out.row.shape
          subst hsh
          clear HS1 HM HS2 HK HMK c0 c1 c2 c3 c4 c5
          have HL := Lib.hid (load_any hsort HS4.out.full kM (by decide))
          rcases mind_load HM4.out with h1 | ⟨h1, h2⟩ | ⟨m, h1, hm20, h2⟩
          · have H1 := Lib.hid h1
            clear h1
            go_wp2_with fail
            refine HL.out.mono ?_
            intro e w3 hld
            obtain ⟨rfl, hb3⟩ := load_cases hld H1.out
            have HS5 := Lib.hid ((HS4.out.below hb3).alloc (manO s0))
            unfold zeroV
            clear hld hb3 HL H1
            go_wp2
            go_roundg (l.length - k)
            case measure => omega
            case rel => exact ⟨k + 1, sm2, S2, D2, hv2, ms2, by first | rfl | go_num, rfl, by omega, by omega, HS5, HM4⟩
          · have H1 := Lib.hid h1
            subst h2
            have hml : ms2.length ≤ 60 := by have := HM4.out.mlen; omega
            clear h1
            go_wp2_with fail
            refine HL.out.mono ?_
            intro e w3 hld
            obtain ⟨rfl, hb3⟩ := load_cases hld H1.out
            have HS5 := Lib.hid ((HS4.out.below hb3).alloc (manO s0))
            unfold zeroV
            clear hld hb3 HL H1
            go_wp2
            go_loopg [13, 14] (ms2.length + 1) (fun g2 vb vj wx => ∃ j : Nat, vj = .int .i64 (j : Int) ∧ vb = .bool true ∧ j ≤ ms2.length ∧ ms2.length + 1 - j ≤ g2 ∧ Hid (Stand w1 wx S2 p w2.heap.size D2 hv2 (.slice A2 ms2.length k2) ms2))
            case atStart => exact ⟨0, rfl, rfl, by omega, by omega, HS5⟩
            case round =>
              obtain ⟨j, rfl, rfl, hj, hg2, HS6⟩ := hrel
              by_cases hjl : j < ms2.length
              · have hzj : decide ((j : Int) < (ms2.length : Int)) = true := decide_eq_true (by omega)
                go_wp2_with fail
                go_region
                all_goals go_wp2_with fail
                go_roundg (ms2.length - j)
                case measure => omega
                case rel => exact ⟨j + 1, by first | rfl | go_num, rfl, by omega, by omega, Lib.hid (Stand.draw HS6.out rfl rfl rfl rfl)⟩
              · obtain rfl : j = ms2.length := by omega
                go_wp2
                go_roundg (l.length - k)
                case measure => omega
                case rel => exact ⟨k + 1, false, S2, D2, hv2, ms2, by first | rfl | go_num, rfl, by omega, by omega, HS6, HM4⟩
          · have H1 := Lib.hid h1
            have H2 := Lib.hid h2
            have hml : ms2.length ≤ 60 := by have := HM4.out.mlen; omega
            clear h1 h2
            go_wp2_with fail
            refine HL.out.mono ?_
            intro e w3 hld
            obtain ⟨A3, c3, rfl, hnm, hb3⟩ := load_some hld H1.out
            have hs5 := (HS4.out.below hb3).alloc (manO ⟨0, m, A3, c3, 0, 0⟩)
            have hnm5 := hnm.keep (Nat.le_refl _) ((Below.refl w3.heap.size w3).alloc (Nat.le_refl _) (manO ⟨0, m, A3, c3, 0, 0⟩))
            have HS5 := Lib.hid hs5
            have HNM5 := Lib.hid hnm5
            have HBX5 := Lib.hid (heap_new w3 (manO ⟨0, m, A3, c3, 0, 0⟩))
            unfold manV
            clear hld hb3 HL H1 hs5 hnm hnm5
            go_upto_region 32 with fail
            go_cut [13] from 28 to 132 (fun s13 wc => ∃ b0 : Bool, s13 = .bool b0 ∧ Hid (b0 = (sm2 && same m hv2.m)) ∧ Hid (Stand w1 wc S2 p w2.heap.size D2 hv2 (.slice A2 ms2.length k2) ms2) ∧ Hid (wc.heap[w3.heap.size]? = some (manO ⟨0, m, A3, c3, 0, 0⟩)) ∧ Hid (Nums wc A3 m.runs))
            case first =>
              cases sm2 with
              | true =>
                have y0 : (w3.alloc (manO ⟨0, m, A3, c3, 0, 0⟩)).cell? ⟨w2.heap.size, 0, none⟩ = some (.int .u64 (hv2.m.wal : Int)) := by rw [cell_of HS5.out.box]; rfl
                have y1 : (w3.alloc (manO ⟨0, m, A3, c3, 0, 0⟩)).cell? ⟨w2.heap.size, 1, none⟩ = some (.slice hv2.A hv2.m.runs.length hv2.c) := by rw [cell_of HS5.out.box]; rfl
                have y2 : (w3.alloc (manO ⟨0, m, A3, c3, 0, 0⟩)).cell? ⟨w2.heap.size, 2, none⟩ = some (.int .u64 (hv2.m.next : Int)) := by rw [cell_of HS5.out.box]; rfl
                have hsm := same_any (w := w3.alloc (manO ⟨0, m, A3, c3, 0, 0⟩)) (a := m) (b := hv2.m) (A := A3) (A' := hv2.A) (c := c3) (c' := hv2.c) HNM5.out (HM4.out.hok.man.nums.keep (Nat.le_refl _) HS5.out.bel) (by omega) (by have := HM4.out.hok.len; omega)
                unfold manV at hsm
                simp only [manO] at hsm y0 y1 y2
                have HSM := Lib.hid hsm
                clear hsm
                go_wp2_with fail
                refine HSM.out.mono ?_
                rintro e w5 ⟨rfl, hb5⟩
                have HS6 := Lib.hid (HS5.out.below hb5)
                have HBX6 := Lib.hid ((hb5.block _ (lt_of_at HBX5.out)).trans HBX5.out)
                have HNM6 := Lib.hid (HNM5.out.keep (Nat.le_refl _) hb5)
                clear hb5 y0 y1 y2 HSM
                go_wp2
                go_meet
                case rel => exact ⟨same m hv2.m, rfl, Lib.hid (Bool.true_and _).symm, HS6, HBX6, HNM6⟩
              | false =>
                go_wp2
                go_meet
                case rel => exact ⟨false, rfl, Lib.hid rfl, HS5, HBX5, HNM5⟩
            case rest =>
              obtain ⟨b0, rfl, HB0, HS6, HBX6, HNM6⟩ := hcut
              clear HS5 HBX5 HNM5 HS4
              go_wp2
              go_loopg [13, 14] (ms2.length + 1) (fun g2 vb vj wx => ∃ (j : Nat) (bb : Bool), vj = .int .i64 (j : Int) ∧ vb = .bool bb ∧ j ≤ ms2.length ∧ ms2.length + 1 - j ≤ g2 ∧ Hid (bb = (b0 || (ms2.take j).any fun y => same m y.m)) ∧ Hid (Stand w1 wx S2 p w2.heap.size D2 hv2 (.slice A2 ms2.length k2) ms2) ∧ Hid (wx.heap[w3.heap.size]? = some (manO ⟨0, m, A3, c3, 0, 0⟩)) ∧ Hid (Nums wx A3 m.runs))
              case atStart => exact ⟨0, b0, rfl, rfl, by omega, by omega, Lib.hid (by rw [List.take_zero]; exact (Bool.or_false _).symm), HS6, HBX6, HNM6⟩
              case round =>
                obtain ⟨j, bb, rfl, rfl, hj, hg2, HB, HS7, HBX7, HNM7⟩ := hrel
                clear HS6 HBX6 HNM6
                by_cases hjl : j < ms2.length
                · have hzj : decide ((j : Int) < (ms2.length : Int)) = true := decide_eq_true (by omega)
                  have hjl2 : (j : Int) < (ms2.length : Int) := by omega
                  have hj0 : (0 : Int) ≤ (j : Int) := by omega
                  have hany : ((b0 || (ms2.take (j + 1)).any fun y => same m y.m)) = (bb || same m ms2[j].m) := by
                    rw [List.take_succ_eq_append_getElem hjl, List.any_append, HB.out, Bool.or_assoc]; simp
                  cases bb with
                  | true =>
                    have HAN : Hid (true = (b0 || (ms2.take (j + 1)).any fun y => same m y.m)) := Lib.hid (by rw [hany]; rfl)
                    clear hany
                    go_wp2_with fail
                    go_region
                    all_goals go_wp2_with fail
                    go_roundg (ms2.length - j)
                    case measure => omega
                    case rel => exact ⟨j + 1, true, by first | rfl | go_num, rfl, by omega, by omega, HAN, Lib.hid (Stand.draw HS7.out rfl rfl rfl rfl), HBX7, HNM7⟩
                  | false =>
                    obtain ⟨G, cg, hsh, _, _, _⟩ := HS7.out.row.cell hjl
                    obtain rfl : A2 = some ⟨G, 0, none⟩ := by injection hsh
                    clear hsh
                    have hy := (HM4.out.mok _ (List.getElem_mem hjl)).1
                    have hq : ∀ W, Below wr.heap.size wr W → (W.cell? ⟨w3.heap.size, 0, none⟩ = some (.int .u64 (m.wal : Int)) ∧ W.cell? ⟨w3.heap.size, 1, none⟩ = some (.slice A3 m.runs.length c3) ∧ W.cell? ⟨w3.heap.size, 2, none⟩ = some (.int .u64 (m.next : Int))) ∧
                        W.cell? ⟨G, j * 3, none⟩ = some (.int .u64 (ms2[j].m.wal : Int)) ∧ W.cell? ⟨G, j * 3 + 1, none⟩ = some (.slice ms2[j].A ms2[j].m.runs.length ms2[j].c) ∧ W.cell? ⟨G, j * 3 + 2, none⟩ = some (.int .u64 (ms2[j].m.next : Int)) := fun W hW => by
                      have hbx := (hW.block _ (lt_of_at HBX7.out)).trans HBX7.out
                      obtain ⟨G', cg', e', r0, r1, r2⟩ := (HS7.out.below hW).row.cell hjl
                      injection e' with e' _ _
                      injection e' with e'
                      injection e' with e' _ _
                      subst e'
                      exact ⟨⟨by rw [cell_of hbx]; rfl, by rw [cell_of hbx]; rfl, by rw [cell_of hbx]; rfl⟩, r0, r1, r2⟩
                    have hsm : ∀ W, Below wr.heap.size wr W → Calls Try.prog 13 #[manV m A3 c3, manV ms2[j].m ms2[j].A ms2[j].c] W fun e w' => e = .returned (.bool (same m ms2[j].m)) ∧ Below W.heap.size W w' := fun W hW =>
                      same_any (HNM7.out.keep (Nat.le_refl _) hW) (hy.man.nums.keep (Nat.le_refl _) (HS7.out.below hW).bel) (by omega) (by have := hy.len; omega)
                    unfold manV at hsm
                    have HAN : Hid (same m ms2[j].m = (b0 || (ms2.take (j + 1)).any fun y => same m y.m)) := Lib.hid (by rw [hany]; rfl)
                    generalize ms2[j] = y at hq hsm HAN
                    have HQ := Lib.hid hq
                    have HSM := Lib.hid hsm
                    clear hany hy hq hsm
                    go_wp2_with fail
                    go_region_held3 (fun W => (W.cell? ⟨w3.heap.size, 0, none⟩ = some (.int .u64 (m.wal : Int)) ∧ W.cell? ⟨w3.heap.size, 1, none⟩ = some (.slice A3 m.runs.length c3) ∧ W.cell? ⟨w3.heap.size, 2, none⟩ = some (.int .u64 (m.next : Int))) ∧
                        W.cell? ⟨G, j * 3, none⟩ = some (.int .u64 (y.m.wal : Int)) ∧ W.cell? ⟨G, j * 3 + 1, none⟩ = some (.slice y.A y.m.runs.length y.c) ∧ W.cell? ⟨G, j * 3 + 2, none⟩ = some (.int .u64 (y.m.next : Int)))
                      (first | exact HQ.out _ (by assumption : Hid (Below _ _ _)).out | exact HQ.out _ ((Below.refl _ wr).drew))
                      (first
                        | (go_at_call 13; (with_reducible refine (HSM.out _ ((Below.refl _ wr).drew)).mono ?_); rintro e w5 ⟨rfl, hb5⟩; have HB5 := Lib.hid (((Below.refl _ wr).drew).trans hb5); clear hb5))
                    all_goals go_wp2
                    go_roundg (ms2.length - j)
                    case measure => omega
                    case rel => exact ⟨j + 1, _, by first | rfl | go_num, rfl, by omega, by omega, HAN, Lib.hid (HS7.out.below (by assumption : Hid (Below _ _ _)).out), Lib.hid (((by assumption : Hid (Below _ _ _)).out.block _ (lt_of_at HBX7.out)).trans HBX7.out), Lib.hid (HNM7.out.keep (Nat.le_refl _) (by assumption : Hid (Below _ _ _)).out)⟩
                · obtain rfl : j = ms2.length := by omega
                  have htrue : bb = true := by
                    rw [HB.out, List.take_length, HB0.out]
                    rcases H2.out with ⟨rfl, rfl⟩ | ⟨y, hy, rfl⟩
                    · rw [same_self]; rfl
                    · rw [List.any_eq_true.2 ⟨y, hy, same_self _⟩, Bool.or_true]
                  subst htrue
                  go_wp2
                  go_roundg (l.length - k)
                  case measure => omega
                  case rel => exact ⟨k + 1, sm2, S2, D2, hv2, ms2, by first | rfl | go_num, rfl, by omega, by omega, HS7, HM4⟩
      · have HB := Lib.hid HS1.out.bel
        have HA := Lib.hid (alive_any hsort wr)
        have hge : ¬ (k : Int) < (l.length : Int) := by omega
        clear HS1 HM
        go_wp2_with fail
        refine HA.out.mono ?_
        rintro e w3 ⟨rfl, hb⟩
        have HB2 := Lib.hid (HB.out.trans (hb.mono HB.out.size))
        clear hb HA
        go_wp2
        go_ret
        exact ⟨rfl, HB2.out⟩
end Go.Proofs.Ytaoneiicoaiehaa.Kw11
