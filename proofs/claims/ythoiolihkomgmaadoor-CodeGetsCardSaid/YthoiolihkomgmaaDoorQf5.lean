/- The document's own bytes (package fascicleref05): Num, Put, PutRow. -/
import Derived.Test.YthoiolihkomgmaaDoorPw5
namespace Go.Proofs.YthoiolihkomgmaaDoor.Qf5
open Go Go.RowKit Go.Proofs Go.Proofs.YthoiolihkomgmaaDoor.Wm Go.Proofs.YthoiolihkomgmaaDoor.Vm Go.Proofs.YthoiolihkomgmaaDoor.Vr Go.Proofs.YthoiolihkomgmaaDoor.Vs Go.Proofs.YthoiolihkomgmaaDoor.Vc Go.Proofs.YthoiolihkomgmaaDoor.Cm Go.Proofs.YthoiolihkomgmaaDoor.Pu5 Go.Proofs.YthoiolihkomgmaaDoor.Pv5 Go.Proofs.YthoiolihkomgmaaDoor.Pw5
def cells (l : List UInt8) : List Value := l.map fun b => Value.int .u8 (b.toNat : Int)
theorem byte_mod (V : Nat) : (V : Int) % 256 = ((UInt8.ofNat (V % 256)).toNat : Int) := by
  simp only [UInt8.toNat_ofNat']
  omega
theorem putN_snoc : ∀ (k V : Nat), putN V (k + 1) = putN V k ++ [UInt8.ofNat (V / 256 ^ k % 256)]
  | 0, V => by simp [putN]
  | k + 1, V => by
    show UInt8.ofNat (V % 256) :: putN (V / 256) (k + 1) = UInt8.ofNat (V % 256) :: putN (V / 256) k ++ _
    rw [putN_snoc k (V / 256), Nat.div_div_eq_div_mul, ← Nat.pow_succ']
    rfl
theorem own_text {w : World} {B : Nat} {v : Value} {V : Nat} (h : w.ownsRow B 5 1 v 8 (cells (putN V 8))) (hB : B ≤ w.heap.size) : (convert 46 9 v).run Tryd.prog w = .ok (.string (bs (putN V 8))) w := by
  have h' : w.ownsRow B 5 1 v (putN V 8).length (Lib.strCells (bs (putN V 8))) := by rw [putN_length]; exact h
  have hbuf : Buf w B v (putN V 8) := ⟨h', hB⟩
  exact hbuf.text (by simp [putN])
theorem num_any (V : Nat) (w : World) (hV : V < 18446744073709551616) :
    Calls Tryd.prog 27 #[.int .u64 (V : Int), .int .i64 8] w fun e w' => e = .returned (.string (bs (putN V 8))) ∧ Below w.heap.size w w' := by
  obtain ⟨i0, hi, hz0, hz1, hz2⟩ := info_parts WPut.infoE
  have HV := Lib.hid hV
  clear hV
  go_enter Tryd.func27, Tryd.ntmps27
  go_wp2
  go_loopw [0, 5, 6, 7, 8, 9, 10, 11, 12, 13, 14, 15, 16, 17, 18, 19] (fun x b j _ _ _ _ _ _ _ _ _ _ _ _ _ wr => ∃ k : Nat, k ≤ 8 ∧ j = .int .i64 k ∧ x = .int .u64 ((V / 256 ^ k : Nat) : Int) ∧ wr.ownsRow w.heap.size 5 1 b k (cells (putN V k)) ∧ Below w.heap.size w wr) (fun _ _ j _ _ _ _ _ _ _ _ _ _ _ _ _ _ => 8 - (intOf j).toNat)
  case atStart => exact ⟨0, by omega, rfl, by simp, World.ownsRow_nil _ _ _ _, Below.refl _ _⟩
  case round =>
    obtain ⟨k, hk, rfl, rfl, hown, hb⟩ := hrel
    have hq : V / 256 ^ k < 18446744073709551616 := Nat.lt_of_le_of_lt (Nat.div_le_self _ _) HV.out
    by_cases hlt : k < 8
    · obtain ⟨q, hqe⟩ : ∃ q, q = V / 256 ^ k := ⟨_, rfl⟩
      rw [← hqe] at hq ⊢
      have HQ := Lib.hid hqe
      clear hqe
      have hsz := hb.size
      go_wp2_with (at_builtin; refine wpList_append_own _ rfl _ _ 46 rfl w.heap.size 5 i0 (.int .u8 0) 1 1 WPut.undL hi hz0 hz1 hz2 rfl (by decide) _ k _ rfl (hown.alloc _) ⟨wr.heap.size, 0, none⟩ 1 1 [.int .u8 ((UInt8.ofNat (q % 256)).toNat : Int)] rfl rfl ?c1 ?c2 ?c3 ?c4 ?c5 ?_)
      case c1 =>
        intro j u hj
        cases j with
        | zero =>
          simp only [List.getElem?_cons_zero, Option.some.injEq] at hj
          rw [← hj, ← byte_mod, WPut.addr_add, cell_of_row _ _ _ _ _ _ (heap_alloc_new wr _)]
          rfl
        | succ j => simp at hj
      case c2 => intro u hu; simp only [List.mem_singleton] at hu; subst hu; rfl
      case c3 => unfold maxLen; omega
      case c4 => omega
      case c5 => simp; omega
      intro v' w1 hown1 hgrow _
      have hB1 : Below w.heap.size w w1 := (hb.alloc hsz _).grown hgrow (by simp; omega) (fun b hbk => (hown.lt b hbk).1)
      have hown2 : w1.ownsRow w.heap.size 5 1 v' (k + 1) (cells (putN V (k + 1))) := by
        rw [putN_snoc, cells, List.map_append, ← HQ.out]; rw [byte_mod] at hown1; exact hown1
      clear hown hown1 hgrow hb
      go_wp2
      go_roundw
      case rel => exact ⟨k + 1, by omega, by go_num, congrArg (Value.int .u64) (by rw [HQ.out, Nat.pow_succ, ← Nat.div_div_eq_div_mul]; omega), hown2, hB1⟩
      case measure => simp [intOf]; omega
    · obtain rfl : k = 8 := by omega
      have hcv := own_text hown hb.size
      have HB := Lib.hid hb
      clear hown hb
      go_wp2
      go_ret
      exact ⟨rfl, HB.out⟩
theorem one_text (W : World) (b x : Nat) (h : x < 256) (hc : W.cell? ⟨b, 0, none⟩ = some (.int .u8 (x : Int))) : (convert 46 9 (.slice (some ⟨b, 0, none⟩) 1 1)).run Tryd.prog W = .ok (.string (bs [UInt8.ofNat x])) W := by
  refine run_convert_bytes_back W _ _ _ ⟨b, 0, none⟩ 1 [UInt8.ofNat x] WPut.undL WPut.undE WPut.undS (fun j hj => ?_)
  obtain rfl : j = 0 := by simpa using hj
  show W.cell? ⟨b, 0, none⟩ = _
  rw [hc]
  simp
  omega
theorem one_new (W : World) (n x : Nat) (hn : n = W.heap.size) (h : x < 256) : (convert 46 9 (.slice (some ⟨n, 0, none⟩) 1 1)).run Tryd.prog (W.alloc (.cells #[.int .u8 (x : Int)] 5)) = .ok (.string (bs [UInt8.ofNat x])) (W.alloc (.cells #[.int .u8 (x : Int)] 5)) := by
  subst hn
  exact one_text _ _ x h (cell_of_one (heap_alloc_new W _))
theorem bs_append (l m : List UInt8) : bs l ++ bs m = bs (l ++ m) := by
  apply bytes_ext
  rw [ByteArray.toList_eq, ByteArray.toList_eq]
  simp [bs, ByteArray.data_append]
theorem ret_s {a b : ByteArray} (h : a = b) : Ending.returned (.string a) = Ending.returned (.string b) := by rw [h]
theorem put1 (x : Nat) (h : x < 256) : putN x 1 = [UInt8.ofNat x] := by simp [putN, Nat.mod_eq_of_lt h]
set_option maxRecDepth 20000 in
theorem r_null (w : World) : Calls Tryd.prog 15 #[.agg #[.int .u8 0, .int .i64 0, .int .u64 0, .string ⟨#[]⟩]] w fun e w' => e = .returned (.string (bs (put ⟨0, 0, 0, ⟨#[]⟩⟩))) ∧ Below w.heap.size w w' := by
  have hcv : (convert 46 9 (.slice (some ⟨w.heap.size + 1, 0, none⟩) 1 1)).run Tryd.prog ((w.alloc (.cells #[.int .u8 0, .int .i64 0, .int .u64 0, .string ⟨#[]⟩] 24)).alloc (.cells #[.int .u8 0] 5)) = .ok (.string (bs [0])) ((w.alloc (.cells #[.int .u8 0, .int .i64 0, .int .u64 0, .string ⟨#[]⟩] 24)).alloc (.cells #[.int .u8 0] 5)) := one_new (w.alloc (.cells #[.int .u8 0, .int .i64 0, .int .u64 0, .string ⟨#[]⟩] 24)) (w.heap.size + 1) 0 (by simp) (by omega)
  have hb1 : Below w.heap.size w ((w.alloc (.cells #[.int .u8 0, .int .i64 0, .int .u64 0, .string ⟨#[]⟩] 24)).alloc (.cells #[.int .u8 0] 5)) := ((Below.refl _ _).alloc (Nat.le_refl _) _).alloc (by simp) _
  have HB1 := Lib.hid hb1
  clear hb1
  go_enter Tryd.func15, Tryd.ntmps15
  go_wp2
  go_ret
  exact ⟨rfl, HB1.out⟩
set_option maxRecDepth 20000 in
theorem r_bool (w : World) (n : Int) (hn : n = 0 ∨ n = 1) : Calls Tryd.prog 15 #[.agg #[.int .u8 1, .int .i64 n, .int .u64 0, .string ⟨#[]⟩]] w fun e w' => e = .returned (.string (bs (put ⟨1, n, 0, ⟨#[]⟩⟩))) ∧ Below w.heap.size w w' := by
  have hcv : (convert 46 9 (.slice (some ⟨w.heap.size + 1, 0, none⟩) 1 1)).run Tryd.prog ((w.alloc (.cells #[.int .u8 1, .int .i64 n, .int .u64 0, .string ⟨#[]⟩] 24)).alloc (.cells #[.int .u8 1] 5)) = .ok (.string (bs [1])) ((w.alloc (.cells #[.int .u8 1, .int .i64 n, .int .u64 0, .string ⟨#[]⟩] 24)).alloc (.cells #[.int .u8 1] 5)) := one_new (w.alloc (.cells #[.int .u8 1, .int .i64 n, .int .u64 0, .string ⟨#[]⟩] 24)) (w.heap.size + 1) 1 (by simp) (by omega)
  have hb1 : Below w.heap.size w ((w.alloc (.cells #[.int .u8 1, .int .i64 n, .int .u64 0, .string ⟨#[]⟩] 24)).alloc (.cells #[.int .u8 1] 5)) := ((Below.refl _ _).alloc (Nat.le_refl _) _).alloc (by simp) _
  have HB1 := Lib.hid hb1
  clear hb1
  obtain ⟨x, hx, hx'⟩ : ∃ x : Nat, (x : Int) = n ∧ x < 256 := ⟨n.toNat, by omega, by omega⟩
  have hw : IntKind.u8.wrap n = (x : Int) := by rw [← hx, IntKind.wrap_u8]; omega
  have hw2 : n % 256 = (x : Int) := by omega
  have hu : u64 n = x := by unfold u64; omega
  have hcv2 := one_new ((w.alloc (.cells #[.int .u8 1, .int .i64 n, .int .u64 0, .string ⟨#[]⟩] 24)).alloc (.cells #[.int .u8 1] 5)) (w.heap.size + 2) x (by simp) hx'
  have HU := Lib.hid hu; have HX := Lib.hid hx'
  clear hu hx hn hx'
  go_enter Tryd.func15, Tryd.ntmps15
  go_wp2
  go_ret
  refine ⟨ret_s ?_, HB1.out.alloc (by simp; omega) _⟩
  rw [bs_append, ← put1 x HX.out, ← HU.out]; rfl
set_option maxRecDepth 20000 in
theorem r_int (w : World) (n : Int) : Calls Tryd.prog 15 #[.agg #[.int .u8 2, .int .i64 n, .int .u64 0, .string ⟨#[]⟩]] w fun e w' => e = .returned (.string (bs (put ⟨2, n, 0, ⟨#[]⟩⟩))) ∧ Below w.heap.size w w' := by
  have hcv : (convert 46 9 (.slice (some ⟨w.heap.size + 1, 0, none⟩) 1 1)).run Tryd.prog ((w.alloc (.cells #[.int .u8 2, .int .i64 n, .int .u64 0, .string ⟨#[]⟩] 24)).alloc (.cells #[.int .u8 2] 5)) = .ok (.string (bs [2])) ((w.alloc (.cells #[.int .u8 2, .int .i64 n, .int .u64 0, .string ⟨#[]⟩] 24)).alloc (.cells #[.int .u8 2] 5)) := one_new (w.alloc (.cells #[.int .u8 2, .int .i64 n, .int .u64 0, .string ⟨#[]⟩] 24)) (w.heap.size + 1) 2 (by simp) (by omega)
  have hb1 : Below w.heap.size w ((w.alloc (.cells #[.int .u8 2, .int .i64 n, .int .u64 0, .string ⟨#[]⟩] 24)).alloc (.cells #[.int .u8 2] 5)) := ((Below.refl _ _).alloc (Nat.le_refl _) _).alloc (by simp) _
  have HB1 := Lib.hid hb1
  clear hb1
  have HN := Lib.hid (fun W => num_any (u64 n) W (u64_lt n))
  have hw := wrap_u64 n
  go_enter Tryd.func15, Tryd.ntmps15
  go_wp2_with fail
  with_reducible refine (HN.out _).mono ?_
  rintro e w1 ⟨rfl, hb⟩
  have HB := Lib.hid hb
  clear hb hw
  go_wp2
  go_ret
  exact ⟨ret_s (bs_append _ _), HB1.out.trans (HB.out.mono HB1.out.size)⟩
set_option maxRecDepth 20000 in
theorem r_real (w : World) (q : Nat) (hq : q < 18446744073709551616) : Calls Tryd.prog 15 #[.agg #[.int .u8 3, .int .i64 0, .int .u64 (q : Int), .string ⟨#[]⟩]] w fun e w' => e = .returned (.string (bs (put ⟨3, 0, q, ⟨#[]⟩⟩))) ∧ Below w.heap.size w w' := by
  have hcv : (convert 46 9 (.slice (some ⟨w.heap.size + 1, 0, none⟩) 1 1)).run Tryd.prog ((w.alloc (.cells #[.int .u8 3, .int .i64 0, .int .u64 (q : Int), .string ⟨#[]⟩] 24)).alloc (.cells #[.int .u8 3] 5)) = .ok (.string (bs [3])) ((w.alloc (.cells #[.int .u8 3, .int .i64 0, .int .u64 (q : Int), .string ⟨#[]⟩] 24)).alloc (.cells #[.int .u8 3] 5)) := one_new (w.alloc (.cells #[.int .u8 3, .int .i64 0, .int .u64 (q : Int), .string ⟨#[]⟩] 24)) (w.heap.size + 1) 3 (by simp) (by omega)
  have hb1 : Below w.heap.size w ((w.alloc (.cells #[.int .u8 3, .int .i64 0, .int .u64 (q : Int), .string ⟨#[]⟩] 24)).alloc (.cells #[.int .u8 3] 5)) := ((Below.refl _ _).alloc (Nat.le_refl _) _).alloc (by simp) _
  have HB1 := Lib.hid hb1
  clear hb1
  have HN := Lib.hid (fun W => num_any q W hq)
  go_enter Tryd.func15, Tryd.ntmps15
  go_wp2_with fail
  with_reducible refine (HN.out _).mono ?_
  rintro e w1 ⟨rfl, hb⟩
  have HB := Lib.hid hb
  clear hb
  go_wp2
  go_ret
  exact ⟨ret_s (bs_append _ _), HB1.out.trans (HB.out.mono HB1.out.size)⟩
set_option maxRecDepth 20000 in
theorem r_bytes (w : World) (t : ByteArray) (ht : t.size ≤ 100) : Calls Tryd.prog 15 #[.agg #[.int .u8 4, .int .i64 0, .int .u64 0, .string t]] w fun e w' => e = .returned (.string (bs (put ⟨4, 0, 0, t⟩))) ∧ Below w.heap.size w w' := by
  have hcv : (convert 46 9 (.slice (some ⟨w.heap.size + 1, 0, none⟩) 1 1)).run Tryd.prog ((w.alloc (.cells #[.int .u8 4, .int .i64 0, .int .u64 0, .string t] 24)).alloc (.cells #[.int .u8 4] 5)) = .ok (.string (bs [4])) ((w.alloc (.cells #[.int .u8 4, .int .i64 0, .int .u64 0, .string t] 24)).alloc (.cells #[.int .u8 4] 5)) := one_new (w.alloc (.cells #[.int .u8 4, .int .i64 0, .int .u64 0, .string t] 24)) (w.heap.size + 1) 4 (by simp) (by omega)
  have hb1 : Below w.heap.size w ((w.alloc (.cells #[.int .u8 4, .int .i64 0, .int .u64 0, .string t] 24)).alloc (.cells #[.int .u8 4] 5)) := ((Below.refl _ _).alloc (Nat.le_refl _) _).alloc (by simp) _
  have HB1 := Lib.hid hb1
  clear hb1
  obtain ⟨x, hx⟩ : ∃ x, x = t.size := ⟨_, rfl⟩
  have hw : IntKind.u8.wrap (t.size : Int) = (x : Int) := by rw [hx, IntKind.wrap_u8]; omega
  have hw2 : (t.size : Int) % 256 = (x : Int) := by omega
  have hcv2 := one_new ((w.alloc (.cells #[.int .u8 4, .int .i64 0, .int .u64 0, .string t] 24)).alloc (.cells #[.int .u8 4] 5)) (w.heap.size + 2) x (by simp) (by omega)
  have hs1 : ¬ 9223372036854775807 < (bs [4]).size + (bs [UInt8.ofNat x]).size := by rw [bs_size, bs_size]; simp only [List.length_cons, List.length_nil]; omega
  have hs2 : ¬ 9223372036854775807 < (bs [4]).size + (bs [UInt8.ofNat x]).size + t.size := by rw [bs_size, bs_size]; simp only [List.length_cons, List.length_nil]; omega
  have HX := Lib.hid hx; have HT := Lib.hid ht
  clear hx ht
  go_enter Tryd.func15, Tryd.ntmps15
  go_wp2
  go_ret
  refine ⟨ret_s ?_, HB1.out.alloc (by simp; omega) _⟩
  rw [← bs_of t, bs_append, bs_append, ← put1 x (by rw [HX.out]; have := HT.out; omega), HX.out, List.append_assoc]; rfl
set_option maxRecDepth 20000 in
theorem r_string (w : World) (t : ByteArray) (ht : t.size ≤ 100) : Calls Tryd.prog 15 #[.agg #[.int .u8 5, .int .i64 0, .int .u64 0, .string t]] w fun e w' => e = .returned (.string (bs (put ⟨5, 0, 0, t⟩))) ∧ Below w.heap.size w w' := by
  have hcv : (convert 46 9 (.slice (some ⟨w.heap.size + 1, 0, none⟩) 1 1)).run Tryd.prog ((w.alloc (.cells #[.int .u8 5, .int .i64 0, .int .u64 0, .string t] 24)).alloc (.cells #[.int .u8 5] 5)) = .ok (.string (bs [5])) ((w.alloc (.cells #[.int .u8 5, .int .i64 0, .int .u64 0, .string t] 24)).alloc (.cells #[.int .u8 5] 5)) := one_new (w.alloc (.cells #[.int .u8 5, .int .i64 0, .int .u64 0, .string t] 24)) (w.heap.size + 1) 5 (by simp) (by omega)
  have hb1 : Below w.heap.size w ((w.alloc (.cells #[.int .u8 5, .int .i64 0, .int .u64 0, .string t] 24)).alloc (.cells #[.int .u8 5] 5)) := ((Below.refl _ _).alloc (Nat.le_refl _) _).alloc (by simp) _
  have HB1 := Lib.hid hb1
  clear hb1
  obtain ⟨x, hx⟩ : ∃ x, x = t.size := ⟨_, rfl⟩
  have hw : IntKind.u8.wrap (t.size : Int) = (x : Int) := by rw [hx, IntKind.wrap_u8]; omega
  have hw2 : (t.size : Int) % 256 = (x : Int) := by omega
  have hcv2 := one_new ((w.alloc (.cells #[.int .u8 5, .int .i64 0, .int .u64 0, .string t] 24)).alloc (.cells #[.int .u8 5] 5)) (w.heap.size + 2) x (by simp) (by omega)
  have hs1 : ¬ 9223372036854775807 < (bs [5]).size + (bs [UInt8.ofNat x]).size := by rw [bs_size, bs_size]; simp only [List.length_cons, List.length_nil]; omega
  have hs2 : ¬ 9223372036854775807 < (bs [5]).size + (bs [UInt8.ofNat x]).size + t.size := by rw [bs_size, bs_size]; simp only [List.length_cons, List.length_nil]; omega
  have HX := Lib.hid hx; have HT := Lib.hid ht
  clear hx ht
  go_enter Tryd.func15, Tryd.ntmps15
  go_wp2
  go_ret
  refine ⟨ret_s ?_, HB1.out.alloc (by simp; omega) _⟩
  rw [← bs_of t, bs_append, bs_append, ← put1 x (by rw [HX.out]; have := HT.out; omega), HX.out, List.append_assoc]; rfl
theorem refput_any {v : V} (hv : Is v) (w : World) (hr : v.r < 18446744073709551616) :
    Calls Tryd.prog 15 #[vv v] w fun e w' => e = .returned (.string (bs (put v))) ∧ Below w.heap.size w w' := by
  cases hv with
  | null => exact r_null w
  | bool n hn => exact r_bool w n hn
  | int n => exact r_int w n
  | real r hc => exact r_real w r hr
  | bytes s hs => exact r_bytes w s hs
  | string s hs hu => exact r_string w s hs
theorem many_short {l : List V} {N : Nat} (h : Len l N) (k : Nat) : ((bs (putN N 1 ++ putAll (l.take k))).size) ≤ 80000 := by rw [bs_size]; exact h.short k
set_option maxRecDepth 20000 in
set_option maxHeartbeats 1000000 in
theorem refputRow_any (w : World) (A : Option Addr) (c : Nat) (l : List V) (hl : Reads w A l) (hm : mayRow l = true) (hr : ∀ v ∈ l, v.r < 18446744073709551616) :
    Calls Tryd.prog 16 #[.slice A l.length c] w fun e w' => e = .returned (.string (bs (putRow l))) ∧ Below w.heap.size w w' := by
  obtain ⟨h1, h2, h3⟩ := row_is hm
  have HL := Lib.hid hl
  have HR := Lib.hid hr
  obtain ⟨N, hN⟩ : ∃ N, N = l.length := ⟨_, rfl⟩
  rw [← hN] at h1 h2 ⊢
  have HN : Hid (Len l N) := Lib.hid ⟨hN, h1, h2, h3⟩
  have hw : IntKind.u8.wrap (N : Int) = (N : Int) := by rw [IntKind.wrap_u8]; omega
  have hw2 : (N : Int) % 256 = (N : Int) := by omega
  have hcv : (convert 46 9 (.slice (some ⟨w.heap.size, 0, none⟩) 1 1)).run Tryd.prog (w.alloc (.cells #[.int .u8 (N : Int)] 5)) = .ok (.string (bs (putN N 1))) (w.alloc (.cells #[.int .u8 (N : Int)] 5)) := by
    rw [put1 N (by omega)]; exact one_new w w.heap.size N rfl (by omega)
  clear hN h3 hl hm hr
  go_enter Tryd.func16, Tryd.ntmps16
  go_wp2
  clear hcv
  go_loopw [3, 4, 10, 11, 12, 13, 14, 15, 16, 17, 18, 19, 20, 21, 22] (fun s i _ _ _ _ _ _ _ _ _ _ _ _ _ wr => ∃ k : Nat, k ≤ N ∧ i = .int .i64 k ∧ s = .string (bs (putN N 1 ++ putAll (l.take k))) ∧ Hid (Below w.heap.size w wr)) (fun _ i _ _ _ _ _ _ _ _ _ _ _ _ _ _ => N - (intOf i).toNat)
  case atStart => exact ⟨0, by omega, rfl, by simp [putAll], Lib.hid ((Below.refl _ _).alloc (Nat.le_refl _) _)⟩
  case round =>
    obtain ⟨k, hk, rfl, rfl, hb⟩ := hrel
    by_cases hlt : k < N
    · have hkl : k < l.length := by have := HN.out.1; omega
      obtain ⟨b, o, rfl, p0, p1, p2, p3⟩ := (HL.out.keep hb.out).at_ hkl
      have hsn := putAll_snoc l k hkl
      have HV : Hid (∀ W, Calls Tryd.prog 15 #[vv l[k]] W fun e w' => e = .returned (.string (bs (put l[k]))) ∧ Below W.heap.size W w') := Lib.hid fun W => refput_any (HN.out.2.2.2 _ (List.getElem_mem hkl)) W (HR.out _ (List.getElem_mem hkl))
      have hpl := put_len (HN.out.2.2.2 _ (List.getElem_mem hkl))
      have hsh := HN.out.short k
      obtain ⟨x, hx⟩ : ∃ x, x = l[k] := ⟨_, rfl⟩
      rw [← hx] at p0 p1 p2 p3 HV hsn hpl
      have hsum : ¬ 9223372036854775807 < (bs (putN N 1 ++ putAll (l.take k))).size + (bs (put x)).size := by rw [bs_size, bs_size]; omega
      have HS := Lib.hid hsn
      clear hx hkl hsn hpl hsh
      obtain ⟨pv, hpv⟩ : ∃ pv, pv = bs (put x) := ⟨_, rfl⟩
      rw [← hpv] at HV hsum
      have HP := Lib.hid hpv
      clear hpv
      obtain ⟨acc, hacc⟩ : ∃ acc, acc = bs (putN N 1 ++ putAll (l.take k)) := ⟨_, rfl⟩
      rw [← hacc] at hsum ⊢
      have HA := Lib.hid hacc
      clear hacc
      obtain ⟨k0, n0, r0, s0⟩ := x
      unfold vv at HV
      dsimp only at p0 p1 p2 p3 HV
      go_wp2_with fail
      with_reducible refine (HV.out _).mono ?_
      rintro e w2 ⟨rfl, hb2⟩
      have HB2 := Lib.hid hb2
      clear hb2
      go_wp2
      go_round
      case rel => exact ⟨k + 1, by omega, by go_num, congrArg Value.string (by rw [HA.out, HP.out, bs_append, HS.out, List.append_assoc]), Lib.hid (hb.out.trans (HB2.out.mono hb.out.size))⟩
      case measure => simp [intOf]; omega
    · have hkN : k = N := by omega
      go_wp2
      go_ret
      exact ⟨ret_s (by rw [hkN, HN.out.1, List.take_of_length_le (Nat.le_refl _)]; rfl), hb.out⟩
end Go.Proofs.YthoiolihkomgmaaDoor.Qf5
