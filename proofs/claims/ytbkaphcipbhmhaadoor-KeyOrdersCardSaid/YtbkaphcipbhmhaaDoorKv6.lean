/- The key of a value behind others: appendValue. -/
import Derived.Test.YtbkaphcipbhmhaaDoorKm6
import Derived.Test.YtbkaphcipbhmhaaDoorKn6
import Derived.WalkLawsBesides
namespace Go.Proofs.YtbkaphcipbhmhaaDoor.Kv6
open Go Go.RowKit Go.Proofs.YtbkaphcipbhmhaaDoor.Wm Go.Proofs.YtbkaphcipbhmhaaDoor.Cm Go.Proofs.YtbkaphcipbhmhaaDoor.Vm Go.Proofs.YtbkaphcipbhmhaaDoor.Kl6 Go.Proofs.YtbkaphcipbhmhaaDoor.Km6 Go.Proofs.YtbkaphcipbhmhaaDoor.Bu6 Go.Proofs.YtbkaphcipbhmhaaDoor.Kn6
theorem Mid.back {w W w2 : World} {o : Obj} {B : Nat} {u v : Value} {m : List UInt8} (hW : W = w.alloc o) (h : Mid W B u v m w2) : Mid w B u v m w2 := by
  subst hW; exact h.ahead ((Below.refl _ w).alloc (Nat.le_refl _) _)
theorem Mid.join {w w' : World} {B : Nat} {u v : Value} {l m n : List UInt8} (h : Mid w B u v (l ++ m ++ n) w') : Grew w B u (l ++ (m ++ n)) (.returned v) w' := by
  rw [List.append_assoc] at h; exact h.grew
set_option maxRecDepth 20000 in
theorem v_null {w : World} {B : Nat} {u : Value} {l : List UInt8} (h : Buf w B u l) (hl : l.length ≤ 70000) :
    Calls Tryd.prog 21 #[u, .agg #[.int .u8 0, .int .i64 0, .int .u64 0, .string ⟨#[]⟩]] w (Grew w B u (l ++ [1])) := by
  have H := Lib.hid (h.alloc (.cells #[.int .u8 0, .int .i64 0, .int .u64 0, .string ⟨#[]⟩] 38)); have HL := Lib.hid hl
  have X := Lib.hid (Box.new w 0 0 0 ⟨#[]⟩)
  have A := Lib.hid (Bu6.apart h)
  clear h hl
  go_enter Tryd.func21, Tryd.ntmps21
  go_wp2_with (at_builtin; refine append_new rfl _ _ rfl _ [1] rfl rfl (by simp) rfl rfl H.out (by have := HL.out; simp only [List.length_singleton]; omega) ?_; intro v1 w1 hm1; have HM := Lib.hid (Mid.back rfl hm1); obtain ⟨c0, c1, c2, c3⟩ := (X.out.grown hm1.2.1 A.out).cells; clear hm1)
  go_ret
  exact HM.out.grew
set_option maxRecDepth 20000 in
theorem v_bool {w : World} {B : Nat} {u : Value} {l : List UInt8} (h : Buf w B u l) (hl : l.length ≤ 70000) (n : Int) (c : UInt8) (hn : n % 256 = (c.toNat : Int)) :
    Calls Tryd.prog 21 #[u, .agg #[.int .u8 1, .int .i64 n, .int .u64 0, .string ⟨#[]⟩]] w (Grew w B u (l ++ ([2] ++ [c]))) := by
  have H := Lib.hid (h.alloc (.cells #[.int .u8 1, .int .i64 n, .int .u64 0, .string ⟨#[]⟩] 38)); have HL := Lib.hid hl
  have X := Lib.hid (Box.new w 1 n 0 ⟨#[]⟩)
  have A := Lib.hid (Bu6.apart h)
  have HC := Lib.hid hn
  clear h hl hn
  go_enter Tryd.func21, Tryd.ntmps21
  go_wp2_with (first
    | (at_builtin; refine append_new rfl _ _ rfl _ [c] rfl rfl (by simp) rfl (by rw [HC.out]; rfl) HM.out.1 (by have := HL.out; simp only [List.length_append, List.length_singleton]; omega) ?_; intro v2 w2 hm2; have HM2 := Lib.hid (HM.out.trans hm2); clear hm2)
    | (at_builtin; refine append_new rfl _ _ rfl _ [2] rfl rfl (by simp) rfl rfl H.out (by have := HL.out; simp only [List.length_singleton]; omega) ?_; intro v1 w1 hm1; have HM := Lib.hid (Mid.back rfl hm1); obtain ⟨c0, c1, c2, c3⟩ := (X.out.grown hm1.2.1 A.out).cells; clear hm1))
  go_ret
  exact Mid.join HM2.out
set_option maxRecDepth 20000 in
theorem v_int {w : World} {B : Nat} {u : Value} {l : List UInt8} (h : Buf w B u l) (hl : l.length ≤ 70000) (n : Int) (V : Nat) (hn : IntKind.u64.wrap (IntKind.u64.wrap n + 9223372036854775808) = (V : Int)) :
    Calls Tryd.prog 21 #[u, .agg #[.int .u8 2, .int .i64 n, .int .u64 0, .string ⟨#[]⟩]] w (Grew w B u (l ++ ([3] ++ hi V))) := by
  have H := Lib.hid (h.alloc (.cells #[.int .u8 2, .int .i64 n, .int .u64 0, .string ⟨#[]⟩] 38)); have HL := Lib.hid hl
  have X := Lib.hid (Box.new w 2 n 0 ⟨#[]⟩)
  have A := Lib.hid (Bu6.apart h)
  have HN : Hid (∀ (W : World) (v : Value) (m : List UInt8), Hid (Buf W B v m) → m.length ≤ 90000 → Calls Tryd.prog 30 #[v, .int .u64 (V : Int)] W (Grew W B v (m ++ hi V))) := Lib.hid fun W v m h hm => number_any h.out V hm
  clear h hl
  go_enter Tryd.func21, Tryd.ntmps21
  go_wp2_with (first
    | (go_at_call 30; (with_reducible refine (HN.out _ _ _ HB (by simp only [List.length_append, List.length_singleton]; have := HL.out; omega)).mono ?_); rintro e w2 ⟨v2, rfl, hm2⟩; have HM2 := Lib.hid (Mid.trans HM.out hm2); clear hm2)
    | (at_builtin; refine append_new rfl _ _ rfl _ [3] rfl rfl (by simp) rfl rfl H.out (by have := HL.out; simp only [List.length_singleton]; omega) ?_; intro v1 w1 hm1; have HM := Lib.hid (Mid.back rfl hm1); have HB := Lib.hid hm1.1; obtain ⟨c0, c1, c2, c3⟩ := (X.out.grown hm1.2.1 A.out).cells; clear hm1))
  go_ret
  exact Mid.join HM2.out
set_option maxRecDepth 20000 in
theorem v_real {w : World} {B : Nat} {u : Value} {l : List UInt8} (h : Buf w B u l) (hl : l.length ≤ 70000) (r V : Nat) (hV : V = Rm.key r) (hr : r < 18446744073709551616) :
    Calls Tryd.prog 21 #[u, .agg #[.int .u8 3, .int .i64 0, .int .u64 (r : Int), .string ⟨#[]⟩]] w (Grew w B u (l ++ ([4] ++ hi V))) := by
  have H := Lib.hid (h.alloc (.cells #[.int .u8 3, .int .i64 0, .int .u64 (r : Int), .string ⟨#[]⟩] 38)); have HL := Lib.hid hl
  have X := Lib.hid (Box.new w 3 0 (r : Int) ⟨#[]⟩)
  have A := Lib.hid (Bu6.apart h)
  have HN : Hid (∀ (W : World) (v : Value) (m : List UInt8), Hid (Buf W B v m) → m.length ≤ 90000 → Calls Tryd.prog 30 #[v, .int .u64 (V : Int)] W (Grew W B v (m ++ hi V))) := Lib.hid fun W v m h hm => number_any h.out V hm
  have HK : Hid (∀ (W : World), Calls Tryd.prog 31 #[.int .u64 (r : Int)] W fun e w' => e = .returned (.int .u64 (V : Int)) ∧ W = w') := Lib.hid fun W => by rw [hV]; exact Kr.key_any r W hr
  clear h hl hV hr
  go_enter Tryd.func21, Tryd.ntmps21
  go_wp2_with (first
    | (go_at_call 30; (with_reducible refine (HN.out _ _ _ HB (by simp only [List.length_append, List.length_singleton]; have := HL.out; omega)).mono ?_); rintro e w2 ⟨v2, rfl, hm2⟩; have HM2 := Lib.hid (Mid.trans HM.out hm2); clear hm2)
    | (go_at_call 31; (with_reducible refine (HK.out _).mono ?_); rintro e w3 ⟨rfl, rfl⟩)
    | (at_builtin; refine append_new rfl _ _ rfl _ [4] rfl rfl (by simp) rfl rfl H.out (by have := HL.out; simp only [List.length_singleton]; omega) ?_; intro v1 w1 hm1; have HM := Lib.hid (Mid.back rfl hm1); have HB := Lib.hid hm1.1; obtain ⟨c0, c1, c2, c3⟩ := (X.out.grown hm1.2.1 A.out).cells; clear hm1))
  go_ret
  exact Mid.join HM2.out
set_option maxRecDepth 20000 in
theorem v_text4 {w : World} {B : Nat} {u : Value} {l : List UInt8} (h : Buf w B u l) (hl : l.length ≤ 70000) (t : ByteArray) (ht : t.size ≤ 100) :
    Calls Tryd.prog 21 #[u, .agg #[.int .u8 4, .int .i64 0, .int .u64 0, .string t]] w (Grew w B u (l ++ ([5] ++ (esc t.data.toList ++ [0, 1])))) := by
  have H := Lib.hid (h.alloc (.cells #[.int .u8 4, .int .i64 0, .int .u64 0, .string t] 38)); have HL := Lib.hid hl
  have X := Lib.hid (Box.new w 4 0 0 t)
  have A := Lib.hid (Bu6.apart h)
  have HN : Hid (∀ (W : World) (v : Value) (m : List UInt8), Hid (Buf W B v m) → m.length ≤ 80000 → Calls Tryd.prog 32 #[v, .string t] W (Grew W B v (m ++ (esc t.data.toList ++ [0, 1])))) := Lib.hid fun W v m h hm => Kn6.text_any h.out t hm (by omega)
  clear h hl
  go_enter Tryd.func21, Tryd.ntmps21
  go_wp2_with (first
    | (go_at_call 32; (with_reducible refine (HN.out _ _ _ HB (by simp only [List.length_append, List.length_singleton]; have := HL.out; omega)).mono ?_); rintro e w2 ⟨v2, rfl, hm2⟩; have HM2 := Lib.hid (Mid.trans HM.out hm2); clear hm2)
    | (at_builtin; refine append_new rfl _ _ rfl _ [5] rfl rfl (by simp) rfl rfl H.out (by have := HL.out; simp only [List.length_singleton]; omega) ?_; intro v1 w1 hm1; have HM := Lib.hid (Mid.back rfl hm1); have HB := Lib.hid hm1.1; obtain ⟨c0, c1, c2, c3⟩ := (X.out.grown hm1.2.1 A.out).cells; clear hm1))
  go_ret
  exact Mid.join HM2.out
set_option maxRecDepth 20000 in
theorem v_text5 {w : World} {B : Nat} {u : Value} {l : List UInt8} (h : Buf w B u l) (hl : l.length ≤ 70000) (t : ByteArray) (ht : t.size ≤ 100) :
    Calls Tryd.prog 21 #[u, .agg #[.int .u8 5, .int .i64 0, .int .u64 0, .string t]] w (Grew w B u (l ++ ([6] ++ (esc t.data.toList ++ [0, 1])))) := by
  have H := Lib.hid (h.alloc (.cells #[.int .u8 5, .int .i64 0, .int .u64 0, .string t] 38)); have HL := Lib.hid hl
  have X := Lib.hid (Box.new w 5 0 0 t)
  have A := Lib.hid (Bu6.apart h)
  have HN : Hid (∀ (W : World) (v : Value) (m : List UInt8), Hid (Buf W B v m) → m.length ≤ 80000 → Calls Tryd.prog 32 #[v, .string t] W (Grew W B v (m ++ (esc t.data.toList ++ [0, 1])))) := Lib.hid fun W v m h hm => Kn6.text_any h.out t hm (by omega)
  clear h hl
  go_enter Tryd.func21, Tryd.ntmps21
  go_wp2_with (first
    | (go_at_call 32; (with_reducible refine (HN.out _ _ _ HB (by simp only [List.length_append, List.length_singleton]; have := HL.out; omega)).mono ?_); rintro e w2 ⟨v2, rfl, hm2⟩; have HM2 := Lib.hid (Mid.trans HM.out hm2); clear hm2)
    | (at_builtin; refine append_new rfl _ _ rfl _ [6] rfl rfl (by simp) rfl rfl H.out (by have := HL.out; simp only [List.length_singleton]; omega) ?_; intro v1 w1 hm1; have HM := Lib.hid (Mid.back rfl hm1); have HB := Lib.hid hm1.1; obtain ⟨c0, c1, c2, c3⟩ := (X.out.grown hm1.2.1 A.out).cells; clear hm1))
  go_ret
  exact Mid.join HM2.out
theorem int_key {n : Int} (h : -9223372036854775808 ≤ n) (h' : n ≤ 9223372036854775807) : IntKind.u64.wrap (IntKind.u64.wrap n + 9223372036854775808) = ((n + 9223372036854775808).toNat : Int) := by
  simp only [IntKind.wrap, IntKind.bits, IntKind.signed]
  simp
  omega
theorem put0 : kput ⟨0, 0, 0, ⟨#[]⟩⟩ = [1] := by decide
theorem put1 (n : Int) : kput ⟨1, n, 0, ⟨#[]⟩⟩ = [2] ++ [UInt8.ofNat n.toNat] := rfl
theorem put2 (n : Int) : kput ⟨2, n, 0, ⟨#[]⟩⟩ = [3] ++ hi (n + 9223372036854775808).toNat := rfl
theorem put3 (r : Nat) : kput ⟨3, 0, r, ⟨#[]⟩⟩ = [4] ++ hi (Rm.key r) := rfl
theorem put4 (s : ByteArray) : kput ⟨4, 0, 0, s⟩ = [5] ++ (esc s.data.toList ++ [0, 1]) := rfl
theorem put5 (s : ByteArray) : kput ⟨5, 0, 0, s⟩ = [6] ++ (esc s.data.toList ++ [0, 1]) := rfl
/-- What appendValue appends of a value that may be. -/
theorem value_any {v : V} (hv : Is v) (hk : v.ok) {w : World} {B : Nat} {u : Value} {l : List UInt8} (h : Buf w B u l) (hl : l.length ≤ 70000) :
    Calls Tryd.prog 21 #[u, vv v] w (Grew w B u (l ++ kput v)) := by
  cases hv with
  | null => rw [put0]; exact v_null h hl
  | bool n hn => rw [put1]; exact v_bool h hl n (UInt8.ofNat n.toNat) (by rcases hn with rfl | rfl <;> decide)
  | int n => rw [put2]; exact v_int h hl n _ (int_key hk.n.1 hk.n.2)
  | real r hc => rw [put3]; exact v_real h hl r _ rfl hk.r
  | bytes s hs => rw [put4]; exact v_text4 h hl s hs
  | string s hs hu => rw [put5]; exact v_text5 h hl s hs
end Go.Proofs.YtbkaphcipbhmhaaDoor.Kv6
