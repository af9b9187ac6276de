/- Two values compared with '==': the model's own comparison, field by field. -/
import Derived.Test.YtbkaphcipbhmhaaDoorVm
import Derived.Laws.StructEq
namespace Go.Proofs.YtbkaphcipbhmhaaDoor.Ve
open Go Go.RowKit Go.Proofs.YtbkaphcipbhmhaaDoor.Vm
/-- Field by field. -/
def eqI (k n R : Int) (s : ByteArray) (k' n' R' : Int) (s' : ByteArray) : Bool := k == k' && (n == n' && ((R == R') && s.toList == s'.toList))
theorem eq_ints (k n R : Int) (s : ByteArray) (k' n' R' : Int) (s' : ByteArray) (w : World) :
    (Op.equalIn 10000 38 (.agg #[.int .u8 k, .int .i64 n, .int .u64 R, .string s]) (.agg #[.int .u8 k', .int .i64 n', .int .u64 R', .string s'])).run Tryd.prog w = .ok (eqI k n R s k' n' R' s') w := by
  rw [run_equalIn_struct (d := 9999) _ _ _ _ (by kernel_rfl) (by kernel_rfl)]
  have hf : (Tryd.prog.fieldsOf 38).toList = [⟨ "Kind", 5, 0, false, "", "", 0⟩, ⟨ "Int", 2, 1, false, "", "", 8⟩, ⟨ "Real", 36, 2, false, "", "", 16⟩, ⟨ "Text", 9, 3, false, "", "", 24⟩] := by kernel_rfl
  rw [hf]
  clear hf
  go_simp
  unfold eqI
  by_cases h1 : k = k'
  · by_cases h2 : n = n'
    · by_cases h3 : R = R'
      · by_cases h4 : s.toList = s'.toList <;> simp [h1, h2, h3, h4]
      · simp [h1, h2, h3]
    · simp [h1, h2]
  · simp [h1]
theorem run_eqI (k n R : Int) (s : ByteArray) (k' n' R' : Int) (s' : ByteArray) (w : World) :
    (binOp .eql 38 (.agg #[.int .u8 k, .int .i64 n, .int .u64 R, .string s]) (.agg #[.int .u8 k', .int .i64 n', .int .u64 R', .string s'])).run Tryd.prog w = .ok (.bool (eqI k n R s k' n' R' s')) w := by
  rw [run_eql_struct, eq_ints]; rfl
theorem run_neI (k n R : Int) (s : ByteArray) (k' n' R' : Int) (s' : ByteArray) (w : World) :
    (binOp .neq 38 (.agg #[.int .u8 k, .int .i64 n, .int .u64 R, .string s]) (.agg #[.int .u8 k', .int .i64 n', .int .u64 R', .string s'])).run Tryd.prog w = .ok (.bool (!eqI k n R s k' n' R' s')) w := by
  rw [run_neq_struct, eq_ints]; rfl
theorem eqI_eqv (a b : V) : eqI a.k a.n a.r a.s b.k b.n b.r b.s = eqv a b := rfl
theorem run_eql (a b : V) (w : World) : (binOp .eql 38 (vv a) (vv b)).run Tryd.prog w = .ok (.bool (eqv a b)) w :=
  run_eqI _ _ _ _ _ _ _ _ w
theorem run_neq (a b : V) (w : World) : (binOp .neq 38 (vv a) (vv b)).run Tryd.prog w = .ok (.bool (!eqv a b)) w :=
  run_neI _ _ _ _ _ _ _ _ w
end Go.Proofs.YtbkaphcipbhmhaaDoor.Ve
