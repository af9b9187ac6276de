/- A disk of one file, written and opened as a run, over a walk: what stands there at each step. -/
import Derived.Test.YtmnaamjoikfpbaaSn10
import Derived.Test.YtmnaamjoikfpbaaFp10
import Derived.Test.YtmnaamjoikfpbaaWr10
import Derived.Test.YtmnaamjoikfpbaaDb2
import Derived.Test.YtmnaamjoikfpbaaSd10
namespace Go.Proofs.Ytmnaamjoikfpbaa.Ly10
open Go Go.RowKit Go.Lib Go.Proofs.Ytmnaamjoikfpbaa.Mp Go.Proofs.Ytmnaamjoikfpbaa.Dh Go.Proofs.Ytmnaamjoikfpbaa.Fm Go.Proofs.Ytmnaamjoikfpbaa.Dk Go.Proofs.Ytmnaamjoikfpbaa.Cl Go.Proofs.Ytmnaamjoikfpbaa.Nm Go.Proofs.Ytmnaamjoikfpbaa.St Go.Proofs.Ytmnaamjoikfpbaa.Fl7 Go.Proofs.Ytmnaamjoikfpbaa.Pm9 Go.Proofs.Ytmnaamjoikfpbaa.Mg9 Go.Proofs.Ytmnaamjoikfpbaa.Rd9 Go.Proofs.Ytmnaamjoikfpbaa.Fd10 Go.Proofs.Ytmnaamjoikfpbaa.Ck10 Go.Proofs.Ytmnaamjoikfpbaa.So10 Go.Proofs.Ytmnaamjoikfpbaa.Sz10 Go.Proofs.Ytmnaamjoikfpbaa.On10 Go.Proofs.Ytmnaamjoikfpbaa.Pc10 Go.Proofs.Ytmnaamjoikfpbaa.Re10 Go.Proofs.Ytmnaamjoikfpbaa.Ge10 Go.Proofs.Ytmnaamjoikfpbaa.Sn10 Go.Proofs.Ytmnaamjoikfpbaa.Fl10 Go.Proofs.Ytmnaamjoikfpbaa.Fp10
theorem allFine_rb (L : List Pr) : ∀ (m s : Nat), s + m ≤ L.length → allFine (rb L) L s m = true
  | 0, _, _ => rfl
  | m + 1, s, h => by rw [allFine, fine_rb L s (by omega), allFine_rb L m (s + 1) (by omega)]; rfl
theorem many_le (n : Int) (a b : ByteArray) (L : List Pr) : Fd10.start a b L + many n a b L ≤ L.length := by
  have h1 := Fd10.stop_le b L
  have h2 : Fd10.start a b L ≤ Fd10.stop b L := Nat.min_le_right _ _
  have h3 : many n a b L ≤ Fd10.stop b L - Fd10.start a b L := Nat.min_le_right _ _
  omega
theorem scanned_rb {L : List Pr} (hs : Sorted L) (a b : ByteArray) (n : Int) : scanned (rb L) L (Fd10.start a b L) (many n a b L) = (Pm9.scan a b n L, 0) := by
  unfold scanned
  rw [allFine_rb L _ _ (many_le n a b L), if_pos rfl, scan_piece hs]
/-- A run whose file is as it was written: what Get tells. -/
theorem get_back {w : World} {S : Nat → Prop} {B q p : Nat} {nm : ByteArray} {L : List Pr} {A : Option Addr} {c : Nat} {D : St} (h : RunAt w B q p nm L A c) (hd : FileAt w S p D nm (rb L)) (hL : (rb L).length ≤ 16777216) (hlen : L.length ≤ 1000000) (hs : Sorted L) (hmay : ∀ x ∈ L, may x = true) (key : ByteArray) :
    Calls Try.prog 16 #[.pointer (some ⟨q, 0, none⟩), .string key] w fun e w' => e = answer ((Pm9.get key L).getD zp) (Pm9.get key L).isSome 0 ∧ Below w.heap.size w w' := by
  cases hg : Pm9.get key L with
  | none => exact get_none h hlen hs key hg
  | some x =>
    obtain ⟨h1, rfl⟩ := Pm9.get_some hg
    obtain ⟨i, hi, rfl⟩ := List.getElem_of_mem h1
    have hc := Ge10.get_some h hd hL hlen hs i hi (hmay _ h1)
    rw [got_fine hi (fine_rb L i hi)] at hc
    exact hc
theorem scan_back {w : World} {S : Nat → Prop} {B q p : Nat} {nm : ByteArray} {L : List Pr} {A : Option Addr} {c : Nat} {D : St} (h : RunAt w B q p nm L A c) (hd : FileAt w S p D nm (rb L)) (hL : (rb L).length ≤ 16777216) (hlen : L.length ≤ 1000000) (hs : Sorted L) (hmay : ∀ x ∈ L, may x = true) (a b : ByteArray) (n : Int) :
    Calls Try.prog 18 #[.pointer (some ⟨q, 0, none⟩), .string a, .string b, .int .i64 n] w (ScanTo w (Pm9.scan a b n L, 0)) := by
  have hc := Sn10.scan_any h hd hL hlen hs hmay a b n
  rw [scanned_rb hs] at hc
  exact hc
/-- A disk without files, and one with one file. -/
def D0 (n : Int) : St := ⟨n, [], [], [], -1, false⟩
def D1 (n : Int) (k : ByteArray) (t : List UInt8) : St := ⟨n, [(k, t)], [(k, t)], [], -1, false⟩
theorem size_D0 (n : Int) (k : ByteArray) (h : nameOk k = true) : (stSize (D0 n) k).2 = 3 := by
  unfold stSize
  rw [if_neg (by simp [D0]), if_neg (by rw [h]; simp)]
  rfl
theorem size_D1 (n : Int) (k : ByteArray) (t : List UInt8) (h : nameOk k = true) : (stSize (D1 n k t) k).2 = 0 := by
  unfold stSize
  rw [if_neg (by simp [D1]), if_neg (by rw [h]; simp)]
  have hg : Fm.get (D1 n k t).now k = some t := by simp [D1, Fm.get]
  rw [hg]
theorem read_D1 (n : Int) (k : ByteArray) (t : List UInt8) (h : nameOk k = true) (hz : t.length ≤ 16777216) : stRead (D1 n k t) k 0 16777216 = (t, 0) := by
  unfold stRead
  rw [if_neg (by simp [D1]), if_neg (by rw [h]; simp), if_neg (by omega)]
  have hg : Fm.get (D1 n k t).now k = some t := by simp [D1, Fm.get]
  rw [hg]
  show ((t.drop 0).take _, 0) = _
  rw [List.drop_zero, List.take_of_length_le (by show _ ≤ 16777216; exact hz)]
theorem append_D0 (n : Int) (k s : ByteArray) (h : nameOk k = true) (hn : (s.size : Int) ≤ n) : stAppend (D0 n) k s = (0, ⟨n, [(k, s.data.toList)], [], [.app k s], -1, false⟩) := by
  unfold stAppend
  rw [if_neg (by simp [D0]), if_neg (by rw [h]; simp), if_neg (by
    intro hc
    have h1 := hc.2
    have h2 : (used (D0 n).now : Int) = 0 := rfl
    have h3 : (D0 n).room = n := rfl
    omega)]
  rfl
theorem sync_D0 (n : Int) (k : ByteArray) (s : ByteArray) : stSync ⟨n, [(k, s.data.toList)], [], [.app k s], -1, false⟩ = (0, D1 n k s.data.toList) := rfl
theorem flip_D1 (n : Int) (k : ByteArray) (t : List UInt8) (o bit : Nat) (ho : o < t.length) : flipped (D1 n k t) k t o bit ho = D1 n k (t.set o (turned (t[o]) bit)) := by
  unfold flipped D1
  simp [Fm.put]
theorem file_D1 {w : World} {S : Nat → Prop} {p : Nat} {n : Int} {k : ByteArray} {t : List UInt8} (h : Full w S p (D1 n k t)) (hk : k.size ≤ maxLen) (hn : nameOk k = true) : FileAt w S p (D1 n k t) k t := ⟨h, rfl, hn, hk, by simp [D1, Fm.get]⟩
/-- The first run on a disk. -/
theorem write_D0 {w : World} {S : Nat → Prop} {p : Nat} {n : Int} (h : Full w S p (D0 n)) (k : ByteArray) (hk : k.size ≤ maxLen) (hnm : nameOk k = true) (A : Option Addr) (c : Nat) (L : List Pr) (hl : Reads w A L) (hlen : L.length ≤ 1000000) (hs : Sorted L) (hmay : ∀ x ∈ L, may x = true) (hn : ((rb L).length : Int) ≤ n) :
    Calls Try.prog 10 #[.pointer (some ⟨p, 0, none⟩), .string k, .slice A L.length c] w fun e w' => e = .returned (.int .i64 0) ∧ To S w w' p (D1 n k (rb L)) := by
  have hc : chk L = 0 := by
    unfold chk
    rw [List.all_eq_true.2 hmay, rise_of_sorted hs]; rfl
  exact Wr10.write_new h k hk A c L hl hlen hc (size_D0 n k hnm) (append_D0 n k (bs (rb L)) hnm (by rw [bs_size]; exact hn)) (sync_D0 n k (bs (rb L))) (by show 0 ≤ 1000; omega) (by show 1 ≤ 1000; omega)
/-- A row that reads, where the disk alone was touched. -/
theorem to_below {w0 w w' : World} {S : Nat → Prop} {p : Nat} {D : St} (h : To S w w' p D) (hb : Below w0.heap.size w0 w) (hS : ∀ b, S b → w0.heap.size ≤ b) : Below w0.heap.size w0 w' :=
  hb.trans ⟨h.1.os, h.1.tape, h.1.output, h.1.size, fun b hl => h.1.block b (by have := hb.size; omega) fun x => by have := hS b x; omega⟩
theorem run_to {w w' : World} {S : Nat → Prop} {B q p : Nat} {nm : ByteArray} {L : List Pr} {A : Option Addr} {c : Nat} {D : St} (h : RunAt w B q p nm L A c) (ht : To S w w' p D) (hS : ∀ b, S b → b < B) : RunAt w' B q p nm L A c :=
  h.keep fun b hB hl => ht.1.block b hl fun x => by have := hS b x; omega
end Go.Proofs.Ytmnaamjoikfpbaa.Ly10
