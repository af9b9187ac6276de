/- utf8.FullRuneInString: the ways of few bytes (written by genfu5.py). -/
import Derived.Test.YthoiolihkomgmaaDoorFu5
namespace Go.Proofs.YthoiolihkomgmaaDoor.Fu5
open Go Go.RowKit Go.Proofs Go.Proofs.YthoiolihkomgmaaDoor.Vs Go.Proofs.YthoiolihkomgmaaDoor.Cm
set_option maxRecDepth 20000 in
theorem w4a {S : ByteArray} {w : World} {x0 x1 x2 : UInt8} (h : Sh S 1 x0 x1 x2 4 w) : Calls Tryd.prog 53 #[.string S] w (Ends w false) := by
  have hn := h.size
  have hp : 0 < S.size := by omega
  have hx0 := h.b0 hp
  have hc := h.fst
  have ha : w.cell? ⟨1, 0, none⟩ = some (.int .u8 128) := h.lo
  have hb : w.cell? ⟨1, 1, none⟩ = some (.int .u8 191) := h.hi
  have l0 := x0.toNat_lt
  clear h
  go_enter Tryd.func53, Tryd.ntmps53
  go_wp2
  go_quiet (fail)
  go_wp2
  go_ret
  exact ⟨rfl, below_q _ _ _⟩
set_option maxRecDepth 20000 in
theorem w4n2b {S : ByteArray} {w : World} {x0 x1 x2 : UInt8} (h : Sh S 2 x0 x1 x2 4 w) (c1 : decide ((x1.toNat : Int) < 128) = true) : Calls Tryd.prog 53 #[.string S] w (Ends w true) := by
  have hn := h.size
  have hp : 0 < S.size := by omega
  have hx0 := h.b0 hp
  have h1z : 1 < S.size := by omega
  have hx1 := h.b1 h1z
  have hc := h.fst
  have ha : w.cell? ⟨1, 0, none⟩ = some (.int .u8 128) := h.lo
  have hb : w.cell? ⟨1, 1, none⟩ = some (.int .u8 191) := h.hi
  have l0 := x0.toNat_lt
  clear h
  go_enter Tryd.func53, Tryd.ntmps53
  go_wp2
  go_quiet (fail)
  go_wp2
  go_ret
  exact ⟨rfl, below_q _ _ _⟩
set_option maxRecDepth 20000 in
theorem w4n2c {S : ByteArray} {w : World} {x0 x1 x2 : UInt8} (h : Sh S 2 x0 x1 x2 4 w) (c1 : decide ((x1.toNat : Int) < 128) = false) (c2 : decide ((191 : Int) < (x1.toNat : Int)) = true) : Calls Tryd.prog 53 #[.string S] w (Ends w true) := by
  have hn := h.size
  have hp : 0 < S.size := by omega
  have hx0 := h.b0 hp
  have h1z : 1 < S.size := by omega
  have hx1 := h.b1 h1z
  have hc := h.fst
  have ha : w.cell? ⟨1, 0, none⟩ = some (.int .u8 128) := h.lo
  have hb : w.cell? ⟨1, 1, none⟩ = some (.int .u8 191) := h.hi
  have l0 := x0.toNat_lt
  clear h
  go_enter Tryd.func53, Tryd.ntmps53
  go_wp2
  go_quiet (fail)
  go_wp2
  go_ret
  exact ⟨rfl, below_q _ _ _⟩
set_option maxRecDepth 20000 in
theorem w4n2d {S : ByteArray} {w : World} {x0 x1 x2 : UInt8} (h : Sh S 2 x0 x1 x2 4 w) (c1 : decide ((x1.toNat : Int) < 128) = false) (c2 : decide ((191 : Int) < (x1.toNat : Int)) = false) : Calls Tryd.prog 53 #[.string S] w (Ends w false) := by
  have hn := h.size
  have hp : 0 < S.size := by omega
  have hx0 := h.b0 hp
  have h1z : 1 < S.size := by omega
  have hx1 := h.b1 h1z
  have hc := h.fst
  have ha : w.cell? ⟨1, 0, none⟩ = some (.int .u8 128) := h.lo
  have hb : w.cell? ⟨1, 1, none⟩ = some (.int .u8 191) := h.hi
  have l0 := x0.toNat_lt
  clear h
  go_enter Tryd.func53, Tryd.ntmps53
  go_wp2
  go_quiet (fail)
  go_wp2
  go_ret
  exact ⟨rfl, below_q _ _ _⟩
set_option maxRecDepth 20000 in
theorem w4n3b {S : ByteArray} {w : World} {x0 x1 x2 : UInt8} (h : Sh S 3 x0 x1 x2 4 w) (c1 : decide ((x1.toNat : Int) < 128) = true) : Calls Tryd.prog 53 #[.string S] w (Ends w true) := by
  have hn := h.size
  have hp : 0 < S.size := by omega
  have hx0 := h.b0 hp
  have h1z : 1 < S.size := by omega
  have hx1 := h.b1 h1z
  have hc := h.fst
  have ha : w.cell? ⟨1, 0, none⟩ = some (.int .u8 128) := h.lo
  have hb : w.cell? ⟨1, 1, none⟩ = some (.int .u8 191) := h.hi
  have l0 := x0.toNat_lt
  clear h
  go_enter Tryd.func53, Tryd.ntmps53
  go_wp2
  go_quiet (fail)
  go_wp2
  go_ret
  exact ⟨rfl, below_q _ _ _⟩
set_option maxRecDepth 20000 in
theorem w4n3c {S : ByteArray} {w : World} {x0 x1 x2 : UInt8} (h : Sh S 3 x0 x1 x2 4 w) (c1 : decide ((x1.toNat : Int) < 128) = false) (c2 : decide ((191 : Int) < (x1.toNat : Int)) = true) : Calls Tryd.prog 53 #[.string S] w (Ends w true) := by
  have hn := h.size
  have hp : 0 < S.size := by omega
  have hx0 := h.b0 hp
  have h1z : 1 < S.size := by omega
  have hx1 := h.b1 h1z
  have hc := h.fst
  have ha : w.cell? ⟨1, 0, none⟩ = some (.int .u8 128) := h.lo
  have hb : w.cell? ⟨1, 1, none⟩ = some (.int .u8 191) := h.hi
  have l0 := x0.toNat_lt
  clear h
  go_enter Tryd.func53, Tryd.ntmps53
  go_wp2
  go_quiet (fail)
  go_wp2
  go_ret
  exact ⟨rfl, below_q _ _ _⟩
set_option maxRecDepth 20000 in
theorem w4n3e {S : ByteArray} {w : World} {x0 x1 x2 : UInt8} (h : Sh S 3 x0 x1 x2 4 w) (c1 : decide ((x1.toNat : Int) < 128) = false) (c2 : decide ((191 : Int) < (x1.toNat : Int)) = false) (c3 : decide ((x2.toNat : Int) < 128) = true) : Calls Tryd.prog 53 #[.string S] w (Ends w true) := by
  have hn := h.size
  have hp : 0 < S.size := by omega
  have hx0 := h.b0 hp
  have h1z : 1 < S.size := by omega
  have hx1 := h.b1 h1z
  have h2z : 2 < S.size := by omega
  have hx2 := h.b2 h2z
  have hc := h.fst
  have ha : w.cell? ⟨1, 0, none⟩ = some (.int .u8 128) := h.lo
  have hb : w.cell? ⟨1, 1, none⟩ = some (.int .u8 191) := h.hi
  have l0 := x0.toNat_lt
  clear h
  go_enter Tryd.func53, Tryd.ntmps53
  go_wp2
  go_quiet (fail)
  go_wp2
  go_ret
  exact ⟨rfl, below_q _ _ _⟩
set_option maxRecDepth 20000 in
theorem w4n3f {S : ByteArray} {w : World} {x0 x1 x2 : UInt8} (h : Sh S 3 x0 x1 x2 4 w) (c1 : decide ((x1.toNat : Int) < 128) = false) (c2 : decide ((191 : Int) < (x1.toNat : Int)) = false) (c3 : decide ((x2.toNat : Int) < 128) = false) (c4 : decide ((191 : Int) < (x2.toNat : Int)) = true) : Calls Tryd.prog 53 #[.string S] w (Ends w true) := by
  have hn := h.size
  have hp : 0 < S.size := by omega
  have hx0 := h.b0 hp
  have h1z : 1 < S.size := by omega
  have hx1 := h.b1 h1z
  have h2z : 2 < S.size := by omega
  have hx2 := h.b2 h2z
  have hc := h.fst
  have ha : w.cell? ⟨1, 0, none⟩ = some (.int .u8 128) := h.lo
  have hb : w.cell? ⟨1, 1, none⟩ = some (.int .u8 191) := h.hi
  have l0 := x0.toNat_lt
  clear h
  go_enter Tryd.func53, Tryd.ntmps53
  go_wp2
  go_quiet (fail)
  go_wp2
  go_ret
  exact ⟨rfl, below_q _ _ _⟩
set_option maxRecDepth 20000 in
theorem w4n3g {S : ByteArray} {w : World} {x0 x1 x2 : UInt8} (h : Sh S 3 x0 x1 x2 4 w) (c1 : decide ((x1.toNat : Int) < 128) = false) (c2 : decide ((191 : Int) < (x1.toNat : Int)) = false) (c3 : decide ((x2.toNat : Int) < 128) = false) (c4 : decide ((191 : Int) < (x2.toNat : Int)) = false) : Calls Tryd.prog 53 #[.string S] w (Ends w false) := by
  have hn := h.size
  have hp : 0 < S.size := by omega
  have hx0 := h.b0 hp
  have h1z : 1 < S.size := by omega
  have hx1 := h.b1 h1z
  have h2z : 2 < S.size := by omega
  have hx2 := h.b2 h2z
  have hc := h.fst
  have ha : w.cell? ⟨1, 0, none⟩ = some (.int .u8 128) := h.lo
  have hb : w.cell? ⟨1, 1, none⟩ = some (.int .u8 191) := h.hi
  have l0 := x0.toNat_lt
  clear h
  go_enter Tryd.func53, Tryd.ntmps53
  go_wp2
  go_quiet (fail)
  go_wp2
  go_ret
  exact ⟨rfl, below_q _ _ _⟩
set_option maxRecDepth 20000 in
theorem w68a {S : ByteArray} {w : World} {x0 x1 x2 : UInt8} (h : Sh S 1 x0 x1 x2 68 w) : Calls Tryd.prog 53 #[.string S] w (Ends w false) := by
  have hn := h.size
  have hp : 0 < S.size := by omega
  have hx0 := h.b0 hp
  have hc := h.fst
  have ha : w.cell? ⟨1, 8, none⟩ = some (.int .u8 128) := h.lo
  have hb : w.cell? ⟨1, 9, none⟩ = some (.int .u8 143) := h.hi
  have l0 := x0.toNat_lt
  clear h
  go_enter Tryd.func53, Tryd.ntmps53
  go_wp2
  go_quiet (fail)
  go_wp2
  go_ret
  exact ⟨rfl, below_q _ _ _⟩
set_option maxRecDepth 20000 in
theorem w68n2b {S : ByteArray} {w : World} {x0 x1 x2 : UInt8} (h : Sh S 2 x0 x1 x2 68 w) (c1 : decide ((x1.toNat : Int) < 128) = true) : Calls Tryd.prog 53 #[.string S] w (Ends w true) := by
  have hn := h.size
  have hp : 0 < S.size := by omega
  have hx0 := h.b0 hp
  have h1z : 1 < S.size := by omega
  have hx1 := h.b1 h1z
  have hc := h.fst
  have ha : w.cell? ⟨1, 8, none⟩ = some (.int .u8 128) := h.lo
  have hb : w.cell? ⟨1, 9, none⟩ = some (.int .u8 143) := h.hi
  have l0 := x0.toNat_lt
  clear h
  go_enter Tryd.func53, Tryd.ntmps53
  go_wp2
  go_quiet (fail)
  go_wp2
  go_ret
  exact ⟨rfl, below_q _ _ _⟩
set_option maxRecDepth 20000 in
theorem w68n2c {S : ByteArray} {w : World} {x0 x1 x2 : UInt8} (h : Sh S 2 x0 x1 x2 68 w) (c1 : decide ((x1.toNat : Int) < 128) = false) (c2 : decide ((143 : Int) < (x1.toNat : Int)) = true) : Calls Tryd.prog 53 #[.string S] w (Ends w true) := by
  have hn := h.size
  have hp : 0 < S.size := by omega
  have hx0 := h.b0 hp
  have h1z : 1 < S.size := by omega
  have hx1 := h.b1 h1z
  have hc := h.fst
  have ha : w.cell? ⟨1, 8, none⟩ = some (.int .u8 128) := h.lo
  have hb : w.cell? ⟨1, 9, none⟩ = some (.int .u8 143) := h.hi
  have l0 := x0.toNat_lt
  clear h
  go_enter Tryd.func53, Tryd.ntmps53
  go_wp2
  go_quiet (fail)
  go_wp2
  go_ret
  exact ⟨rfl, below_q _ _ _⟩
set_option maxRecDepth 20000 in
theorem w68n2d {S : ByteArray} {w : World} {x0 x1 x2 : UInt8} (h : Sh S 2 x0 x1 x2 68 w) (c1 : decide ((x1.toNat : Int) < 128) = false) (c2 : decide ((143 : Int) < (x1.toNat : Int)) = false) : Calls Tryd.prog 53 #[.string S] w (Ends w false) := by
  have hn := h.size
  have hp : 0 < S.size := by omega
  have hx0 := h.b0 hp
  have h1z : 1 < S.size := by omega
  have hx1 := h.b1 h1z
  have hc := h.fst
  have ha : w.cell? ⟨1, 8, none⟩ = some (.int .u8 128) := h.lo
  have hb : w.cell? ⟨1, 9, none⟩ = some (.int .u8 143) := h.hi
  have l0 := x0.toNat_lt
  clear h
  go_enter Tryd.func53, Tryd.ntmps53
  go_wp2
  go_quiet (fail)
  go_wp2
  go_ret
  exact ⟨rfl, below_q _ _ _⟩
set_option maxRecDepth 20000 in
theorem w68n3b {S : ByteArray} {w : World} {x0 x1 x2 : UInt8} (h : Sh S 3 x0 x1 x2 68 w) (c1 : decide ((x1.toNat : Int) < 128) = true) : Calls Tryd.prog 53 #[.string S] w (Ends w true) := by
  have hn := h.size
  have hp : 0 < S.size := by omega
  have hx0 := h.b0 hp
  have h1z : 1 < S.size := by omega
  have hx1 := h.b1 h1z
  have hc := h.fst
  have ha : w.cell? ⟨1, 8, none⟩ = some (.int .u8 128) := h.lo
  have hb : w.cell? ⟨1, 9, none⟩ = some (.int .u8 143) := h.hi
  have l0 := x0.toNat_lt
  clear h
  go_enter Tryd.func53, Tryd.ntmps53
  go_wp2
  go_quiet (fail)
  go_wp2
  go_ret
  exact ⟨rfl, below_q _ _ _⟩
set_option maxRecDepth 20000 in
theorem w68n3c {S : ByteArray} {w : World} {x0 x1 x2 : UInt8} (h : Sh S 3 x0 x1 x2 68 w) (c1 : decide ((x1.toNat : Int) < 128) = false) (c2 : decide ((143 : Int) < (x1.toNat : Int)) = true) : Calls Tryd.prog 53 #[.string S] w (Ends w true) := by
  have hn := h.size
  have hp : 0 < S.size := by omega
  have hx0 := h.b0 hp
  have h1z : 1 < S.size := by omega
  have hx1 := h.b1 h1z
  have hc := h.fst
  have ha : w.cell? ⟨1, 8, none⟩ = some (.int .u8 128) := h.lo
  have hb : w.cell? ⟨1, 9, none⟩ = some (.int .u8 143) := h.hi
  have l0 := x0.toNat_lt
  clear h
  go_enter Tryd.func53, Tryd.ntmps53
  go_wp2
  go_quiet (fail)
  go_wp2
  go_ret
  exact ⟨rfl, below_q _ _ _⟩
set_option maxRecDepth 20000 in
theorem w68n3e {S : ByteArray} {w : World} {x0 x1 x2 : UInt8} (h : Sh S 3 x0 x1 x2 68 w) (c1 : decide ((x1.toNat : Int) < 128) = false) (c2 : decide ((143 : Int) < (x1.toNat : Int)) = false) (c3 : decide ((x2.toNat : Int) < 128) = true) : Calls Tryd.prog 53 #[.string S] w (Ends w true) := by
  have hn := h.size
  have hp : 0 < S.size := by omega
  have hx0 := h.b0 hp
  have h1z : 1 < S.size := by omega
  have hx1 := h.b1 h1z
  have h2z : 2 < S.size := by omega
  have hx2 := h.b2 h2z
  have hc := h.fst
  have ha : w.cell? ⟨1, 8, none⟩ = some (.int .u8 128) := h.lo
  have hb : w.cell? ⟨1, 9, none⟩ = some (.int .u8 143) := h.hi
  have l0 := x0.toNat_lt
  clear h
  go_enter Tryd.func53, Tryd.ntmps53
  go_wp2
  go_quiet (fail)
  go_wp2
  go_ret
  exact ⟨rfl, below_q _ _ _⟩
set_option maxRecDepth 20000 in
theorem w68n3f {S : ByteArray} {w : World} {x0 x1 x2 : UInt8} (h : Sh S 3 x0 x1 x2 68 w) (c1 : decide ((x1.toNat : Int) < 128) = false) (c2 : decide ((143 : Int) < (x1.toNat : Int)) = false) (c3 : decide ((x2.toNat : Int) < 128) = false) (c4 : decide ((191 : Int) < (x2.toNat : Int)) = true) : Calls Tryd.prog 53 #[.string S] w (Ends w true) := by
  have hn := h.size
  have hp : 0 < S.size := by omega
  have hx0 := h.b0 hp
  have h1z : 1 < S.size := by omega
  have hx1 := h.b1 h1z
  have h2z : 2 < S.size := by omega
  have hx2 := h.b2 h2z
  have hc := h.fst
  have ha : w.cell? ⟨1, 8, none⟩ = some (.int .u8 128) := h.lo
  have hb : w.cell? ⟨1, 9, none⟩ = some (.int .u8 143) := h.hi
  have l0 := x0.toNat_lt
  clear h
  go_enter Tryd.func53, Tryd.ntmps53
  go_wp2
  go_quiet (fail)
  go_wp2
  go_ret
  exact ⟨rfl, below_q _ _ _⟩
set_option maxRecDepth 20000 in
theorem w68n3g {S : ByteArray} {w : World} {x0 x1 x2 : UInt8} (h : Sh S 3 x0 x1 x2 68 w) (c1 : decide ((x1.toNat : Int) < 128) = false) (c2 : decide ((143 : Int) < (x1.toNat : Int)) = false) (c3 : decide ((x2.toNat : Int) < 128) = false) (c4 : decide ((191 : Int) < (x2.toNat : Int)) = false) : Calls Tryd.prog 53 #[.string S] w (Ends w false) := by
  have hn := h.size
  have hp : 0 < S.size := by omega
  have hx0 := h.b0 hp
  have h1z : 1 < S.size := by omega
  have hx1 := h.b1 h1z
  have h2z : 2 < S.size := by omega
  have hx2 := h.b2 h2z
  have hc := h.fst
  have ha : w.cell? ⟨1, 8, none⟩ = some (.int .u8 128) := h.lo
  have hb : w.cell? ⟨1, 9, none⟩ = some (.int .u8 143) := h.hi
  have l0 := x0.toNat_lt
  clear h
  go_enter Tryd.func53, Tryd.ntmps53
  go_wp2
  go_quiet (fail)
  go_wp2
  go_ret
  exact ⟨rfl, below_q _ _ _⟩
end Go.Proofs.YthoiolihkomgmaaDoor.Fu5
