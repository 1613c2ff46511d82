/- Steps in memory. -/
import Derived.Test.YtleenkdlnmoepaaWorks
namespace Go.Proofs.Ytleenkdlnmoepaa
open Go.RowKit

/-- A step as it lies in memory. -/
structure Sp where
  d : Int
  id : Int
  r : Nat
  g : Int
  od : Int
  ot : Int
  n : Int
  ba : Option Addr
  bn : Nat
  bc : Nat
def spc (s : Sp) : List Value := [.int .i8 s.d, .int .i64 s.id, .int .u8 (s.r : Int), .int .i64 s.g, .int .i8 s.od, .int .i64 s.ot, .int .i64 s.n, .slice s.ba s.bn s.bc]
structure SpOk (s : Sp) : Prop where
  w : (Lit.int .i64 s.id).wf = true
  r : s.r < 256
  b : s.bn ≤ 140737488351232
/-- A list of steps that can be read. -/
def SpsAt (w : World) (a : Option Addr) (ss : List Sp) : Prop := ss ≠ [] → ∃ g o, a = some ⟨g, o, none⟩ ∧ ∀ j s, ss[j]? = some s → ∀ k v, (spc s)[k]? = some v → w.cell? ⟨g, o + j * 8 + k, none⟩ = some v
theorem SpsAt.below {w w' : World} {a : Option Addr} {ss : List Sp} (h : SpsAt w a ss) (hb : Below w.heap.size w w') : SpsAt w' a ss := fun hl => by
  obtain ⟨g, o, rfl, hc⟩ := h hl
  exact ⟨g, o, rfl, fun j s hj k v hv => (hb.cell (World.block_lt_of_cell? w _ (hc j s hj k v hv))).trans (hc j s hj k v hv)⟩
end Go.Proofs.Ytleenkdlnmoepaa
