/-
  No cell of these rows narrows 'for every input' (looked for: loops, veiled, ifaces, maps, wideKeys, modest, calm, conditions, laid).
  DERIVED. THE GIVEN ROWS OF THIS SEAT. 4 by the template 'for every input the law returns true; each argument reads behind the call as it read before'; 0 by the template 'total and deterministic' (their statements: YtleenkdlnmoepaaTotals.lean).
  GIVEN WITH THE SEED: the statements are not yours to turn. If you find one false, say at which input.
  Laid BY PROGRAM, IN A SANDBOX (cutbox-rows.mjs): the forced cells as the released guide's own fill.sh prints them over the translation 88cee23d2f5b0a5d… (all of the seat's roots in one cut). By AI agents, Wed Nov 11 2026. No macro, syntax, notation, axiom, sorry.
-/
import Derived.Test.YtleenkdlnmoepaaChecked
import GoSem.Claim
import GoSem.ClaimJoined
import GoSem.ClaimMapViews
import Derived.JoinedTies
import Derived.KernelRfl
namespace Go.Proofs.Ytleenkdlnmoepaa
/- THE CELL 'sum', in the pinned program and in every row, IS THE sha256 OF THE DUMP (.gsa) THAT YtleenkdlnmoepaaProg.lean LOADS. Nothing in Lean hashes anything: it is a label: what it is worth is what the hold of that sum in a sandbox is worth. -/
noncomputable def Try.pinned : Pinned := { name := "ytleenkdlnmoepaa", sum := "88cee23d2f5b0a5da6bc9b042792c2c3aa09c72d999d102d1a6b52503b57d67d", checked := Try.checked }
namespace Rows
def none {H : Type} : Left H := { results := [], args := [] }

/-- 'mantlelaw17.RightsNil': WHATEVER THE INPUT: true; the input reads as it did. -/
def rightsNilSpec : ChangeSpec := { name := "rightsNil", fn := fun _ => fun
  | [d1, d2] => { results := [.lit (.bool true)], args := [d1, d2] }
  | _ => none }
def rightsNilRow : OpenClaim := { program := "ytleenkdlnmoepaa", sum := "88cee23d2f5b0a5da6bc9b042792c2c3aa09c72d999d102d1a6b52503b57d67d", func := "mantle/mantlelaw17.RightsNil", spec := "rightsNil", inPlace := ["slices.overlaps[mantle/span.stretch]"], unfollowed := true, recurses := true, apart := false }
def RightsNilSaid : Prop := rightsNilRow.holds Try.pinned (OpenSpec.ofChange rightsNilSpec)

/-- ITS FALSE NEIGHBOUR: 'it returns false'. Refute it at one input. -/
def rightsNilWrong : ChangeSpec := { name := "rightsNil", fn := fun _ => fun
  | [d1, d2] => { results := [.lit (.bool false)], args := [d1, d2] }
  | _ => none }
def RightsNilWrongFalsely : Prop := rightsNilRow.holds Try.pinned (OpenSpec.ofChange rightsNilWrong)

/-- 'mantlelaw17.RightsFall': WHATEVER THE INPUT: true; the input reads as it did. -/
def rightsFallSpec : ChangeSpec := { name := "rightsFall", fn := fun _ => fun
  | [d] => { results := [.lit (.bool true)], args := [d] }
  | _ => none }
def rightsFallRow : OpenClaim := { program := "ytleenkdlnmoepaa", sum := "88cee23d2f5b0a5da6bc9b042792c2c3aa09c72d999d102d1a6b52503b57d67d", func := "mantle/mantlelaw17.RightsFall", spec := "rightsFall", inPlace := ["slices.overlaps[mantle/span.stretch]"], unfollowed := true, recurses := true, apart := false }
def RightsFallSaid : Prop := rightsFallRow.holds Try.pinned (OpenSpec.ofChange rightsFallSpec)

/-- ITS FALSE NEIGHBOUR: 'it returns false'. Refute it at one input. -/
def rightsFallWrong : ChangeSpec := { name := "rightsFall", fn := fun _ => fun
  | [d] => { results := [.lit (.bool false)], args := [d] }
  | _ => none }
def RightsFallWrongFalsely : Prop := rightsFallRow.holds Try.pinned (OpenSpec.ofChange rightsFallWrong)

/-- 'mantlelaw17.RightsGuards': WHATEVER THE INPUT: true; the input reads as it did. -/
def rightsGuardsSpec : ChangeSpec := { name := "rightsGuards", fn := fun _ => fun
  | [d1, d2, d3, d4] => { results := [.lit (.bool true)], args := [d1, d2, d3, d4] }
  | _ => none }
def rightsGuardsRow : OpenClaim := { program := "ytleenkdlnmoepaa", sum := "88cee23d2f5b0a5da6bc9b042792c2c3aa09c72d999d102d1a6b52503b57d67d", func := "mantle/mantlelaw17.RightsGuards", spec := "rightsGuards", inPlace := ["slices.overlaps[mantle/span.stretch]"], unfollowed := true, recurses := true, apart := false }
def RightsGuardsSaid : Prop := rightsGuardsRow.holds Try.pinned (OpenSpec.ofChange rightsGuardsSpec)

/-- ITS FALSE NEIGHBOUR: 'it returns false'. Refute it at one input. -/
def rightsGuardsWrong : ChangeSpec := { name := "rightsGuards", fn := fun _ => fun
  | [d1, d2, d3, d4] => { results := [.lit (.bool false)], args := [d1, d2, d3, d4] }
  | _ => none }
def RightsGuardsWrongFalsely : Prop := rightsGuardsRow.holds Try.pinned (OpenSpec.ofChange rightsGuardsWrong)

/-- 'mantlelaw17.RightsKnown': WHATEVER THE INPUT: true; the input reads as it did. -/
def rightsKnownSpec : ChangeSpec := { name := "rightsKnown", fn := fun _ => fun
  | [] => { results := [.lit (.bool true)], args := [] }
  | _ => none }
def rightsKnownRow : OpenClaim := { program := "ytleenkdlnmoepaa", sum := "88cee23d2f5b0a5da6bc9b042792c2c3aa09c72d999d102d1a6b52503b57d67d", func := "mantle/mantlelaw17.RightsKnown", spec := "rightsKnown", inPlace := ["slices.overlaps[mantle/span.stretch]"], unfollowed := true, recurses := true, apart := false }
def RightsKnownSaid : Prop := rightsKnownRow.holds Try.pinned (OpenSpec.ofChange rightsKnownSpec)

/-- ITS FALSE NEIGHBOUR: 'it returns false'. Refute it at one input. -/
def rightsKnownWrong : ChangeSpec := { name := "rightsKnown", fn := fun _ => fun
  | [] => { results := [.lit (.bool false)], args := [] }
  | _ => none }
def RightsKnownWrongFalsely : Prop := rightsKnownRow.holds Try.pinned (OpenSpec.ofChange rightsKnownWrong)

/- THE SECOND FORM. 'bulk': how many values and letters a reading holds, each counted each time it is reached (what is shared counts as often as it is met; a slice's spare places count too). A statement '..UptoSaid' is the law's where the arguments, and the package variables that the reading takes, are together of bulk at most 1048576: NARROWER than '..Said'. Prove '..Said' where nothing that the law and all that it calls make is longer than what came in: it says more and counts as full. Else prove '..UptoSaid'. A law counts once. -/
mutual
def uptoBulk {H : Type} : DataW H → Nat
  | .lit (.string bytes) => bytes.length + 1
  | .lit _ => 1
  | .nil => 1
  | .ptr d => uptoBulk d + 1
  | .slice elems spare => uptoBulkAll elems + uptoBulkAll spare + 1
  | .agg parts => uptoBulkAll parts + 1
  | .iface _ d => uptoBulk d + 1
  | .map entries => uptoBulkEntries entries + 1
  | .held _ => 1
def uptoBulkAll {H : Type} : List (DataW H) → Nat
  | [] => 0
  | d :: r => uptoBulk d + uptoBulkAll r
def uptoBulkEntries {H : Type} : List (Lit × DataW H) → Nat
  | [] => 0
  | x :: r => uptoBulkEntry x + uptoBulkEntries r
def uptoBulkEntry {H : Type} : Lit × DataW H → Nat
  | (.string bytes, d) => bytes.length + uptoBulk d + 1
  | (_, d) => uptoBulk d + 1
 end
def uptoSmall : (H : Type) → List (DataW H) → Bool := fun _ ds => decide (uptoBulkAll ds ≤ 1048576)
def OpenSpec.upto (s : _root_.Go.ChangeSpec) : _root_.Go.OpenSpec := { _root_.Go.OpenSpec.ofChange s with cond := some uptoSmall }

/-- 'mantlelaw17.RightsNil', WHERE WHAT IT READS IS OF BULK AT MOST 1048576: true; the input reads as it did. -/
def rightsNilUptoRow : OpenClaim := { program := "ytleenkdlnmoepaa", sum := "88cee23d2f5b0a5da6bc9b042792c2c3aa09c72d999d102d1a6b52503b57d67d", func := "mantle/mantlelaw17.RightsNil", spec := "rightsNil", inPlace := ["slices.overlaps[mantle/span.stretch]"], unfollowed := true, recurses := true, apart := false, narrowed := true }
def RightsNilUptoSaid : Prop := rightsNilUptoRow.holds Try.pinned (OpenSpec.upto rightsNilSpec)

/-- 'mantlelaw17.RightsFall', WHERE WHAT IT READS IS OF BULK AT MOST 1048576: true; the input reads as it did. -/
def rightsFallUptoRow : OpenClaim := { program := "ytleenkdlnmoepaa", sum := "88cee23d2f5b0a5da6bc9b042792c2c3aa09c72d999d102d1a6b52503b57d67d", func := "mantle/mantlelaw17.RightsFall", spec := "rightsFall", inPlace := ["slices.overlaps[mantle/span.stretch]"], unfollowed := true, recurses := true, apart := false, narrowed := true }
def RightsFallUptoSaid : Prop := rightsFallUptoRow.holds Try.pinned (OpenSpec.upto rightsFallSpec)

/-- 'mantlelaw17.RightsGuards', WHERE WHAT IT READS IS OF BULK AT MOST 1048576: true; the input reads as it did. -/
def rightsGuardsUptoRow : OpenClaim := { program := "ytleenkdlnmoepaa", sum := "88cee23d2f5b0a5da6bc9b042792c2c3aa09c72d999d102d1a6b52503b57d67d", func := "mantle/mantlelaw17.RightsGuards", spec := "rightsGuards", inPlace := ["slices.overlaps[mantle/span.stretch]"], unfollowed := true, recurses := true, apart := false, narrowed := true }
def RightsGuardsUptoSaid : Prop := rightsGuardsUptoRow.holds Try.pinned (OpenSpec.upto rightsGuardsSpec)

/-- 'mantlelaw17.RightsKnown', WHERE WHAT IT READS IS OF BULK AT MOST 1048576: true; the input reads as it did. -/
def rightsKnownUptoRow : OpenClaim := { program := "ytleenkdlnmoepaa", sum := "88cee23d2f5b0a5da6bc9b042792c2c3aa09c72d999d102d1a6b52503b57d67d", func := "mantle/mantlelaw17.RightsKnown", spec := "rightsKnown", inPlace := ["slices.overlaps[mantle/span.stretch]"], unfollowed := true, recurses := true, apart := false, narrowed := true }
def RightsKnownUptoSaid : Prop := rightsKnownUptoRow.holds Try.pinned (OpenSpec.upto rightsKnownSpec)

end Rows
end Go.Proofs.Ytleenkdlnmoepaa
