/-
  No cell of these rows narrows 'for every input' (looked for: loops, veiled, ifaces, maps, wideKeys, modest, calm, conditions, laid).
  DERIVED. THE GIVEN ROWS OF THIS SEAT. 5 by the template 'for every input the law returns true; each argument reads behind the call as it read before'; 0 by the template 'total and deterministic' (their statements: YtgmalgfgealdcaaTotals.lean).
  GIVEN WITH THE SEED: the statements are not yours to turn. If you find one false, say at which input.
  Laid BY PROGRAM, IN A SANDBOX (cutbox-rows.mjs): the forced cells as the released guide's own fill.sh prints them over the translation a010ac55a004b8e8… (all of the seat's roots in one cut). By AI agents, Wed Nov 11 2026. No macro, syntax, notation, axiom, sorry.
-/
import Derived.Test.YtgmalgfgealdcaaChecked
import GoSem.Claim
import GoSem.ClaimJoined
import GoSem.ClaimMapViews
import Derived.JoinedTies
import Derived.KernelRfl
namespace Go.Proofs.Ytgmalgfgealdcaa
/- THE CELL 'sum', in the pinned program and in every row, IS THE sha256 OF THE DUMP (.gsa) THAT YtgmalgfgealdcaaProg.lean LOADS. Nothing in Lean hashes anything: it is a label: what it is worth is what the hold of that sum in a sandbox is worth. -/
noncomputable def Try.pinned : Pinned := { name := "ytgmalgfgealdcaa", sum := "a010ac55a004b8e8738a9042b88b5bd0e628e71205ef1a04e16fc77b37edb3a0", checked := Try.checked }
namespace Rows
def none {H : Type} : Left H := { results := [], args := [] }

/-- 'mantlelaw04.MemoryPlays': WHATEVER THE INPUT: true; the input reads as it did. -/
def memoryPlaysSpec : ChangeSpec := { name := "memoryPlays", fn := fun _ => fun
  | [d1, d2, d3] => { results := [.lit (.bool true)], args := [d1, d2, d3] }
  | _ => none }
def memoryPlaysRow : OpenClaim := { program := "ytgmalgfgealdcaa", sum := "a010ac55a004b8e8738a9042b88b5bd0e628e71205ef1a04e16fc77b37edb3a0", func := "mantle/mantlelaw04.MemoryPlays", spec := "memoryPlays", inPlace := ["slices.overlaps[mantle/span.stretch]"], unfollowed := true, recurses := true, apart := false }
def MemoryPlaysSaid : Prop := memoryPlaysRow.holds Try.pinned (OpenSpec.ofChange memoryPlaysSpec)

/-- ITS FALSE NEIGHBOUR: 'it returns false'. Refute it at one input. -/
def memoryPlaysWrong : ChangeSpec := { name := "memoryPlays", fn := fun _ => fun
  | [d1, d2, d3] => { results := [.lit (.bool false)], args := [d1, d2, d3] }
  | _ => none }
def MemoryPlaysWrongFalsely : Prop := memoryPlaysRow.holds Try.pinned (OpenSpec.ofChange memoryPlaysWrong)

/-- 'mantlelaw04.MemoryShares': WHATEVER THE INPUT: true; the input reads as it did. -/
def memorySharesSpec : ChangeSpec := { name := "memoryShares", fn := fun _ => fun
  | [d1, d2, d3] => { results := [.lit (.bool true)], args := [d1, d2, d3] }
  | _ => none }
def memorySharesRow : OpenClaim := { program := "ytgmalgfgealdcaa", sum := "a010ac55a004b8e8738a9042b88b5bd0e628e71205ef1a04e16fc77b37edb3a0", func := "mantle/mantlelaw04.MemoryShares", spec := "memoryShares", inPlace := ["slices.overlaps[mantle/span.stretch]"], unfollowed := true, recurses := true, apart := false }
def MemorySharesSaid : Prop := memorySharesRow.holds Try.pinned (OpenSpec.ofChange memorySharesSpec)

/-- ITS FALSE NEIGHBOUR: 'it returns false'. Refute it at one input. -/
def memorySharesWrong : ChangeSpec := { name := "memoryShares", fn := fun _ => fun
  | [d1, d2, d3] => { results := [.lit (.bool false)], args := [d1, d2, d3] }
  | _ => none }
def MemorySharesWrongFalsely : Prop := memorySharesRow.holds Try.pinned (OpenSpec.ofChange memorySharesWrong)

/-- 'mantlelaw04.MemoryBounds': WHATEVER THE INPUT: true; the input reads as it did. -/
def memoryBoundsSpec : ChangeSpec := { name := "memoryBounds", fn := fun _ => fun
  | [] => { results := [.lit (.bool true)], args := [] }
  | _ => none }
def memoryBoundsRow : OpenClaim := { program := "ytgmalgfgealdcaa", sum := "a010ac55a004b8e8738a9042b88b5bd0e628e71205ef1a04e16fc77b37edb3a0", func := "mantle/mantlelaw04.MemoryBounds", spec := "memoryBounds", inPlace := ["slices.overlaps[mantle/span.stretch]"], unfollowed := true, recurses := true, apart := false }
def MemoryBoundsSaid : Prop := memoryBoundsRow.holds Try.pinned (OpenSpec.ofChange memoryBoundsSpec)

/-- ITS FALSE NEIGHBOUR: 'it returns false'. Refute it at one input. -/
def memoryBoundsWrong : ChangeSpec := { name := "memoryBounds", fn := fun _ => fun
  | [] => { results := [.lit (.bool false)], args := [] }
  | _ => none }
def MemoryBoundsWrongFalsely : Prop := memoryBoundsRow.holds Try.pinned (OpenSpec.ofChange memoryBoundsWrong)

/-- 'mantlelaw04.MemoryNil': WHATEVER THE INPUT: true; the input reads as it did. -/
def memoryNilSpec : ChangeSpec := { name := "memoryNil", fn := fun _ => fun
  | [d] => { results := [.lit (.bool true)], args := [d] }
  | _ => none }
def memoryNilRow : OpenClaim := { program := "ytgmalgfgealdcaa", sum := "a010ac55a004b8e8738a9042b88b5bd0e628e71205ef1a04e16fc77b37edb3a0", func := "mantle/mantlelaw04.MemoryNil", spec := "memoryNil", inPlace := ["slices.overlaps[mantle/span.stretch]"], unfollowed := true, recurses := true, apart := false }
def MemoryNilSaid : Prop := memoryNilRow.holds Try.pinned (OpenSpec.ofChange memoryNilSpec)

/-- ITS FALSE NEIGHBOUR: 'it returns false'. Refute it at one input. -/
def memoryNilWrong : ChangeSpec := { name := "memoryNil", fn := fun _ => fun
  | [d] => { results := [.lit (.bool false)], args := [d] }
  | _ => none }
def MemoryNilWrongFalsely : Prop := memoryNilRow.holds Try.pinned (OpenSpec.ofChange memoryNilWrong)

/-- 'mantlelaw04.MemoryBack': WHATEVER THE INPUT: true; the input reads as it did. -/
def memoryBackSpec : ChangeSpec := { name := "memoryBack", fn := fun _ => fun
  | [d1, d2, d3] => { results := [.lit (.bool true)], args := [d1, d2, d3] }
  | _ => none }
def memoryBackRow : OpenClaim := { program := "ytgmalgfgealdcaa", sum := "a010ac55a004b8e8738a9042b88b5bd0e628e71205ef1a04e16fc77b37edb3a0", func := "mantle/mantlelaw04.MemoryBack", spec := "memoryBack", inPlace := ["slices.overlaps[mantle/span.stretch]"], unfollowed := true, recurses := true, apart := false }
def MemoryBackSaid : Prop := memoryBackRow.holds Try.pinned (OpenSpec.ofChange memoryBackSpec)

/-- ITS FALSE NEIGHBOUR: 'it returns false'. Refute it at one input. -/
def memoryBackWrong : ChangeSpec := { name := "memoryBack", fn := fun _ => fun
  | [d1, d2, d3] => { results := [.lit (.bool false)], args := [d1, d2, d3] }
  | _ => none }
def MemoryBackWrongFalsely : Prop := memoryBackRow.holds Try.pinned (OpenSpec.ofChange memoryBackWrong)

/- THE SECOND FORM. 'bulk': how many values and letters a reading holds, each counted each time it is reached (what is shared counts as often as it is met; a slice's spare places count too). A statement '..UptoSaid' is the law's where the arguments, and the package variables that the reading takes, are together of bulk at most 1048576: NARROWER than '..Said'. Prove '..Said' where nothing that the law and all that it calls make is longer than what came in: it says more and counts as full. Else prove '..UptoSaid'. A law counts once. -/
mutual
def uptoBulk {H : Type} : DataW H → Nat
  | .lit (.string bytes) => bytes.length + 1
  | .lit _ => 1
  | .nil => 1
  | .ptr d => uptoBulk d + 1
  | .slice elems spare => uptoBulkAll elems + uptoBulkAll spare + 1
  | .agg parts => uptoBulkAll parts + 1
  | .iface _ d => uptoBulk d + 1
  | .map entries => uptoBulkEntries entries + 1
  | .held _ => 1
def uptoBulkAll {H : Type} : List (DataW H) → Nat
  | [] => 0
  | d :: r => uptoBulk d + uptoBulkAll r
def uptoBulkEntries {H : Type} : List (Lit × DataW H) → Nat
  | [] => 0
  | x :: r => uptoBulkEntry x + uptoBulkEntries r
def uptoBulkEntry {H : Type} : Lit × DataW H → Nat
  | (.string bytes, d) => bytes.length + uptoBulk d + 1
  | (_, d) => uptoBulk d + 1
 end
def uptoSmall : (H : Type) → List (DataW H) → Bool := fun _ ds => decide (uptoBulkAll ds ≤ 1048576)
def OpenSpec.upto (s : _root_.Go.ChangeSpec) : _root_.Go.OpenSpec := { _root_.Go.OpenSpec.ofChange s with cond := some uptoSmall }

/-- 'mantlelaw04.MemoryPlays', WHERE WHAT IT READS IS OF BULK AT MOST 1048576: true; the input reads as it did. -/
def memoryPlaysUptoRow : OpenClaim := { program := "ytgmalgfgealdcaa", sum := "a010ac55a004b8e8738a9042b88b5bd0e628e71205ef1a04e16fc77b37edb3a0", func := "mantle/mantlelaw04.MemoryPlays", spec := "memoryPlays", inPlace := ["slices.overlaps[mantle/span.stretch]"], unfollowed := true, recurses := true, apart := false, narrowed := true }
def MemoryPlaysUptoSaid : Prop := memoryPlaysUptoRow.holds Try.pinned (OpenSpec.upto memoryPlaysSpec)

/-- 'mantlelaw04.MemoryShares', WHERE WHAT IT READS IS OF BULK AT MOST 1048576: true; the input reads as it did. -/
def memorySharesUptoRow : OpenClaim := { program := "ytgmalgfgealdcaa", sum := "a010ac55a004b8e8738a9042b88b5bd0e628e71205ef1a04e16fc77b37edb3a0", func := "mantle/mantlelaw04.MemoryShares", spec := "memoryShares", inPlace := ["slices.overlaps[mantle/span.stretch]"], unfollowed := true, recurses := true, apart := false, narrowed := true }
def MemorySharesUptoSaid : Prop := memorySharesUptoRow.holds Try.pinned (OpenSpec.upto memorySharesSpec)

/-- 'mantlelaw04.MemoryBounds', WHERE WHAT IT READS IS OF BULK AT MOST 1048576: true; the input reads as it did. -/
def memoryBoundsUptoRow : OpenClaim := { program := "ytgmalgfgealdcaa", sum := "a010ac55a004b8e8738a9042b88b5bd0e628e71205ef1a04e16fc77b37edb3a0", func := "mantle/mantlelaw04.MemoryBounds", spec := "memoryBounds", inPlace := ["slices.overlaps[mantle/span.stretch]"], unfollowed := true, recurses := true, apart := false, narrowed := true }
def MemoryBoundsUptoSaid : Prop := memoryBoundsUptoRow.holds Try.pinned (OpenSpec.upto memoryBoundsSpec)

/-- 'mantlelaw04.MemoryNil', WHERE WHAT IT READS IS OF BULK AT MOST 1048576: true; the input reads as it did. -/
def memoryNilUptoRow : OpenClaim := { program := "ytgmalgfgealdcaa", sum := "a010ac55a004b8e8738a9042b88b5bd0e628e71205ef1a04e16fc77b37edb3a0", func := "mantle/mantlelaw04.MemoryNil", spec := "memoryNil", inPlace := ["slices.overlaps[mantle/span.stretch]"], unfollowed := true, recurses := true, apart := false, narrowed := true }
def MemoryNilUptoSaid : Prop := memoryNilUptoRow.holds Try.pinned (OpenSpec.upto memoryNilSpec)

/-- 'mantlelaw04.MemoryBack', WHERE WHAT IT READS IS OF BULK AT MOST 1048576: true; the input reads as it did. -/
def memoryBackUptoRow : OpenClaim := { program := "ytgmalgfgealdcaa", sum := "a010ac55a004b8e8738a9042b88b5bd0e628e71205ef1a04e16fc77b37edb3a0", func := "mantle/mantlelaw04.MemoryBack", spec := "memoryBack", inPlace := ["slices.overlaps[mantle/span.stretch]"], unfollowed := true, recurses := true, apart := false, narrowed := true }
def MemoryBackUptoSaid : Prop := memoryBackUptoRow.holds Try.pinned (OpenSpec.upto memoryBackSpec)

end Rows
end Go.Proofs.Ytgmalgfgealdcaa
