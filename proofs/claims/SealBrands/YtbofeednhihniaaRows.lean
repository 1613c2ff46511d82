/-
  No cell of these rows narrows 'for every input' (looked for: loops, veiled, ifaces, maps, wideKeys, modest, calm, conditions, laid).
  DERIVED. THE GIVEN ROWS OF THIS SEAT. 3 by the template 'for every input the law returns true; each argument reads behind the call as it read before'; 0 by the template 'total and deterministic' (their statements: YtbofeednhihniaaTotals.lean).
  GIVEN WITH THE SEED: the statements are not yours to turn. If you find one false, say at which input.
  Laid BY PROGRAM, IN A SANDBOX (cutbox-rows.mjs): the forced cells as the released guide's own fill.sh prints them over the translation 508fa6bd5ec5a25b… (all of the seat's roots in one cut). By AI agents, Wed Nov 11 2026. No macro, syntax, notation, axiom, sorry.
-/
import Derived.Test.YtbofeednhihniaaChecked
import GoSem.Claim
import GoSem.ClaimJoined
import GoSem.ClaimMapViews
import Derived.JoinedTies
import Derived.KernelRfl
namespace Go.Proofs.Ytbofeednhihniaa
/- THE CELL 'sum', in the pinned program and in every row, IS THE sha256 OF THE DUMP (.gsa) THAT YtbofeednhihniaaProg.lean LOADS. Nothing in Lean hashes anything: it is a label: what it is worth is what the hold of that sum in a sandbox is worth. -/
noncomputable def Try.pinned : Pinned := { name := "ytbofeednhihniaa", sum := "508fa6bd5ec5a25b1677228e7fabdf665ef639f4c753359c74de947313975917", checked := Try.checked }
namespace Rows
def none {H : Type} : Left H := { results := [], args := [] }

/-- 'mantlelaw16.SealBrands': WHATEVER THE INPUT: true; the input reads as it did. -/
def sealBrandsSpec : ChangeSpec := { name := "sealBrands", fn := fun _ => fun
  | [d] => { results := [.lit (.bool true)], args := [d] }
  | _ => none }
def sealBrandsRow : OpenClaim := { program := "ytbofeednhihniaa", sum := "508fa6bd5ec5a25b1677228e7fabdf665ef639f4c753359c74de947313975917", func := "mantle/mantlelaw16.SealBrands", spec := "sealBrands", inPlace := ["slices.overlaps[mantle/span.stretch]"], unfollowed := true, recurses := true, apart := false }
def SealBrandsSaid : Prop := sealBrandsRow.holds Try.pinned (OpenSpec.ofChange sealBrandsSpec)

/-- ITS FALSE NEIGHBOUR: 'it returns false'. Refute it at one input. -/
def sealBrandsWrong : ChangeSpec := { name := "sealBrands", fn := fun _ => fun
  | [d] => { results := [.lit (.bool false)], args := [d] }
  | _ => none }
def SealBrandsWrongFalsely : Prop := sealBrandsRow.holds Try.pinned (OpenSpec.ofChange sealBrandsWrong)

/-- 'mantlelaw16.SealNil': WHATEVER THE INPUT: true; the input reads as it did. -/
def sealNilSpec : ChangeSpec := { name := "sealNil", fn := fun _ => fun
  | [d] => { results := [.lit (.bool true)], args := [d] }
  | _ => none }
def sealNilRow : OpenClaim := { program := "ytbofeednhihniaa", sum := "508fa6bd5ec5a25b1677228e7fabdf665ef639f4c753359c74de947313975917", func := "mantle/mantlelaw16.SealNil", spec := "sealNil", inPlace := ["slices.overlaps[mantle/span.stretch]"], unfollowed := true, recurses := true, apart := false }
def SealNilSaid : Prop := sealNilRow.holds Try.pinned (OpenSpec.ofChange sealNilSpec)

/-- ITS FALSE NEIGHBOUR: 'it returns false'. Refute it at one input. -/
def sealNilWrong : ChangeSpec := { name := "sealNil", fn := fun _ => fun
  | [d] => { results := [.lit (.bool false)], args := [d] }
  | _ => none }
def SealNilWrongFalsely : Prop := sealNilRow.holds Try.pinned (OpenSpec.ofChange sealNilWrong)

/-- 'mantlelaw16.SealOnce': WHATEVER THE INPUT: true; the input reads as it did. -/
def sealOnceSpec : ChangeSpec := { name := "sealOnce", fn := fun _ => fun
  | [d1, d2, d3] => { results := [.lit (.bool true)], args := [d1, d2, d3] }
  | _ => none }
def sealOnceRow : OpenClaim := { program := "ytbofeednhihniaa", sum := "508fa6bd5ec5a25b1677228e7fabdf665ef639f4c753359c74de947313975917", func := "mantle/mantlelaw16.SealOnce", spec := "sealOnce", inPlace := ["slices.overlaps[mantle/span.stretch]"], unfollowed := true, recurses := true, apart := false }
def SealOnceSaid : Prop := sealOnceRow.holds Try.pinned (OpenSpec.ofChange sealOnceSpec)

/-- ITS FALSE NEIGHBOUR: 'it returns false'. Refute it at one input. -/
def sealOnceWrong : ChangeSpec := { name := "sealOnce", fn := fun _ => fun
  | [d1, d2, d3] => { results := [.lit (.bool false)], args := [d1, d2, d3] }
  | _ => none }
def SealOnceWrongFalsely : Prop := sealOnceRow.holds Try.pinned (OpenSpec.ofChange sealOnceWrong)

/- THE SECOND FORM. 'bulk': how many values and letters a reading holds, each counted each time it is reached (what is shared counts as often as it is met; a slice's spare places count too). A statement '..UptoSaid' is the law's where the arguments, and the package variables that the reading takes, are together of bulk at most 1048576: NARROWER than '..Said'. Prove '..Said' where nothing that the law and all that it calls make is longer than what came in: it says more and counts as full. Else prove '..UptoSaid'. A law counts once. -/
mutual
def uptoBulk {H : Type} : DataW H → Nat
  | .lit (.string bytes) => bytes.length + 1
  | .lit _ => 1
  | .nil => 1
  | .ptr d => uptoBulk d + 1
  | .slice elems spare => uptoBulkAll elems + uptoBulkAll spare + 1
  | .agg parts => uptoBulkAll parts + 1
  | .iface _ d => uptoBulk d + 1
  | .map entries => uptoBulkEntries entries + 1
  | .held _ => 1
def uptoBulkAll {H : Type} : List (DataW H) → Nat
  | [] => 0
  | d :: r => uptoBulk d + uptoBulkAll r
def uptoBulkEntries {H : Type} : List (Lit × DataW H) → Nat
  | [] => 0
  | x :: r => uptoBulkEntry x + uptoBulkEntries r
def uptoBulkEntry {H : Type} : Lit × DataW H → Nat
  | (.string bytes, d) => bytes.length + uptoBulk d + 1
  | (_, d) => uptoBulk d + 1
 end
def uptoSmall : (H : Type) → List (DataW H) → Bool := fun _ ds => decide (uptoBulkAll ds ≤ 1048576)
def OpenSpec.upto (s : _root_.Go.ChangeSpec) : _root_.Go.OpenSpec := { _root_.Go.OpenSpec.ofChange s with cond := some uptoSmall }

/-- 'mantlelaw16.SealBrands', WHERE WHAT IT READS IS OF BULK AT MOST 1048576: true; the input reads as it did. -/
def sealBrandsUptoRow : OpenClaim := { program := "ytbofeednhihniaa", sum := "508fa6bd5ec5a25b1677228e7fabdf665ef639f4c753359c74de947313975917", func := "mantle/mantlelaw16.SealBrands", spec := "sealBrands", inPlace := ["slices.overlaps[mantle/span.stretch]"], unfollowed := true, recurses := true, apart := false, narrowed := true }
def SealBrandsUptoSaid : Prop := sealBrandsUptoRow.holds Try.pinned (OpenSpec.upto sealBrandsSpec)

/-- 'mantlelaw16.SealNil', WHERE WHAT IT READS IS OF BULK AT MOST 1048576: true; the input reads as it did. -/
def sealNilUptoRow : OpenClaim := { program := "ytbofeednhihniaa", sum := "508fa6bd5ec5a25b1677228e7fabdf665ef639f4c753359c74de947313975917", func := "mantle/mantlelaw16.SealNil", spec := "sealNil", inPlace := ["slices.overlaps[mantle/span.stretch]"], unfollowed := true, recurses := true, apart := false, narrowed := true }
def SealNilUptoSaid : Prop := sealNilUptoRow.holds Try.pinned (OpenSpec.upto sealNilSpec)

/-- 'mantlelaw16.SealOnce', WHERE WHAT IT READS IS OF BULK AT MOST 1048576: true; the input reads as it did. -/
def sealOnceUptoRow : OpenClaim := { program := "ytbofeednhihniaa", sum := "508fa6bd5ec5a25b1677228e7fabdf665ef639f4c753359c74de947313975917", func := "mantle/mantlelaw16.SealOnce", spec := "sealOnce", inPlace := ["slices.overlaps[mantle/span.stretch]"], unfollowed := true, recurses := true, apart := false, narrowed := true }
def SealOnceUptoSaid : Prop := sealOnceUptoRow.holds Try.pinned (OpenSpec.upto sealOnceSpec)

end Rows
end Go.Proofs.Ytbofeednhihniaa
