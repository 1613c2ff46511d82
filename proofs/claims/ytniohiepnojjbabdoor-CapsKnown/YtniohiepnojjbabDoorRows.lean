/-
  NARROWER THAN 'FOR EVERY INPUT', by the rows' own cells (each row's printed sentence says how): CapsBack: laid · CapsKnown: laid.
  DERIVED. THE GIVEN ROWS OF THIS SEAT. 2 by the template 'for every input the law returns true; each argument reads behind the call as it read before'; 0 by the template 'total and deterministic' (their statements: YtniohiepnojjbabDoorTotals.lean).
  GIVEN WITH THE SEED: the statements are not yours to turn. If you find one false, say at which input.
  Laid BY PROGRAM, IN A SANDBOX (cutbox-rows.mjs): the forced cells as the released guide's own fill.sh prints them over the translation 41341fb8f705acec… (all of the seat's roots in one cut). By AI agents, Wed Nov 11 2026. No macro, syntax, notation, axiom, sorry.
-/
import Derived.Test.YtniohiepnojjbabDoorChecked
import GoSem.Claim
import GoSem.ClaimJoined
import GoSem.ClaimMapViews
import Derived.JoinedTies
import Derived.KernelRfl
namespace Go.Proofs.YtniohiepnojjbabDoor
/- THE CELL 'sum', in the pinned program and in every row, IS THE sha256 OF THE DUMP (.gsa) THAT YtniohiepnojjbabDoorProg.lean LOADS. Nothing in Lean hashes anything: it is a label: what it is worth is what the hold of that sum in a sandbox is worth. -/
noncomputable def Tryd.pinned : Pinned := { name := "ytniohiepnojjbabdoor", sum := "41341fb8f705acec25dc63b50efb5de941ad498809797bfdadbf604bfe34fff8", checked := Tryd.checked }
namespace Rows
def none {H : Type} : Left H := { results := [], args := [] }

/- WHAT THE LISTED PACKAGE-LEVEL VARIABLES READ AS WHEN THE CALL BEGINS. Each datum BY PROGRAM (the guide's laid-datum.mjs) off the statement by which the dump's own 'gosem.cut.vars' lays the variable. In a bare row this is a premise. The card (YtniohiepnojjbabDoorCards.lean) ties it to the program's text. -/
def laid_mantle_caps_words {H : Type} : DataW H := .agg [.agg [.lit (.int .u8 1), .lit (.string [119, 114, 105, 116, 101])], .agg [.lit (.int .u8 2), .lit (.string [99, 117, 116])], .agg [.lit (.int .u8 4), .lit (.string [104, 111, 108, 101, 115])], .agg [.lit (.int .u8 8), .lit (.string [115, 121, 110, 99])]]
def laid_errors_errorType {H : Type} : DataW H := .iface "internal/reflectlite.rtype" (.agg [.ptr (.lit (.string [101, 114, 114, 111, 114]))])

/-- 'mantlelaw02.CapsBack': WHATEVER THE INPUT: true; the input reads as it did. -/
def capsBackSpec : ChangeSpec := { name := "capsBack", fn := fun _ => fun
  | [d1, d2, d3] => { results := [.lit (.bool true)], args := [d1, d2, d3] }
  | _ => none }
def capsBackRow : OpenClaim := { program := "ytniohiepnojjbabdoor", sum := "41341fb8f705acec25dc63b50efb5de941ad498809797bfdadbf604bfe34fff8", func := "mantle/mantlelaw02.CapsBack", spec := "capsBack", inPlace := ["internal/abi.NoEscape", "internal/bytealg.MakeNoZero", "internal/bytealg.IndexByteString", "internal/bytealg.IndexString"], unfollowed := true, recurses := true, named := ["mantle/caps.words", "internal/bytealg.MaxLen"], apart := false, laid := [("mantle/caps.words", laid_mantle_caps_words)] }
def CapsBackSaid : Prop := capsBackRow.holds Tryd.pinned (OpenSpec.ofChange capsBackSpec)

/-- ITS FALSE NEIGHBOUR: 'it returns false'. Refute it at one input. -/
def capsBackWrong : ChangeSpec := { name := "capsBack", fn := fun _ => fun
  | [d1, d2, d3] => { results := [.lit (.bool false)], args := [d1, d2, d3] }
  | _ => none }
def CapsBackWrongFalsely : Prop := capsBackRow.holds Tryd.pinned (OpenSpec.ofChange capsBackWrong)

/-- 'mantlelaw02.CapsKnown': WHATEVER THE INPUT: true; the input reads as it did. -/
def capsKnownSpec : ChangeSpec := { name := "capsKnown", fn := fun _ => fun
  | [] => { results := [.lit (.bool true)], args := [] }
  | _ => none }
def capsKnownRow : OpenClaim := { program := "ytniohiepnojjbabdoor", sum := "41341fb8f705acec25dc63b50efb5de941ad498809797bfdadbf604bfe34fff8", func := "mantle/mantlelaw02.CapsKnown", spec := "capsKnown", inPlace := ["internal/bytealg.IndexByteString", "internal/bytealg.IndexString", "internal/reflectlite.ValueOf", "(internal/reflectlite.Value).Type", "(internal/reflectlite.Value).IsNil", "internal/reflectlite.TypeOf", "(internal/reflectlite.Value).Elem", "(internal/reflectlite.Value).Set", "internal/abi.NoEscape", "internal/bytealg.MakeNoZero"], unfollowed := true, recurses := true, named := ["internal/bytealg.MaxLen", "mantle/caps.words", "errors.errorType"], apart := false, laid := [("errors.errorType", laid_errors_errorType), ("mantle/caps.words", laid_mantle_caps_words)] }
def CapsKnownSaid : Prop := capsKnownRow.holds Tryd.pinned (OpenSpec.ofChange capsKnownSpec)

/-- ITS FALSE NEIGHBOUR: 'it returns false'. Refute it at one input. -/
def capsKnownWrong : ChangeSpec := { name := "capsKnown", fn := fun _ => fun
  | [] => { results := [.lit (.bool false)], args := [] }
  | _ => none }
def CapsKnownWrongFalsely : Prop := capsKnownRow.holds Tryd.pinned (OpenSpec.ofChange capsKnownWrong)

/- THE SECOND FORM. 'bulk': how many values and letters a reading holds, each counted each time it is reached (what is shared counts as often as it is met; a slice's spare places count too). A statement '..UptoSaid' is the law's where the arguments, and the package variables that the reading takes, are together of bulk at most 1048576: NARROWER than '..Said'. Prove '..Said' where nothing that the law and all that it calls make is longer than what came in: it says more and counts as full. Else prove '..UptoSaid'. A law counts once. -/
mutual
def uptoBulk {H : Type} : DataW H → Nat
  | .lit (.string bytes) => bytes.length + 1
  | .lit _ => 1
  | .nil => 1
  | .ptr d => uptoBulk d + 1
  | .slice elems spare => uptoBulkAll elems + uptoBulkAll spare + 1
  | .agg parts => uptoBulkAll parts + 1
  | .iface _ d => uptoBulk d + 1
  | .map entries => uptoBulkEntries entries + 1
  | .held _ => 1
def uptoBulkAll {H : Type} : List (DataW H) → Nat
  | [] => 0
  | d :: r => uptoBulk d + uptoBulkAll r
def uptoBulkEntries {H : Type} : List (Lit × DataW H) → Nat
  | [] => 0
  | x :: r => uptoBulkEntry x + uptoBulkEntries r
def uptoBulkEntry {H : Type} : Lit × DataW H → Nat
  | (.string bytes, d) => bytes.length + uptoBulk d + 1
  | (_, d) => uptoBulk d + 1
 end
def uptoSmall : (H : Type) → List (DataW H) → Bool := fun _ ds => decide (uptoBulkAll ds ≤ 1048576)
def OpenSpec.upto (s : _root_.Go.ChangeSpec) : _root_.Go.OpenSpec := { _root_.Go.OpenSpec.ofChange s with cond := some uptoSmall }

/-- 'mantlelaw02.CapsBack', WHERE WHAT IT READS IS OF BULK AT MOST 1048576: true; the input reads as it did. -/
def capsBackUptoRow : OpenClaim := { program := "ytniohiepnojjbabdoor", sum := "41341fb8f705acec25dc63b50efb5de941ad498809797bfdadbf604bfe34fff8", func := "mantle/mantlelaw02.CapsBack", spec := "capsBack", inPlace := ["internal/abi.NoEscape", "internal/bytealg.MakeNoZero", "internal/bytealg.IndexByteString", "internal/bytealg.IndexString"], unfollowed := true, recurses := true, named := ["mantle/caps.words", "internal/bytealg.MaxLen"], apart := false, laid := [("mantle/caps.words", laid_mantle_caps_words)], narrowed := true }
def CapsBackUptoSaid : Prop := capsBackUptoRow.holds Tryd.pinned (OpenSpec.upto capsBackSpec)

/-- 'mantlelaw02.CapsKnown', WHERE WHAT IT READS IS OF BULK AT MOST 1048576: true; the input reads as it did. -/
def capsKnownUptoRow : OpenClaim := { program := "ytniohiepnojjbabdoor", sum := "41341fb8f705acec25dc63b50efb5de941ad498809797bfdadbf604bfe34fff8", func := "mantle/mantlelaw02.CapsKnown", spec := "capsKnown", inPlace := ["internal/bytealg.IndexByteString", "internal/bytealg.IndexString", "internal/reflectlite.ValueOf", "(internal/reflectlite.Value).Type", "(internal/reflectlite.Value).IsNil", "internal/reflectlite.TypeOf", "(internal/reflectlite.Value).Elem", "(internal/reflectlite.Value).Set", "internal/abi.NoEscape", "internal/bytealg.MakeNoZero"], unfollowed := true, recurses := true, named := ["internal/bytealg.MaxLen", "mantle/caps.words", "errors.errorType"], apart := false, laid := [("errors.errorType", laid_errors_errorType), ("mantle/caps.words", laid_mantle_caps_words)], narrowed := true }
def CapsKnownUptoSaid : Prop := capsKnownUptoRow.holds Tryd.pinned (OpenSpec.upto capsKnownSpec)

end Rows
end Go.Proofs.YtniohiepnojjbabDoor
