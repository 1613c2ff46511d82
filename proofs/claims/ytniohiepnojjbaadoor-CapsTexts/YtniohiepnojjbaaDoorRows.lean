/-
  NARROWER THAN 'FOR EVERY INPUT', by the rows' own cells (each row's printed sentence says how): CapsTexts: laid · CapsSets: laid · CapsOver: laid · CapsStack: laid · CapsRises: laid · CapsFolds: laid.
  DERIVED. THE GIVEN ROWS OF THIS SEAT. 6 by the template 'for every input the law returns true; each argument reads behind the call as it read before'; 0 by the template 'total and deterministic' (their statements: YtniohiepnojjbaaDoorTotals.lean).
  GIVEN WITH THE SEED: the statements are not yours to turn. If you find one false, say at which input.
  Laid BY PROGRAM, IN A SANDBOX (cutbox-rows.mjs): the forced cells as the released guide's own fill.sh prints them over the translation 0c58fcc641993c34… (all of the seat's roots in one cut). By AI agents, Wed Nov 11 2026. No macro, syntax, notation, axiom, sorry.
-/
import Derived.Test.YtniohiepnojjbaaDoorChecked
import GoSem.Claim
import GoSem.ClaimJoined
import GoSem.ClaimMapViews
import Derived.JoinedTies
import Derived.KernelRfl
namespace Go.Proofs.YtniohiepnojjbaaDoor
/- THE CELL 'sum', in the pinned program and in every row, IS THE sha256 OF THE DUMP (.gsa) THAT YtniohiepnojjbaaDoorProg.lean LOADS. Nothing in Lean hashes anything: it is a label: what it is worth is what the hold of that sum in a sandbox is worth. -/
noncomputable def Tryd.pinned : Pinned := { name := "ytniohiepnojjbaadoor", sum := "0c58fcc641993c34c716b69a491f3ef0fb74e7c73d7ca8a41205d49db002ea79", checked := Tryd.checked }
namespace Rows
def none {H : Type} : Left H := { results := [], args := [] }

/- WHAT THE LISTED PACKAGE-LEVEL VARIABLES READ AS WHEN THE CALL BEGINS. Each datum BY PROGRAM (the guide's laid-datum.mjs) off the statement by which the dump's own 'gosem.cut.vars' lays the variable. In a bare row this is a premise. The card (YtniohiepnojjbaaDoorCards.lean) ties it to the program's text. -/
def laid_errors_errorType {H : Type} : DataW H := .iface "internal/reflectlite.rtype" (.agg [.ptr (.lit (.string [101, 114, 114, 111, 114]))])
def laid_mantle_caps_words {H : Type} : DataW H := .agg [.agg [.lit (.int .u8 1), .lit (.string [119, 114, 105, 116, 101])], .agg [.lit (.int .u8 2), .lit (.string [99, 117, 116])], .agg [.lit (.int .u8 4), .lit (.string [104, 111, 108, 101, 115])], .agg [.lit (.int .u8 8), .lit (.string [115, 121, 110, 99])]]

/-- 'mantlelaw02.CapsTexts': WHATEVER THE INPUT: true; the input reads as it did. -/
def capsTextsSpec : ChangeSpec := { name := "capsTexts", fn := fun _ => fun
  | [d1, d2] => { results := [.lit (.bool true)], args := [d1, d2] }
  | _ => none }
def capsTextsRow : OpenClaim := { program := "ytniohiepnojjbaadoor", sum := "0c58fcc641993c34c716b69a491f3ef0fb74e7c73d7ca8a41205d49db002ea79", func := "mantle/mantlelaw02.CapsTexts", spec := "capsTexts", inPlace := ["internal/bytealg.IndexByteString", "internal/bytealg.IndexString", "internal/reflectlite.ValueOf", "(internal/reflectlite.Value).Type", "(internal/reflectlite.Value).IsNil", "internal/reflectlite.TypeOf", "(internal/reflectlite.Value).Elem", "(internal/reflectlite.Value).Set", "internal/abi.NoEscape", "internal/bytealg.MakeNoZero"], unfollowed := true, recurses := true, named := ["internal/bytealg.MaxLen", "mantle/caps.words", "errors.errorType"], apart := false, laid := [("errors.errorType", laid_errors_errorType), ("mantle/caps.words", laid_mantle_caps_words)] }
def CapsTextsSaid : Prop := capsTextsRow.holds Tryd.pinned (OpenSpec.ofChange capsTextsSpec)

/-- ITS FALSE NEIGHBOUR: 'it returns false'. Refute it at one input. -/
def capsTextsWrong : ChangeSpec := { name := "capsTexts", fn := fun _ => fun
  | [d1, d2] => { results := [.lit (.bool false)], args := [d1, d2] }
  | _ => none }
def CapsTextsWrongFalsely : Prop := capsTextsRow.holds Tryd.pinned (OpenSpec.ofChange capsTextsWrong)

/-- 'mantlelaw02.CapsSets': WHATEVER THE INPUT: true; the input reads as it did. -/
def capsSetsSpec : ChangeSpec := { name := "capsSets", fn := fun _ => fun
  | [d1, d2] => { results := [.lit (.bool true)], args := [d1, d2] }
  | _ => none }
def capsSetsRow : OpenClaim := { program := "ytniohiepnojjbaadoor", sum := "0c58fcc641993c34c716b69a491f3ef0fb74e7c73d7ca8a41205d49db002ea79", func := "mantle/mantlelaw02.CapsSets", spec := "capsSets", inPlace := ["internal/abi.NoEscape", "internal/bytealg.MakeNoZero"], unfollowed := true, recurses := true, named := ["mantle/caps.words"], apart := false, laid := [("mantle/caps.words", laid_mantle_caps_words)] }
def CapsSetsSaid : Prop := capsSetsRow.holds Tryd.pinned (OpenSpec.ofChange capsSetsSpec)

/-- ITS FALSE NEIGHBOUR: 'it returns false'. Refute it at one input. -/
def capsSetsWrong : ChangeSpec := { name := "capsSets", fn := fun _ => fun
  | [d1, d2] => { results := [.lit (.bool false)], args := [d1, d2] }
  | _ => none }
def CapsSetsWrongFalsely : Prop := capsSetsRow.holds Tryd.pinned (OpenSpec.ofChange capsSetsWrong)

/-- 'mantlelaw02.CapsOver': WHATEVER THE INPUT: true; the input reads as it did. -/
def capsOverSpec : ChangeSpec := { name := "capsOver", fn := fun _ => fun
  | [d1, d2] => { results := [.lit (.bool true)], args := [d1, d2] }
  | _ => none }
def capsOverRow : OpenClaim := { program := "ytniohiepnojjbaadoor", sum := "0c58fcc641993c34c716b69a491f3ef0fb74e7c73d7ca8a41205d49db002ea79", func := "mantle/mantlelaw02.CapsOver", spec := "capsOver", inPlace := ["internal/abi.NoEscape", "internal/bytealg.MakeNoZero"], unfollowed := true, recurses := true, named := ["mantle/caps.words"], apart := false, laid := [("mantle/caps.words", laid_mantle_caps_words)] }
def CapsOverSaid : Prop := capsOverRow.holds Tryd.pinned (OpenSpec.ofChange capsOverSpec)

/-- ITS FALSE NEIGHBOUR: 'it returns false'. Refute it at one input. -/
def capsOverWrong : ChangeSpec := { name := "capsOver", fn := fun _ => fun
  | [d1, d2] => { results := [.lit (.bool false)], args := [d1, d2] }
  | _ => none }
def CapsOverWrongFalsely : Prop := capsOverRow.holds Tryd.pinned (OpenSpec.ofChange capsOverWrong)

/-- 'mantlelaw02.CapsStack': WHATEVER THE INPUT: true; the input reads as it did. -/
def capsStackSpec : ChangeSpec := { name := "capsStack", fn := fun _ => fun
  | [d1, d2] => { results := [.lit (.bool true)], args := [d1, d2] }
  | _ => none }
def capsStackRow : OpenClaim := { program := "ytniohiepnojjbaadoor", sum := "0c58fcc641993c34c716b69a491f3ef0fb74e7c73d7ca8a41205d49db002ea79", func := "mantle/mantlelaw02.CapsStack", spec := "capsStack", inPlace := ["internal/abi.NoEscape", "internal/bytealg.MakeNoZero"], unfollowed := true, recurses := true, named := ["mantle/caps.words"], apart := false, laid := [("mantle/caps.words", laid_mantle_caps_words)] }
def CapsStackSaid : Prop := capsStackRow.holds Tryd.pinned (OpenSpec.ofChange capsStackSpec)

/-- ITS FALSE NEIGHBOUR: 'it returns false'. Refute it at one input. -/
def capsStackWrong : ChangeSpec := { name := "capsStack", fn := fun _ => fun
  | [d1, d2] => { results := [.lit (.bool false)], args := [d1, d2] }
  | _ => none }
def CapsStackWrongFalsely : Prop := capsStackRow.holds Tryd.pinned (OpenSpec.ofChange capsStackWrong)

/-- 'mantlelaw02.CapsRises': WHATEVER THE INPUT: true; the input reads as it did. -/
def capsRisesSpec : ChangeSpec := { name := "capsRises", fn := fun _ => fun
  | [d1, d2, d3, d4, d5] => { results := [.lit (.bool true)], args := [d1, d2, d3, d4, d5] }
  | _ => none }
def capsRisesRow : OpenClaim := { program := "ytniohiepnojjbaadoor", sum := "0c58fcc641993c34c716b69a491f3ef0fb74e7c73d7ca8a41205d49db002ea79", func := "mantle/mantlelaw02.CapsRises", spec := "capsRises", inPlace := ["internal/abi.NoEscape", "internal/bytealg.MakeNoZero"], unfollowed := true, recurses := true, named := ["mantle/caps.words"], apart := false, laid := [("mantle/caps.words", laid_mantle_caps_words)] }
def CapsRisesSaid : Prop := capsRisesRow.holds Tryd.pinned (OpenSpec.ofChange capsRisesSpec)

/-- ITS FALSE NEIGHBOUR: 'it returns false'. Refute it at one input. -/
def capsRisesWrong : ChangeSpec := { name := "capsRises", fn := fun _ => fun
  | [d1, d2, d3, d4, d5] => { results := [.lit (.bool false)], args := [d1, d2, d3, d4, d5] }
  | _ => none }
def CapsRisesWrongFalsely : Prop := capsRisesRow.holds Tryd.pinned (OpenSpec.ofChange capsRisesWrong)

/-- 'mantlelaw02.CapsFolds': WHATEVER THE INPUT: true; the input reads as it did. -/
def capsFoldsSpec : ChangeSpec := { name := "capsFolds", fn := fun _ => fun
  | [d1, d2, d3] => { results := [.lit (.bool true)], args := [d1, d2, d3] }
  | _ => none }
def capsFoldsRow : OpenClaim := { program := "ytniohiepnojjbaadoor", sum := "0c58fcc641993c34c716b69a491f3ef0fb74e7c73d7ca8a41205d49db002ea79", func := "mantle/mantlelaw02.CapsFolds", spec := "capsFolds", inPlace := ["internal/abi.NoEscape", "internal/bytealg.MakeNoZero"], unfollowed := true, recurses := true, named := ["mantle/caps.words"], apart := false, laid := [("mantle/caps.words", laid_mantle_caps_words)] }
def CapsFoldsSaid : Prop := capsFoldsRow.holds Tryd.pinned (OpenSpec.ofChange capsFoldsSpec)

/-- ITS FALSE NEIGHBOUR: 'it returns false'. Refute it at one input. -/
def capsFoldsWrong : ChangeSpec := { name := "capsFolds", fn := fun _ => fun
  | [d1, d2, d3] => { results := [.lit (.bool false)], args := [d1, d2, d3] }
  | _ => none }
def CapsFoldsWrongFalsely : Prop := capsFoldsRow.holds Tryd.pinned (OpenSpec.ofChange capsFoldsWrong)

/- THE SECOND FORM. 'bulk': how many values and letters a reading holds, each counted each time it is reached (what is shared counts as often as it is met; a slice's spare places count too). A statement '..UptoSaid' is the law's where the arguments, and the package variables that the reading takes, are together of bulk at most 1048576: NARROWER than '..Said'. Prove '..Said' where nothing that the law and all that it calls make is longer than what came in: it says more and counts as full. Else prove '..UptoSaid'. A law counts once. -/
mutual
def uptoBulk {H : Type} : DataW H → Nat
  | .lit (.string bytes) => bytes.length + 1
  | .lit _ => 1
  | .nil => 1
  | .ptr d => uptoBulk d + 1
  | .slice elems spare => uptoBulkAll elems + uptoBulkAll spare + 1
  | .agg parts => uptoBulkAll parts + 1
  | .iface _ d => uptoBulk d + 1
  | .map entries => uptoBulkEntries entries + 1
  | .held _ => 1
def uptoBulkAll {H : Type} : List (DataW H) → Nat
  | [] => 0
  | d :: r => uptoBulk d + uptoBulkAll r
def uptoBulkEntries {H : Type} : List (Lit × DataW H) → Nat
  | [] => 0
  | x :: r => uptoBulkEntry x + uptoBulkEntries r
def uptoBulkEntry {H : Type} : Lit × DataW H → Nat
  | (.string bytes, d) => bytes.length + uptoBulk d + 1
  | (_, d) => uptoBulk d + 1
 end
def uptoSmall : (H : Type) → List (DataW H) → Bool := fun _ ds => decide (uptoBulkAll ds ≤ 1048576)
def OpenSpec.upto (s : _root_.Go.ChangeSpec) : _root_.Go.OpenSpec := { _root_.Go.OpenSpec.ofChange s with cond := some uptoSmall }

/-- 'mantlelaw02.CapsTexts', WHERE WHAT IT READS IS OF BULK AT MOST 1048576: true; the input reads as it did. -/
def capsTextsUptoRow : OpenClaim := { program := "ytniohiepnojjbaadoor", sum := "0c58fcc641993c34c716b69a491f3ef0fb74e7c73d7ca8a41205d49db002ea79", func := "mantle/mantlelaw02.CapsTexts", spec := "capsTexts", inPlace := ["internal/bytealg.IndexByteString", "internal/bytealg.IndexString", "internal/reflectlite.ValueOf", "(internal/reflectlite.Value).Type", "(internal/reflectlite.Value).IsNil", "internal/reflectlite.TypeOf", "(internal/reflectlite.Value).Elem", "(internal/reflectlite.Value).Set", "internal/abi.NoEscape", "internal/bytealg.MakeNoZero"], unfollowed := true, recurses := true, named := ["internal/bytealg.MaxLen", "mantle/caps.words", "errors.errorType"], apart := false, laid := [("errors.errorType", laid_errors_errorType), ("mantle/caps.words", laid_mantle_caps_words)], narrowed := true }
def CapsTextsUptoSaid : Prop := capsTextsUptoRow.holds Tryd.pinned (OpenSpec.upto capsTextsSpec)

/-- 'mantlelaw02.CapsSets', WHERE WHAT IT READS IS OF BULK AT MOST 1048576: true; the input reads as it did. -/
def capsSetsUptoRow : OpenClaim := { program := "ytniohiepnojjbaadoor", sum := "0c58fcc641993c34c716b69a491f3ef0fb74e7c73d7ca8a41205d49db002ea79", func := "mantle/mantlelaw02.CapsSets", spec := "capsSets", inPlace := ["internal/abi.NoEscape", "internal/bytealg.MakeNoZero"], unfollowed := true, recurses := true, named := ["mantle/caps.words"], apart := false, laid := [("mantle/caps.words", laid_mantle_caps_words)], narrowed := true }
def CapsSetsUptoSaid : Prop := capsSetsUptoRow.holds Tryd.pinned (OpenSpec.upto capsSetsSpec)

/-- 'mantlelaw02.CapsOver', WHERE WHAT IT READS IS OF BULK AT MOST 1048576: true; the input reads as it did. -/
def capsOverUptoRow : OpenClaim := { program := "ytniohiepnojjbaadoor", sum := "0c58fcc641993c34c716b69a491f3ef0fb74e7c73d7ca8a41205d49db002ea79", func := "mantle/mantlelaw02.CapsOver", spec := "capsOver", inPlace := ["internal/abi.NoEscape", "internal/bytealg.MakeNoZero"], unfollowed := true, recurses := true, named := ["mantle/caps.words"], apart := false, laid := [("mantle/caps.words", laid_mantle_caps_words)], narrowed := true }
def CapsOverUptoSaid : Prop := capsOverUptoRow.holds Tryd.pinned (OpenSpec.upto capsOverSpec)

/-- 'mantlelaw02.CapsStack', WHERE WHAT IT READS IS OF BULK AT MOST 1048576: true; the input reads as it did. -/
def capsStackUptoRow : OpenClaim := { program := "ytniohiepnojjbaadoor", sum := "0c58fcc641993c34c716b69a491f3ef0fb74e7c73d7ca8a41205d49db002ea79", func := "mantle/mantlelaw02.CapsStack", spec := "capsStack", inPlace := ["internal/abi.NoEscape", "internal/bytealg.MakeNoZero"], unfollowed := true, recurses := true, named := ["mantle/caps.words"], apart := false, laid := [("mantle/caps.words", laid_mantle_caps_words)], narrowed := true }
def CapsStackUptoSaid : Prop := capsStackUptoRow.holds Tryd.pinned (OpenSpec.upto capsStackSpec)

/-- 'mantlelaw02.CapsRises', WHERE WHAT IT READS IS OF BULK AT MOST 1048576: true; the input reads as it did. -/
def capsRisesUptoRow : OpenClaim := { program := "ytniohiepnojjbaadoor", sum := "0c58fcc641993c34c716b69a491f3ef0fb74e7c73d7ca8a41205d49db002ea79", func := "mantle/mantlelaw02.CapsRises", spec := "capsRises", inPlace := ["internal/abi.NoEscape", "internal/bytealg.MakeNoZero"], unfollowed := true, recurses := true, named := ["mantle/caps.words"], apart := false, laid := [("mantle/caps.words", laid_mantle_caps_words)], narrowed := true }
def CapsRisesUptoSaid : Prop := capsRisesUptoRow.holds Tryd.pinned (OpenSpec.upto capsRisesSpec)

/-- 'mantlelaw02.CapsFolds', WHERE WHAT IT READS IS OF BULK AT MOST 1048576: true; the input reads as it did. -/
def capsFoldsUptoRow : OpenClaim := { program := "ytniohiepnojjbaadoor", sum := "0c58fcc641993c34c716b69a491f3ef0fb74e7c73d7ca8a41205d49db002ea79", func := "mantle/mantlelaw02.CapsFolds", spec := "capsFolds", inPlace := ["internal/abi.NoEscape", "internal/bytealg.MakeNoZero"], unfollowed := true, recurses := true, named := ["mantle/caps.words"], apart := false, laid := [("mantle/caps.words", laid_mantle_caps_words)], narrowed := true }
def CapsFoldsUptoSaid : Prop := capsFoldsUptoRow.holds Tryd.pinned (OpenSpec.upto capsFoldsSpec)

end Rows
end Go.Proofs.YtniohiepnojjbaaDoor
