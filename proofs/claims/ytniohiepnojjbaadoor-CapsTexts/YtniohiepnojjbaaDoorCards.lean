/-
  DERIVED. GIVEN WITH THE SEED: THE CARDS: each row of YtniohiepnojjbaaDoorRows.lean that lists a variable, with what it lists TIED to the program's text (the seventh form; the later family's looks); each row that meets fmt, with fmt's text TOLD by the authors' own Lean function (tested against real Go, not proved from fmt's source: count such statements apart). THE CARD IS WHAT COUNTS. Prove the row's statement (the work); the ties are given (YtniohiepnojjbaaDoorTie.lean); close each card by the builder's one call (the guide's Derived/Test/ToyasCard.lean, 'card_holds'). Laid BY PROGRAM, IN A SANDBOX (cutbox-door.mjs). By AI agents, Wed Nov 11 2026. No macro, syntax, notation, axiom, sorry.
-/
import Derived.Test.YtniohiepnojjbaaDoorRows
import GoSem.ClaimSeven
namespace Go.Proofs.YtniohiepnojjbaaDoor
namespace Rows

/-- THE TIED CARD OF 'mantlelaw02.CapsTexts'. -/
def capsTextsCard : Claim7 := { stood := { row := capsTextsRow, standIns := [], harness := (true, "bf980308e0e996ea84b7341acadc622713f5dce768bd6fc0c3383e08a3427359"), looks := true }, kinds := [], alts := [], laidByText := true, laidKinds := [.handle, .data], laidTests := true, laidLooks := .later }
def CapsTextsCardSaid : Prop := Claim7.holds Tryd.pinned (.plain (OpenSpec.ofChange capsTextsSpec)) capsTextsCard

/-- THE TIED CARD OF 'mantlelaw02.CapsSets'. -/
def capsSetsCard : Claim7 := { stood := { row := capsSetsRow, standIns := [], harness := (true, "bf980308e0e996ea84b7341acadc622713f5dce768bd6fc0c3383e08a3427359"), looks := true }, kinds := [], alts := [], laidByText := true, laidKinds := [.data], laidTests := true, laidLooks := .later }
def CapsSetsCardSaid : Prop := Claim7.holds Tryd.pinned (.plain (OpenSpec.ofChange capsSetsSpec)) capsSetsCard

/-- THE TIED CARD OF 'mantlelaw02.CapsOver'. -/
def capsOverCard : Claim7 := { stood := { row := capsOverRow, standIns := [], harness := (true, "bf980308e0e996ea84b7341acadc622713f5dce768bd6fc0c3383e08a3427359"), looks := true }, kinds := [], alts := [], laidByText := true, laidKinds := [.data], laidTests := true, laidLooks := .later }
def CapsOverCardSaid : Prop := Claim7.holds Tryd.pinned (.plain (OpenSpec.ofChange capsOverSpec)) capsOverCard

/-- THE TIED CARD OF 'mantlelaw02.CapsStack'. -/
def capsStackCard : Claim7 := { stood := { row := capsStackRow, standIns := [], harness := (true, "bf980308e0e996ea84b7341acadc622713f5dce768bd6fc0c3383e08a3427359"), looks := true }, kinds := [], alts := [], laidByText := true, laidKinds := [.data], laidTests := true, laidLooks := .later }
def CapsStackCardSaid : Prop := Claim7.holds Tryd.pinned (.plain (OpenSpec.ofChange capsStackSpec)) capsStackCard

/-- THE TIED CARD OF 'mantlelaw02.CapsRises'. -/
def capsRisesCard : Claim7 := { stood := { row := capsRisesRow, standIns := [], harness := (true, "bf980308e0e996ea84b7341acadc622713f5dce768bd6fc0c3383e08a3427359"), looks := true }, kinds := [], alts := [], laidByText := true, laidKinds := [.data], laidTests := true, laidLooks := .later }
def CapsRisesCardSaid : Prop := Claim7.holds Tryd.pinned (.plain (OpenSpec.ofChange capsRisesSpec)) capsRisesCard

/-- THE TIED CARD OF 'mantlelaw02.CapsFolds'. -/
def capsFoldsCard : Claim7 := { stood := { row := capsFoldsRow, standIns := [], harness := (true, "bf980308e0e996ea84b7341acadc622713f5dce768bd6fc0c3383e08a3427359"), looks := true }, kinds := [], alts := [], laidByText := true, laidKinds := [.data], laidTests := true, laidLooks := .later }
def CapsFoldsCardSaid : Prop := Claim7.holds Tryd.pinned (.plain (OpenSpec.ofChange capsFoldsSpec)) capsFoldsCard

/-- THE SECOND FORM's CARD OF 'mantlelaw02.CapsTexts'. -/
def capsTextsUptoCard : Claim7 := { stood := { row := capsTextsUptoRow, standIns := [], harness := (true, "bf980308e0e996ea84b7341acadc622713f5dce768bd6fc0c3383e08a3427359"), looks := true }, kinds := [], alts := [], laidByText := true, laidKinds := [.handle, .data], laidTests := true, laidLooks := .later }
def CapsTextsUptoCardSaid : Prop := Claim7.holds Tryd.pinned (.plain (OpenSpec.upto capsTextsSpec)) capsTextsUptoCard

/-- THE SECOND FORM's CARD OF 'mantlelaw02.CapsSets'. -/
def capsSetsUptoCard : Claim7 := { stood := { row := capsSetsUptoRow, standIns := [], harness := (true, "bf980308e0e996ea84b7341acadc622713f5dce768bd6fc0c3383e08a3427359"), looks := true }, kinds := [], alts := [], laidByText := true, laidKinds := [.data], laidTests := true, laidLooks := .later }
def CapsSetsUptoCardSaid : Prop := Claim7.holds Tryd.pinned (.plain (OpenSpec.upto capsSetsSpec)) capsSetsUptoCard

/-- THE SECOND FORM's CARD OF 'mantlelaw02.CapsOver'. -/
def capsOverUptoCard : Claim7 := { stood := { row := capsOverUptoRow, standIns := [], harness := (true, "bf980308e0e996ea84b7341acadc622713f5dce768bd6fc0c3383e08a3427359"), looks := true }, kinds := [], alts := [], laidByText := true, laidKinds := [.data], laidTests := true, laidLooks := .later }
def CapsOverUptoCardSaid : Prop := Claim7.holds Tryd.pinned (.plain (OpenSpec.upto capsOverSpec)) capsOverUptoCard

/-- THE SECOND FORM's CARD OF 'mantlelaw02.CapsStack'. -/
def capsStackUptoCard : Claim7 := { stood := { row := capsStackUptoRow, standIns := [], harness := (true, "bf980308e0e996ea84b7341acadc622713f5dce768bd6fc0c3383e08a3427359"), looks := true }, kinds := [], alts := [], laidByText := true, laidKinds := [.data], laidTests := true, laidLooks := .later }
def CapsStackUptoCardSaid : Prop := Claim7.holds Tryd.pinned (.plain (OpenSpec.upto capsStackSpec)) capsStackUptoCard

/-- THE SECOND FORM's CARD OF 'mantlelaw02.CapsRises'. -/
def capsRisesUptoCard : Claim7 := { stood := { row := capsRisesUptoRow, standIns := [], harness := (true, "bf980308e0e996ea84b7341acadc622713f5dce768bd6fc0c3383e08a3427359"), looks := true }, kinds := [], alts := [], laidByText := true, laidKinds := [.data], laidTests := true, laidLooks := .later }
def CapsRisesUptoCardSaid : Prop := Claim7.holds Tryd.pinned (.plain (OpenSpec.upto capsRisesSpec)) capsRisesUptoCard

/-- THE SECOND FORM's CARD OF 'mantlelaw02.CapsFolds'. -/
def capsFoldsUptoCard : Claim7 := { stood := { row := capsFoldsUptoRow, standIns := [], harness := (true, "bf980308e0e996ea84b7341acadc622713f5dce768bd6fc0c3383e08a3427359"), looks := true }, kinds := [], alts := [], laidByText := true, laidKinds := [.data], laidTests := true, laidLooks := .later }
def CapsFoldsUptoCardSaid : Prop := Claim7.holds Tryd.pinned (.plain (OpenSpec.upto capsFoldsSpec)) capsFoldsUptoCard
end Rows
end Go.Proofs.YtniohiepnojjbaaDoor
