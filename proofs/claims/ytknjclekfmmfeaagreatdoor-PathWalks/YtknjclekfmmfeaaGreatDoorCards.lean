/-
  DERIVED. GIVEN WITH THE SEED: THE CARDS: each row of YtknjclekfmmfeaaGreatDoorRows.lean that lists a variable, with what it lists TIED to the program's text (the seventh form; the later family's looks); each row that meets fmt, with fmt's text TOLD by the authors' own Lean function (tested against real Go, not proved from fmt's source: count such statements apart). THE CARD IS WHAT COUNTS. Prove the row's statement (the work); the ties are given (YtknjclekfmmfeaaGreatDoorTie.lean); close each card by the builder's one call (the guide's Derived/Test/ToyasCard.lean, 'card_holds'). Laid BY PROGRAM, IN A SANDBOX (cutbox-door.mjs). By AI agents, Wed Nov 11 2026. No macro, syntax, notation, axiom, sorry.
-/
import Derived.Test.YtknjclekfmmfeaaGreatDoorRows
import GoSem.ClaimSeven
namespace Go.Proofs.YtknjclekfmmfeaaGreatDoor
namespace Rows

/-- THE TIED CARD OF 'mantlelaw20.PathWalks'. -/
def pathWalksCard : Claim7 := { stood := { row := pathWalksRow, standIns := [], harness := (true, "2f74efb6173b6f7c085ef0376673529ed579c6ccdee0a5249dd1365ad8621603"), looks := true }, kinds := [], alts := [], laidByText := true, laidKinds := [.data, .pinned], laidTests := true, laidLooks := .later }
def PathWalksCardSaid : Prop := Claim7.holds Tryz.pinned (.plain (OpenSpec.ofChange pathWalksSpec)) pathWalksCard

/-- THE TIED CARD OF 'mantlelaw20.PathReal'. -/
def pathRealCard : Claim7 := { stood := { row := pathRealRow, standIns := [], harness := (true, "2f74efb6173b6f7c085ef0376673529ed579c6ccdee0a5249dd1365ad8621603"), looks := true }, kinds := [], alts := [], laidByText := true, laidKinds := [.data, .pinned], laidTests := true, laidLooks := .later }
def PathRealCardSaid : Prop := Claim7.holds Tryz.pinned (.plain (OpenSpec.ofChange pathRealSpec)) pathRealCard

/-- THE TIED CARD OF 'mantlelaw20.PathPlain'. -/
def pathPlainCard : Claim7 := { stood := { row := pathPlainRow, standIns := [], harness := (true, "2f74efb6173b6f7c085ef0376673529ed579c6ccdee0a5249dd1365ad8621603"), looks := true }, kinds := [], alts := [], laidByText := true, laidKinds := [.data, .pinned], laidTests := true, laidLooks := .later }
def PathPlainCardSaid : Prop := Claim7.holds Tryz.pinned (.plain (OpenSpec.ofChange pathPlainSpec)) pathPlainCard

/-- THE TIED CARD OF 'mantlelaw20.PathPlaces'. -/
def pathPlacesCard : Claim7 := { stood := { row := pathPlacesRow, standIns := [], harness := (true, "2f74efb6173b6f7c085ef0376673529ed579c6ccdee0a5249dd1365ad8621603"), looks := true }, kinds := [], alts := [], laidByText := true, laidKinds := [.data, .pinned], laidTests := true, laidLooks := .later }
def PathPlacesCardSaid : Prop := Claim7.holds Tryz.pinned (.plain (OpenSpec.ofChange pathPlacesSpec)) pathPlacesCard

/-- THE SECOND FORM's CARD OF 'mantlelaw20.PathWalks'. -/
def pathWalksUptoCard : Claim7 := { stood := { row := pathWalksUptoRow, standIns := [], harness := (true, "2f74efb6173b6f7c085ef0376673529ed579c6ccdee0a5249dd1365ad8621603"), looks := true }, kinds := [], alts := [], laidByText := true, laidKinds := [.data, .pinned], laidTests := true, laidLooks := .later }
def PathWalksUptoCardSaid : Prop := Claim7.holds Tryz.pinned (.plain (OpenSpec.upto pathWalksSpec)) pathWalksUptoCard

/-- THE SECOND FORM's CARD OF 'mantlelaw20.PathReal'. -/
def pathRealUptoCard : Claim7 := { stood := { row := pathRealUptoRow, standIns := [], harness := (true, "2f74efb6173b6f7c085ef0376673529ed579c6ccdee0a5249dd1365ad8621603"), looks := true }, kinds := [], alts := [], laidByText := true, laidKinds := [.data, .pinned], laidTests := true, laidLooks := .later }
def PathRealUptoCardSaid : Prop := Claim7.holds Tryz.pinned (.plain (OpenSpec.upto pathRealSpec)) pathRealUptoCard

/-- THE SECOND FORM's CARD OF 'mantlelaw20.PathPlain'. -/
def pathPlainUptoCard : Claim7 := { stood := { row := pathPlainUptoRow, standIns := [], harness := (true, "2f74efb6173b6f7c085ef0376673529ed579c6ccdee0a5249dd1365ad8621603"), looks := true }, kinds := [], alts := [], laidByText := true, laidKinds := [.data, .pinned], laidTests := true, laidLooks := .later }
def PathPlainUptoCardSaid : Prop := Claim7.holds Tryz.pinned (.plain (OpenSpec.upto pathPlainSpec)) pathPlainUptoCard

/-- THE SECOND FORM's CARD OF 'mantlelaw20.PathPlaces'. -/
def pathPlacesUptoCard : Claim7 := { stood := { row := pathPlacesUptoRow, standIns := [], harness := (true, "2f74efb6173b6f7c085ef0376673529ed579c6ccdee0a5249dd1365ad8621603"), looks := true }, kinds := [], alts := [], laidByText := true, laidKinds := [.data, .pinned], laidTests := true, laidLooks := .later }
def PathPlacesUptoCardSaid : Prop := Claim7.holds Tryz.pinned (.plain (OpenSpec.upto pathPlacesSpec)) pathPlacesUptoCard
end Rows
end Go.Proofs.YtknjclekfmmfeaaGreatDoor
