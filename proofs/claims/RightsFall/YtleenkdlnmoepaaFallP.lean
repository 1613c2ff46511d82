/- Pieces of a function's code, taken out by a region's number. -/
import Derived.Test.YtleenkdlnmoepaaFallY
namespace Go.Proofs.Ytleenkdlnmoepaa
/-- From a region on, to the end of the row in which it stands. -/
def fromReg (n : Nat) : Code → Option Code
  | .seq (.region k ops d) b => if k = n then some (.seq (.region k ops d) b) else fromReg n b
  | .cond _ a b => match fromReg n a with
    | some c => some c
    | none => fromReg n b
  | .seq a b => match fromReg n a with
    | some c => some c
    | none => fromReg n b
  | .loop c => fromReg n c
  | .block _ c => fromReg n c
  | .scope c => fromReg n c
  | _ => none
def piece (n : Nat) (f : Func) : Code := (f.body.bind (fromReg n)).getD .skip
end Go.Proofs.Ytleenkdlnmoepaa
