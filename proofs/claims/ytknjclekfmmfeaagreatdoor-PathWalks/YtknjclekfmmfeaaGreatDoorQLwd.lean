/- made, whatever the kind; the roots of all ways. -/
import Derived.Test.YtknjclekfmmfeaaGreatDoorQLc0
import Derived.Test.YtknjclekfmmfeaaGreatDoorQLc1
import Derived.Test.YtknjclekfmmfeaaGreatDoorQLc2
import Derived.Test.YtknjclekfmmfeaaGreatDoorQLc3
import Derived.Test.YtknjclekfmmfeaaGreatDoorQLc4
import Derived.Test.YtknjclekfmmfeaaGreatDoorQLc5
import Derived.Test.YtknjclekfmmfeaaGreatDoorQLcE
namespace Go.Proofs.YtknjclekfmmfeaaGreatDoor
open Go.RowKit Go.ChangeMaps

theorem made_any {w : World} {lo wb : Nat} {S : List Ne} (h : LW w lo wb S) (hG : GX lo w S) (hR : RX lo w S) (hlo : lo ≤ w.heap.size) (hS : S.length ≤ 1000000) {e0 : Ne} (h0 : S[0]? = some e0) (h0k : e0.k = 1) (s : Spx) (hto : s.to.length ≤ 1048576) :
    Calls Tryz.prog 28 #[Pt wb, s.val] w fun r w' => MadeP lo S s.k w r w' := by
  by_cases k0 : s.k = 0
  · exact made0 h hG hR hlo hS h0 h0k s hto k0
  · by_cases k1 : s.k = 1
    · exact made1 h hG hR hlo hS h0 h0k s hto k1
    · by_cases k2 : s.k = 2
      · exact made2 h hG hR hlo hS h0 h0k s hto k2
      · by_cases k3 : s.k = 3
        · exact made3 h hG hR hlo hS h0 h0k s hto k3
        · by_cases k4 : s.k = 4
          · exact made4 h hG hR hlo hS h0 h0k s hto k4
          · by_cases k5 : s.k = 5
            · exact made5 h hG hR hlo hS h0 h0k s hto k5
            · exact madeE h hG hR hlo hS h0 h0k s hto ⟨k0, k1, k2, k3, k4, k5⟩
end Go.Proofs.YtknjclekfmmfeaaGreatDoor
