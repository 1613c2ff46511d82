/- SealNil, walked. -/
import Derived.Test.YtbofeednhihniaaMade
namespace Go.Proofs.Ytbofeednhihniaa
open Go.RowKit

set_option maxRecDepth 20000 in
set_option maxHeartbeats 4000000 in
theorem sealNil_walk (k : Int) (s : ByteArray) (w : World) : Calls Try.prog 4 #[.agg #[.int .i64 k, .string s]] w fun e w' => e = .returned (.bool true) ∧ Below w.heap.size w w' := by
  have hnot : ∀ (x : Bool) (w : World), (Op.unary .not (.bool x)).run Try.prog w = .ok (.bool (!x)) w := fun _ _ => rfl
  by_cases hs : 16384 < (s.size : Int)
  · have hW := aside (wakes_any (w.alloc (.cells #[.int .i64 k, .string s] 34)))
    go_enter Try.func4, Try.ntmps4
    go_wp2_with fail
    refine hW.out.mono ?_
    rintro e w1 ⟨rfl, b1⟩
    go_wp2
    go_ret
    exact ⟨rfl, below_tr (below_al w _) b1⟩
  · have hM := aside (made_any k 0 s (w.alloc (.cells #[.int .i64 k, .string s] 34)))
    go_enter Try.func4, Try.ntmps4
    go_wp2_with fail
    refine hM.out.mono ?_
    rintro e w1 ⟨b, kb, sb, rfl, hB, b1, -, -⟩
    have H1 := aside hB; have B1 := aside (below_tr (below_al w _) b1)
    clear hB b1 kb sb hM
    go_wp2_with fail
    refine (memNil0 _).mono ?_
    rintro e w2 ⟨h, rfl, b2⟩
    have b2' := below_tr (below_al w1 _) b2
    have H2 := aside (H1.out.below b2'); have B2 := aside (below_tr B1.out b2')
    clear b2 b2' H1 B1
    go_wp2_with fail
    refine (seal_nilB _ w2).mono ?_
    rintro e w3 ⟨rfl, rfl⟩
    go_wp2_with fail
    refine (seal_bx b h w3).mono ?_
    rintro e w4 ⟨x, rfl, -, b4, -⟩
    have H4 := aside (H2.out.below b4); have B4 := aside (below_tr B2.out b4)
    clear b4 H2 B2
    go_wp2_with fail
    refine (open_nilB _ w4).mono ?_
    rintro e w5 ⟨rfl, rfl⟩
    go_wp2_with fail
    refine (open_nilX b.p w5).mono ?_
    rintro e w6 ⟨rfl, rfl⟩
    go_wp2_with fail
    refine (same_nilL _ w6).mono ?_
    rintro e w7 ⟨rfl, b7⟩
    have B7 := aside (below_tr B4.out b7)
    clear b7 B4 H4
    go_wp2_with fail
    refine (same_nilR b.p w7).mono ?_
    rintro e w8 ⟨rfl, b8⟩
    have B8 := aside (below_tr B7.out b8)
    clear b8 B7
    go_wp2_with fail
    refine (same_nilL _ w8).mono ?_
    rintro e w9 ⟨rfl, b9⟩
    have B9 := aside (below_tr B8.out b9)
    clear b9 B8
    go_wp2_with fail
    refine (wakes_any w9).mono ?_
    rintro e w10 ⟨rfl, b10⟩
    have B10 := aside (below_tr B9.out b10)
    clear b10 B9
    go_wp2
    go_ret
    exact ⟨rfl, B10.out⟩
end Go.Proofs.Ytbofeednhihniaa
