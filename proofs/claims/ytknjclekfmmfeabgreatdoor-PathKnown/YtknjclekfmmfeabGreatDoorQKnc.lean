/- PathKnown, walked. -/
import Derived.Test.YtknjclekfmmfeabGreatDoorQKon
import Derived.Test.YtknjclekfmmfeabGreatDoorQPwo
namespace Go.Proofs.YtknjclekfmmfeabGreatDoor
open Go.RowKit Go.ChangeMaps Go.Shelf

set_option maxRecDepth 20000 in
set_option maxHeartbeats 8000000 in
theorem pathKnown_walk (w : World) (hM : Mxl w) : Calls Tryz.prog 3 #[] w fun e w' => e = .returned (.bool true) ∧ Below w.heap.size w w' := by
  obtain ⟨V, hV⟩ : ∃ V, V = w.alloc (.cells #[.int .i64 0, .int .i64 0, .string ⟨#[97]⟩, .int .i8 1, .string ⟨#[]⟩, .int .i64 1, .int .i64 0, .string ⟨#[102]⟩, .int .i8 0, .string ⟨#[]⟩, .int .i64 1, .int .i64 0, .string ⟨#[108]⟩, .int .i8 2, .string ⟨#[102]⟩, .int .i64 1, .int .i64 0, .string ⟨#[109]⟩, .int .i8 2, .string ⟨#[47, 97]⟩, .int .i64 0, .int .i64 0, .string ⟨#[114]⟩, .int .i8 2, .string ⟨#[114]⟩] 24) := ⟨_, rfl⟩
  have bV : Below w.heap.size w V := by rw [hV]; exact below_al _ _
  have hsp : SpAt V (some ⟨w.heap.size, 0, none⟩) L5 := fun _ => ⟨w.heap.size, 0, rfl, fun j v hj => by
    rw [Nat.zero_add, hV, cell_of_row _ _ j _ _ _ (heap_alloc_new w _), ← hj]
    match j with
    | 0 => rfl
    | 1 => rfl
    | 2 => rfl
    | 3 => rfl
    | 4 => rfl
    | 5 => rfl
    | 6 => rfl
    | 7 => rfl
    | 8 => rfl
    | 9 => rfl
    | 10 => rfl
    | 11 => rfl
    | 12 => rfl
    | 13 => rfl
    | 14 => rfl
    | 15 => rfl
    | 16 => rfl
    | 17 => rfl
    | 18 => rfl
    | 19 => rfl
    | 20 => rfl
    | 21 => rfl
    | 22 => rfl
    | 23 => rfl
    | 24 => rfl
    | j + 25 => rfl⟩
  have AO := aside (only_known (some ⟨w.heap.size, 0, none⟩) 5 hsp)
  have AM := aside hM
  have MV := aside (hM.below bV hM.lt)
  have BV := aside bV
  clear hsp bV hM
  go_enter Tryz.func3, Tryz.ntmps3
  go_wp2_with fail
  rw [← hV]
  clear hV
  refine AO.out.mono ?_
  rintro e w1 ⟨S, g, c, rfl, hkn, hgx, b1, hat⟩
  obtain ⟨U, hU⟩ : ∃ U, U = w1.alloc (.cells #[.slice (some ⟨g, 0, none⟩) 6 c] 26) := ⟨_, rfl⟩
  have bU : Below w1.heap.size w1 U := by rw [hU]; exact below_al _ _
  have hK : Kw U V.heap.size w1.heap.size g c S := ⟨by rw [hU, cell_of_row _ _ 0 _ _ _ (heap_alloc_new w1 _)]; rfl, fun i e he => (bU.cell (World.block_lt_of_cell? w1 _ (hat i e he))).trans (hat i e he), hkn, hgx.below bU, (MV.out.below b1 MV.out.lt).below bU (MV.out.below b1 MV.out.lt).lt⟩
  have AK := aside hK
  have B1 := aside (below_tr BV.out (below_tr b1 bU))
  clear hkn hgx b1 hat bU hK AO
  go_wp2_with fail
  rw [← hU]
  clear hU
  refine (kwalk_any AK.out _ [97, 47, 108] rfl true 2 (by decide) 0 (wk_fact (by decide) (by kernel_rfl))).mono ?_
  rintro e u2 ⟨rfl, b⟩
  have AK2 := aside (AK.out.below b)
  have B2 := aside (below_tr B1.out b)
  clear b AK
  go_wp2_with fail
  refine (kwalk_any AK2.out _ [97, 47, 108] rfl false 3 (by decide) 0 (wk_fact (by decide) (by kernel_rfl))).mono ?_
  rintro e u3 ⟨rfl, b⟩
  have AK3 := aside (AK2.out.below b)
  have B3 := aside (below_tr B2.out b)
  clear b AK2
  go_wp2_with fail
  refine (kwalk_any AK3.out _ [97, 47, 109, 47, 102] rfl false 2 (by decide) 0 (wk_fact (by decide) (by kernel_rfl))).mono ?_
  rintro e u4 ⟨rfl, b⟩
  have AK4 := aside (AK3.out.below b)
  have B4 := aside (below_tr B3.out b)
  clear b AK3
  go_wp2_with fail
  refine (kwalk_any AK4.out _ [97, 47, 109, 47, 46, 46, 47, 97] rfl true 1 (by decide) 0 (wk_fact (by decide) (by kernel_rfl))).mono ?_
  rintro e u5 ⟨rfl, b⟩
  have AK5 := aside (AK4.out.below b)
  have B5 := aside (below_tr B4.out b)
  clear b AK4
  go_wp2_with fail
  refine (kwalk_any AK5.out _ [114] rfl true 0 (by decide) 200 (wk_fact (by decide) (by kernel_rfl))).mono ?_
  rintro e u6 ⟨rfl, b⟩
  have AK6 := aside (AK5.out.below b)
  have B6 := aside (below_tr B5.out b)
  clear b AK5
  go_wp2_with fail
  refine (kwalk_any AK6.out _ [114] rfl false 5 (by decide) 0 (wk_fact (by decide) (by kernel_rfl))).mono ?_
  rintro e u7 ⟨rfl, b⟩
  have AK7 := aside (AK6.out.below b)
  have B7 := aside (below_tr B6.out b)
  clear b AK6
  go_wp2_with fail
  refine (kwalk_any AK7.out _ [97, 47, 102, 47, 120] rfl true 0 (by decide) 193 (wk_fact (by decide) (by kernel_rfl))).mono ?_
  rintro e u8 ⟨rfl, b⟩
  have AK8 := aside (AK7.out.below b)
  have B8 := aside (below_tr B7.out b)
  clear b AK7
  go_wp2_with fail
  refine (kwalk_any AK8.out _ [97, 47, 102, 47, 46] rfl true 2 (by decide) 0 (wk_fact (by decide) (by kernel_rfl))).mono ?_
  rintro e u9 ⟨rfl, b⟩
  have AK9 := aside (AK8.out.below b)
  have B9 := aside (below_tr B8.out b)
  clear b AK8
  go_wp2_with fail
  refine (kwalk_any AK9.out _ [97, 47, 102, 47, 46, 46] rfl true 0 (by decide) 193 (wk_fact (by decide) (by kernel_rfl))).mono ?_
  rintro e u10 ⟨rfl, b⟩
  have AK10 := aside (AK9.out.below b)
  have B10 := aside (below_tr B9.out b)
  clear b AK9
  go_wp2_with fail
  refine (kwalk_any AK10.out _ [98] rfl true 0 (by decide) 192 (wk_fact (by decide) (by kernel_rfl))).mono ?_
  rintro e u11 ⟨rfl, b⟩
  have AK11 := aside (AK10.out.below b)
  have B11 := aside (below_tr B10.out b)
  clear b AK10
  go_wp2_with fail
  refine (kreal_any AK11.out _ [97, 47, 109, 47, 108] rfl _ [97, 47, 102] rfl (re_fact (by decide) (by kernel_rfl))).mono ?_
  rintro e u12 ⟨rfl, b⟩
  have AK12 := aside (AK11.out.below b)
  have B12 := aside (below_tr B11.out b)
  clear b AK11
  go_wp2_with fail
  refine (kreal_any AK12.out _ [97, 47, 109] rfl _ [97] rfl (re_fact (by decide) (by kernel_rfl))).mono ?_
  rintro e u13 ⟨rfl, b⟩
  have AK13 := aside (AK12.out.below b)
  have B13 := aside (below_tr B12.out b)
  clear b AK12
  go_wp2_with fail
  refine (kreal_any AK13.out _ [] rfl _ [] rfl (re_fact (by decide) (by kernel_rfl))).mono ?_
  rintro e u14 ⟨rfl, b⟩
  have AK14 := aside (AK13.out.below b)
  have B14 := aside (below_tr B13.out b)
  clear b AK13
  go_wp2_with fail
  refine (kplace_any AK14.out _ [97, 47, 110, 101, 119] rfl 1 (by decide) _ [110, 101, 119] rfl 0 (pl_fact (by decide) (by kernel_rfl))).mono ?_
  rintro e u15 ⟨rfl, b⟩
  have AK15 := aside (AK14.out.below b)
  have B15 := aside (below_tr B14.out b)
  clear b AK14
  go_wp2_with fail
  refine (kplace_any AK15.out _ [97, 47, 109, 47, 110, 101, 119] rfl 1 (by decide) _ [110, 101, 119] rfl 0 (pl_fact (by decide) (by kernel_rfl))).mono ?_
  rintro e u16 ⟨rfl, b⟩
  have AK16 := aside (AK15.out.below b)
  have B16 := aside (below_tr B15.out b)
  clear b AK15
  go_wp2_with fail
  refine (kplace_any AK16.out _ [97, 47, 102, 47, 120] rfl 0 (by decide) _ [] rfl 193 (pl_fact (by decide) (by kernel_rfl))).mono ?_
  rintro e u17 ⟨rfl, b⟩
  have AK17 := aside (AK16.out.below b)
  have B17 := aside (below_tr B16.out b)
  clear b AK16
  go_wp2_with fail
  refine (kplace_any AK17.out _ [97, 47, 46, 46] rfl 0 (by decide) _ [] rfl 190 (pl_fact (by decide) (by kernel_rfl))).mono ?_
  rintro e u18 ⟨rfl, b⟩
  have AK18 := aside (AK17.out.below b)
  have B18 := aside (below_tr B17.out b)
  clear b AK17
  go_wp2_with fail
  refine (kplace_any AK18.out _ [47] rfl 0 (by decide) _ [] rfl 190 (pl_fact (by decide) (by kernel_rfl))).mono ?_
  rintro e u19 ⟨rfl, b⟩
  have AK19 := aside (AK18.out.below b)
  have B19 := aside (below_tr B18.out b)
  clear b AK18
  have C1 := aside (clean_any [46, 46, 47, 46, 46] u19 AK19.out.mx)
  rw [show clA [46, 46, 47, 46, 46] = .tuple #[.string ⟨#[]⟩, .int .i64 0] by kernel_rfl, show ba [46, 46, 47, 46, 46] = ⟨#[46, 46, 47, 46, 46]⟩ from rfl] at C1
  go_wp2_with fail
  refine C1.out.mono ?_
  rintro e v1 ⟨rfl, b⟩
  have M1 := aside (AK19.out.mx.below b AK19.out.mx.lt)
  have D1 := aside (below_tr B19.out b)
  clear b C1
  have C2 := aside (clean_any [97, 47, 0] v1 M1.out)
  rw [show clA [97, 47, 0] = .tuple #[.string ⟨#[]⟩, .int .i64 190] by kernel_rfl, show ba [97, 47, 0] = ⟨#[97, 47, 0]⟩ from rfl] at C2
  go_wp2_with fail
  refine C2.out.mono ?_
  rintro e v2 ⟨rfl, b⟩
  have M2 := aside (M1.out.below b M1.out.lt)
  have D2 := aside (below_tr D1.out b)
  clear b C2
  go_wp2_with fail
  refine (works_any v2 M2.out).mono ?_
  rintro e v3 ⟨rfl, b⟩
  have D3 := aside (below_tr D2.out b)
  clear b
  go_wp2_with fail
  go_ret
  exact ⟨rfl, D3.out⟩
end Go.Proofs.YtknjclekfmmfeabGreatDoor
