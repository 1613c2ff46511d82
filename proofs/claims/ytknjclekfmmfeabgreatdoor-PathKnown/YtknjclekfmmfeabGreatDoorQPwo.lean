/- A few paths in a little tree: works. -/
import Derived.Test.YtknjclekfmmfeabGreatDoorQPga
import Derived.Test.YtknjclekfmmfeabGreatDoorQPwl
import Derived.Test.YtknjclekfmmfeabGreatDoorQPjn
namespace Go.Proofs.YtknjclekfmmfeabGreatDoor
open Go.RowKit Go.ChangeMaps Go.Shelf

theorem ok_one {c : UInt8} (h0 : c ≠ 0) (h1 : c ≠ 46) (h2 : c ≠ 47) : nameOk (ba [c]) = true := by
  unfold nameOk
  rw [Lib.toList_data, ba_list, ba_size]
  simp [Lib.indexAny, h1, h0, h2]
theorem ok97 : nameOk (ba [97]) = true := ok_one (by decide) (by decide) (by decide)
theorem ok98 : nameOk (ba [98]) = true := ok_one (by decide) (by decide) (by decide)
theorem ok99 : nameOk (ba [99]) = true := ok_one (by decide) (by decide) (by decide)
theorem ok109 : nameOk (ba [109]) = true := ok_one (by decide) (by decide) (by decide)
theorem ok114 : nameOk (ba [114]) = true := ok_one (by decide) (by decide) (by decide)
def GW : Gr := [⟨1, [([97], 1), ([114], 3)], [], 0⟩, ⟨1, [([109], 2)], [], 0⟩, ⟨2, [], [47, 97], 0⟩, ⟨2, [], [114], 0⟩]
theorem prt1 : prt [97, 47, 109, 47, 46, 46, 47, 97] = [[97], [109], [46, 46], [97]] := by decide
theorem prt2 : prt [114] = [[114]] := by decide
theorem prt3 : prt [98] = [[98]] := by decide
theorem prt4 : prt [47, 97] = [[97]] := by decide
theorem prt5 : prt [47, 97, 47, 47, 98, 47, 46, 47, 46, 46, 47, 99] = [[97], [98], [46, 46], [99]] := by decide
theorem gw1 : wkF GW 0 [97, 47, 109, 47, 46, 46, 47, 97] true = (0, [([], 0), ([97], 1)]) := by
  have hb : beg GW 0 [97, 47, 109, 47, 46, 46, 47, 97] = 0 := by decide
  unfold wkF
  rw [if_neg (fun e => e hb), prt1]
  rw [wlk_some true 16 _ (i := 1) rfl (by decide) ok97 rfl, if_neg (by decide), if_neg (by decide), if_neg (by decide)]
  rw [wlk_some true 16 _ (i := 2) rfl (by decide) ok109 rfl, if_neg (by decide), if_neg (by decide), if_pos (by decide), if_neg (by rintro ⟨e, -⟩; cases e)]
  show wlk GW true 15 (prt [47, 97] ++ [[46, 46], [97]]) (if abso [47, 97] = true then _ else _) = _
  rw [prt4, if_pos (by decide)]
  show wlk GW true 15 [[97], [46, 46], [97]] [([], 0)] = _
  rw [wlk_some true 15 _ (i := 1) rfl (by decide) ok97 rfl, if_neg (by decide), if_neg (by decide), if_neg (by decide)]
  rw [wlk_dd true 15 _ rfl]
  show wlk GW true 15 [[97]] [([], 0)] = _
  rw [wlk_some true 15 _ (i := 1) rfl (by decide) ok97 rfl, if_neg (by decide), if_neg (by decide), if_neg (by decide), wlk_nil]
  rfl
theorem gwr : ∀ k, wlk GW true k [[114]] [([], 0)] = (200, [])
  | 0 => by rw [wlk_some true 0 _ (i := 3) rfl (by decide) ok114 rfl, if_neg (by decide), if_neg (by decide), if_pos (by decide), if_neg (by rintro ⟨e, -⟩; cases e)]
  | k + 1 => by
    rw [wlk_some true (k + 1) _ (i := 3) rfl (by decide) ok114 rfl, if_neg (by decide), if_neg (by decide), if_pos (by decide), if_neg (by rintro ⟨e, -⟩; cases e)]
    show wlk GW true k (prt [114] ++ []) (if abso [114] = true then _ else _) = _
    rw [prt2, if_neg (by decide)]
    exact gwr k
theorem gw2 : wkF GW 0 [114] true = (200, []) := by
  have hb : beg GW 0 [114] = 0 := by decide
  unfold wkF
  rw [if_neg (fun e => e hb), prt2]
  exact gwr 16
theorem gw3 : wkF GW 0 [98] false = (192, []) := by
  have hb : beg GW 0 [98] = 0 := by decide
  unfold wkF
  rw [if_neg (fun e => e hb), prt3, wlk_none false 16 _ rfl (by decide) ok98 rfl]
theorem cl1 : clA [47, 97, 47, 47, 98, 47, 46, 47, 46, 46, 47, 99] = .tuple #[.string ⟨#[97, 47, 99]⟩, .int .i64 0] := by
  unfold clA
  rw [if_neg (by decide), prt5, cln_ok _ _ (by decide) ok97, cln_ok _ _ (by decide) ok98, cln_dd]
  show (match cln [[99]] [[97]] with | none => _ | some b => _) = _
  rw [cln_ok _ _ (by decide) ok99]
  rfl
theorem dir_push {lo : Nat} {w w' : World} {S : List Ne} (h : GX lo w S) (hlo : lo ≤ w.heap.size) {nb db mb : Nat} (h1 : w.heap.size ≤ nb) (h2 : w.heap.size ≤ db) (h3 : w.heap.size ≤ mb) (hD : Dr w' nb db mb (.pointer none) []) (b : Below w.heap.size w w') (rb : Nat) : GX lo w' (S ++ [⟨1, [], [], 0, none, nb, db, mb, rb⟩]) :=
  h.push b ⟨by show lo ≤ nb; omega, by show lo ≤ db; omega, by show lo ≤ mb; omega, fun hk => absurd rfl hk, .inr (.inl ⟨rfl, hD⟩)⟩ rfl rfl (fun _ => ⟨h2, h3⟩)
theorem link_push {lo : Nat} {w w' : World} {S : List Ne} (h : GX lo w S) (hlo : lo ≤ w.heap.size) {nb lb : Nat} {to : B} (h0 : to ≠ []) (h4 : to.length ≤ 4096) (h1 : w.heap.size ≤ nb) (h2 : w.heap.size ≤ lb) (hK : Lk w' nb lb (ba to)) (b : Below w.heap.size w w') (rb : Nat) : GX lo w' (S ++ [⟨2, [], to, 0, none, nb, lb, lb, rb⟩]) :=
  h.push b ⟨by show lo ≤ nb; omega, by show lo ≤ lb; omega, by show lo ≤ lb; omega, fun _ => ⟨rfl, rfl⟩, .inr (.inr (.inl ⟨rfl, ⟨h0, h4⟩, hK⟩))⟩ rfl rfl (fun hk => absurd hk (by show ¬ (2 : Int) = 1; decide))
set_option maxRecDepth 20000 in
set_option maxHeartbeats 8000000 in
theorem works_any (w : World) (hM : Mxl w) : Calls Tryz.prog 12 #[] w fun e w' => e = .returned (.bool true) ∧ Below w.heap.size w w' := by
  have AM := aside hM
  clear hM
  go_enter Tryz.func12, Tryz.ntmps12
  go_wp2_with fail
  refine (dir_new w).mono ?_
  rintro e w1 ⟨n0, d0, m0, rfl, hn0, hd0, hm0, hD, b1⟩
  have A1 := aside (dir_push (GX.empty w.heap.size w) (Nat.le_refl _) hn0 hd0 hm0 hD b1 0)
  have B1 := aside b1
  clear hD b1
  go_wp2_with fail
  refine (dir_new w1).mono ?_
  rintro e w2 ⟨n1, d1, m1, rfl, hn1, hd1, hm1, hD, b2⟩
  have A2 := aside (dir_push A1.out B1.out.size hn1 hd1 hm1 hD b2 0)
  have B2 := aside (below_tr B1.out b2)
  clear hD b2 A1 B1
  go_wp2_with fail
  refine (link_new ⟨#[47, 97]⟩ w2 (by decide) (by decide)).mono ?_
  rintro e w3 ⟨n2, l2, rfl, hn2, hl2, hK, b3⟩
  have A3 := aside (link_push (to := [47, 97]) A2.out B2.out.size (by decide) (by decide) hn2 hl2 hK b3 0)
  have B3 := aside (below_tr B2.out b3)
  clear hK b3 A2 B2
  go_wp2_with fail
  refine (link_new ⟨#[114]⟩ w3 (by decide) (by decide)).mono ?_
  rintro e w4 ⟨n3, l3, rfl, hn3, hl3, hK, b4⟩
  have A4 := aside (link_push (to := [114]) A3.out B3.out.size (by decide) (by decide) hn3 hl3 hK b4 0)
  have B4 := aside (below_tr B3.out b4)
  clear hK b4 A3 B3
  simp only [List.nil_append, List.cons_append] at A4
  have G1 := aside (gadd A4.out B4.out.size (i := 0) (j := 1) rfl rfl rfl [97] (by simp) (by simp) (fun _ => .inl ⟨rfl, by omega⟩))
  have hc1 : ∀ (S : List Ne) (d e : Ne), d.L = [] → e.par = none → adc S 0 d [97] 1 e = 0 := fun S d e h2 h3 => by
    unfold adc
    rw [if_neg (by rw [ok97]; decide), h2, h3]
    simp [lkp, way, tcode]
  rw [hc1 _ _ _ rfl rfl] at G1
  go_wp2_with fail
  refine G1.out.mono ?_
  rintro e w5 ⟨rfl, b5, -, h5⟩
  have A5 := aside (h5 rfl).1
  have B5 := aside (B4.out.trans b5)
  clear b5 h5 G1 A4 B4
  have hS5 : sadd [⟨1, [], [], 0, none, n0, d0, m0, 0⟩, ⟨1, [], [], 0, none, n1, d1, m1, 0⟩, ⟨2, [], [47, 97], 0, none, n2, l2, l2, 0⟩, ⟨2, [], [114], 0, none, n3, l3, l3, 0⟩] 0 1 [97] = [⟨1, [([97], 1)], [], 0, none, n0, d0, m0, 0⟩, ⟨1, [], [], 0, some 0, n1, d1, m1, 0⟩, ⟨2, [], [47, 97], 0, none, n2, l2, l2, 0⟩, ⟨2, [], [114], 0, none, n3, l3, l3, 0⟩] := by simp [sadd, sup]
  rw [hS5] at A5
  clear hS5
  have G2 := aside (gadd A5.out B5.out.size (i := 1) (j := 2) rfl rfl rfl [109] (by simp) (by simp) (fun hk => absurd hk (by show ¬ (2 : Int) = 1; decide)))
  have hc2 : ∀ (S : List Ne) (d e : Ne), d.L = [] → e.k = 2 → adc S 1 d [109] 2 e = 0 := fun S d e h2 h3 => by
    unfold adc
    have hl := way_len S 1 1
    rw [if_neg (by rw [ok109]; decide), h2, h3]
    simp [lkp, tcode]
    omega
  rw [hc2 _ _ _ rfl rfl] at G2
  go_wp2_with fail
  refine G2.out.mono ?_
  rintro e w6 ⟨rfl, b6, -, h6⟩
  have A6 := aside (h6 rfl).1
  have B6 := aside (B5.out.trans b6)
  clear b6 h6 G2 A5 B5
  have hS6 : sadd [⟨1, [([97], 1)], [], 0, none, n0, d0, m0, 0⟩, ⟨1, [], [], 0, some 0, n1, d1, m1, 0⟩, ⟨2, [], [47, 97], 0, none, n2, l2, l2, 0⟩, ⟨2, [], [114], 0, none, n3, l3, l3, 0⟩] 1 2 [109] = [⟨1, [([97], 1)], [], 0, none, n0, d0, m0, 0⟩, ⟨1, [([109], 2)], [], 0, some 0, n1, d1, m1, 0⟩, ⟨2, [], [47, 97], 0, none, n2, l2, l2, 0⟩, ⟨2, [], [114], 0, none, n3, l3, l3, 0⟩] := by simp [sadd, sup]
  rw [hS6] at A6
  clear hS6
  have G3 := aside (gadd A6.out B6.out.size (i := 0) (j := 3) rfl rfl rfl [114] (by simp) (by simp) (fun hk => absurd hk (by show ¬ (2 : Int) = 1; decide)))
  have hc3 : ∀ (S : List Ne) (d e : Ne), d.L = [([97], 1)] → e.k = 2 → adc S 0 d [114] 3 e = 0 := fun S d e h2 h3 => by
    unfold adc
    rw [if_neg (by rw [ok114]; decide), h2, h3]
    simp [lkp, tcode, way]
  rw [hc3 _ _ _ rfl rfl] at G3
  go_wp2_with fail
  refine G3.out.mono ?_
  rintro e w7 ⟨rfl, b7, -, h7⟩
  have A7 := aside (h7 rfl).1
  have B7 := aside (B6.out.trans b7)
  clear b7 h7 G3 A6 B6
  have hS7 : sadd [⟨1, [([97], 1)], [], 0, none, n0, d0, m0, 0⟩, ⟨1, [([109], 2)], [], 0, some 0, n1, d1, m1, 0⟩, ⟨2, [], [47, 97], 0, none, n2, l2, l2, 0⟩, ⟨2, [], [114], 0, none, n3, l3, l3, 0⟩] 0 3 [114] = [⟨1, [([97], 1), ([114], 3)], [], 0, none, n0, d0, m0, 0⟩, ⟨1, [([109], 2)], [], 0, some 0, n1, d1, m1, 0⟩, ⟨2, [], [47, 97], 0, none, n2, l2, l2, 0⟩, ⟨2, [], [114], 0, none, n3, l3, l3, 0⟩] := by simp [sadd, sup]
  rw [hS7] at A7
  clear hS7
  obtain ⟨S, hS⟩ : ∃ S : List Ne, S = [⟨1, [([97], 1), ([114], 3)], [], 0, none, n0, d0, m0, 0⟩, ⟨1, [([109], 2)], [], 0, some 0, n1, d1, m1, 0⟩, ⟨2, [], [47, 97], 0, none, n2, l2, l2, 0⟩, ⟨2, [], [114], 0, none, n3, l3, l3, 0⟩] := ⟨_, rfl⟩
  rw [← hS] at A7
  have hg : gr S = GW := by rw [hS]; rfl
  have ha0 : adr S 0 = n0 := by rw [hS]; rfl
  have ha1 : adr S 1 = n1 := by rw [hS]; rfl
  have hnd : ∀ W, Below w7.heap.size w7 W → Nd W n1 103 d1 := fun W hW => by
    have := (A7.out.below hW).nod 1 ⟨1, [([109], 2)], [], 0, some 0, n1, d1, m1, 0⟩ (by rw [hS]; rfl)
    exact (this.dr rfl).nod
  have AN := aside hnd
  have HG := aside (fun W (hW : Below w7.heap.size w7 W) => (A7.out.below hW).gat)
  rw [hg] at HG
  have HM : Aside (∀ W, Below w7.heap.size w7 W → Mxl W) := fun W hW => AM.out.below (B7.out.trans (hW.mono B7.out.size)) AM.out.lt
  clear hS hg A7 hnd
  have W1 := aside (walk_any (HG.out _ (Below.refl _ _)) (HM.out _ (Below.refl _ _)) (i := 0) (by decide) [97, 47, 109, 47, 46, 46, 47, 97] true)
  rw [gw1, ha0] at W1
  have e1 : WalkA (adr S) (0, [([], 0), ([97], 1)]) = .tuple #[Pt n1, .int .i64 0] := by unfold WalkA; rw [if_pos rfl]; show Value.tuple #[Pt (adr S 1), _] = _; rw [ha1]
  rw [e1] at W1
  go_wp2_with fail
  refine W1.out.mono ?_
  rintro e w8 ⟨rfl, b8⟩
  have B8 := aside b8
  clear b8 W1 e1
  have W2 := aside (walk_any (HG.out _ B8.out) (HM.out _ B8.out) (i := 0) (by decide) [114] true)
  rw [gw2, ha0] at W2
  have e2 : WalkA (adr S) (200, []) = .tuple #[.pointer none, .int .i64 200] := by unfold WalkA; rw [if_neg (by decide)]
  rw [e2] at W2
  go_wp2_with fail
  refine W2.out.mono ?_
  rintro e w9 ⟨rfl, b9⟩
  have B9 := aside (below_tr B8.out b9)
  clear b9 W2 e2
  have W3 := aside (clean_any [47, 97, 47, 47, 98, 47, 46, 47, 46, 46, 47, 99] w9 (HM.out _ B9.out))
  rw [cl1] at W3
  go_wp2_with fail
  refine W3.out.mono ?_
  rintro e w10 ⟨rfl, b10⟩
  have B10 := aside (below_tr B9.out b10)
  clear b10 W3
  have W4 := aside (walk_any (HG.out _ B10.out) (HM.out _ B10.out) (i := 0) (by decide) [98] false)
  rw [gw3, ha0] at W4
  have e4 : WalkA (adr S) (192, []) = .tuple #[.pointer none, .int .i64 192] := by unfold WalkA; rw [if_neg (by decide)]
  rw [e4] at W4
  go_wp2_with fail
  refine W4.out.mono ?_
  rintro e w11 ⟨rfl, b11⟩
  have B11 := aside (below_tr B10.out b11)
  have hn := AN.out _ B11.out
  have heq := eq_node hn hn
  rw [decide_eq_true rfl] at heq
  clear b11 W4 e4 hn
  go_wp2_with fail
  go_ret
  exact ⟨rfl, B7.out.trans (B11.out.mono B7.out.size)⟩
end Go.Proofs.YtknjclekfmmfeabGreatDoor
