/- Guard over a file that can all: of a grant that may read and write, and of one that may read. -/
import Derived.Test.YtleenkdlnmoepaaGrd2
import Derived.Test.YtleenkdlnmoepaaFaceH
namespace Go.Proofs.Ytleenkdlnmoepaa
open Go.RowKit Go.MapLit Go.ChangeMaps

set_option maxRecDepth 20000 in
set_option maxHeartbeats 1000000 in
theorem canC (hb d : Nat) (w : World) (c5 : w.cell? ⟨hb, 5, none⟩ = some (FSy d)) : Calls Try.prog 17 #[pt hb] w fun e w' => e = .returned (.int .u8 15) ∧ w' = w := by
  have n1 := yesW
  have n2 := yesC
  have n3 := yesH
  have n4 := yesS
  go_enter Try.func17, Try.ntmps17
  go_wp2_with fail
  refine (file_any hb _ w c5).mono ?_
  rintro e w' ⟨rfl, rfl⟩
  go_wp2
  go_ret
  exact ⟨rfl, rfl⟩

set_option maxRecDepth 20000 in
set_option maxHeartbeats 2000000 in
theorem guard_15 (b : Bok) (a : Int) (hb d : Nat) (w : World) (h : Bk w b) (hw : (Lit.int .i64 a).wf = true) {g : Gr} (hl : lk b.L a = some g) (hr : g.r = 3) (hc : w.cell? ⟨hb, 5, none⟩ = some (FSy d)) :
    Calls Try.prog 10 #[pt b.p, .int .i64 a, pt hb] w fun e w' => ∃ hb' fb' f x y, e = .returned (.tuple #[pt hb', .int .i64 0]) ∧ AllT 71 w' hb' fb' ⟨f, 0, none⟩ ∧ Gd w' f d x y ∧ Ask2 w' x y b.p a ∧ Below w.heap.size w w' ∧ w.heap.size ≤ hb' ∧ w.heap.size ≤ fb' ∧ w.heap.size ≤ f ∧ w.heap.size ≤ x ∧ w.heap.size ≤ y := by
  have c0 := h.c0
  have hk := (h.yes hw hl).1
  rw [hr] at hk
  have F := aside (file_any hb (FSy d) w hc)
  obtain ⟨W, hW⟩ : ∃ W, W = w.alloc (.cells #[.int .u8 3, .int .i64 (g.of : Int)] 63) := ⟨_, rfl⟩
  have HW : Aside (Below w.heap.size w W) := by rw [hW]; exact below_al w _
  have HG : Aside (W.cell? ⟨w.heap.size, 0, none⟩ = some (.int .u8 3)) := aside (by rw [hW]; go_simp)
  have HH : Aside (W.cell? ⟨hb, 5, none⟩ = some (FSy d)) := (HW.out.cell (World.block_lt_of_cell? w _ hc)).trans hc
  have HSW : Aside (w.heap.size < W.heap.size) := aside (by rw [hW]; simp)
  have HL : Aside (w.cell? ⟨hb, 5, none⟩ = some (FSy d)) := hc
  have A1 := aside (asker_any b.p a W)
  rw [hW] at A1
  clear h hl hc hr
  go_enter Try.func10, Try.ntmps10
  go_wp2_with fail
  refine F.out.mono ?_
  rintro e w0 ⟨rfl, rfl⟩
  go_wp2_with fail
  refine A1.out.mono ?_
  rintro e w1 ⟨x, y, rfl, hx, hy, hb1, hlx, hly⟩
  rw [← hW] at hb1 hlx hly
  clear hW A1
  have HB1 := aside (below_tr HW.out hb1)
  have HA1 : Aside (Ask2 w1 x y b.p a) := ⟨hx, hy⟩
  have HXY : Aside (w0.heap.size ≤ x ∧ w0.heap.size ≤ y) := ⟨Nat.le_trans HW.out.size hlx, Nat.le_trans HW.out.size hly⟩
  have HG1 : Aside (w1.cell? ⟨w0.heap.size, 0, none⟩ = some (.int .u8 3)) := (hb1.cell (World.block_lt_of_cell? W _ HG.out)).trans HG.out
  have HH1 : Aside (w1.cell? ⟨hb, 5, none⟩ = some (FSy d)) := (hb1.cell (World.block_lt_of_cell? W _ HH.out)).trans HH.out
  clear hx hy hb1 hlx hly
  go_wp2_with fail
  refine (over_any d x y w1).mono ?_
  rintro e w2 ⟨f, rfl, hG, hb2, hlf⟩
  have HB2 := aside (below_tr HB1.out hb2)
  have HA2 := aside (HA1.out.below hb2)
  have HGd := aside hG
  have HF2 : Aside (w0.heap.size ≤ f) := Nat.le_trans HB1.out.size hlf
  have hg2 : w2.cell? ⟨w0.heap.size, 0, none⟩ = some (.int .u8 3) := (hb2.cell (World.block_lt_of_cell? w1 _ HG1.out)).trans HG1.out
  have hh2 : w2.cell? ⟨hb, 5, none⟩ = some (FSy d) := (hb2.cell (World.block_lt_of_cell? w1 _ HH1.out)).trans HH1.out
  clear hG hb2 hlf HG1 HH1
  have hg3 : w2.drew.cell? ⟨w0.heap.size, 0, none⟩ = some (.int .u8 3) := hg2
  have hh3 : w2.drew.cell? ⟨hb, 5, none⟩ = some (FSy d) := hh2
  have CM : Aside (∀ V : World, V.cell? ⟨hb, 5, none⟩ = some (FSy d) → V.cell? ⟨w0.heap.size, 0, none⟩ = some (.int .u8 3) → Calls Try.prog 27 #[J 71 ⟨f, 0, none⟩, J 71 ⟨f, 0, none⟩, J 71 ⟨f, 0, none⟩, J 71 ⟨f, 0, none⟩, J 71 ⟨f, 0, none⟩] V fun e w' => ∃ hb' fb', e = .returned (pt hb') ∧ Aside (AllT 71 w' hb' fb' ⟨f, 0, none⟩ ∧ Below V.heap.size V w') ∧ w'.cell? ⟨hb, 5, none⟩ = some (FSy d) ∧ w'.cell? ⟨w0.heap.size, 0, none⟩ = some (.int .u8 3)) := fun V h1 h2 => by
    refine (make_allT 71 ⟨f, 0, none⟩ V).mono ?_
    rintro e w' ⟨hb', fb', rfl, -, -, h3, h4, hb3⟩
    exact ⟨hb', fb', rfl, aside ⟨⟨h3, h4⟩, hb3⟩, (hb3.cell (World.block_lt_of_cell? V _ h1)).trans h1, (hb3.cell (World.block_lt_of_cell? V _ h2)).trans h2⟩
  have CO : Aside (∀ (V : World) hb1 fb1, AllT 71 V hb1 fb1 ⟨f, 0, none⟩ → V.cell? ⟨hb, 5, none⟩ = some (FSy d) → V.cell? ⟨w0.heap.size, 0, none⟩ = some (.int .u8 3) → Calls Try.prog 28 #[pt hb1, .int .u8 15] V fun e w' => ∃ hb' fb', e = .returned (pt hb') ∧ Aside (AllT 71 w' hb' fb' ⟨f, 0, none⟩ ∧ Below V.heap.size V w' ∧ V.heap.size ≤ hb' ∧ V.heap.size ≤ fb') ∧ w'.cell? ⟨hb, 5, none⟩ = some (FSy d) ∧ w'.cell? ⟨w0.heap.size, 0, none⟩ = some (.int .u8 3)) := fun V hb1 fb1 h0 h1 h2 => by
    refine (Only_allT 71 ⟨f, 0, none⟩ hb1 fb1 V h0).mono ?_
    rintro e w' ⟨hb', fb', rfl, h5, h6, h3, hb3⟩
    exact ⟨hb', fb', rfl, aside ⟨h3, hb3, h5, h6⟩, (hb3.cell (World.block_lt_of_cell? V _ h1)).trans h1, (hb3.cell (World.block_lt_of_cell? V _ h2)).trans h2⟩
  have CL := fun V => leaves_any 3 V (by decide)
  simp only [↓reduceIte, Int.cast_ofNat_Int] at CL
  have hbits : bits .and .u8 15 15 = 15 := by decide
  go_wp2_with fail
  go_region_held3 (fun w' => w'.cell? ⟨hb, 5, none⟩ = some (FSy d) ∧ w'.cell? ⟨w0.heap.size, 0, none⟩ = some (.int .u8 3)) (go_keep) (first
    | (go_at_call 27; with_reducible refine (CM.out _ (by assumption) (by assumption)).mono ?_; rintro e w3 ⟨hb3, fb3, rfl, HM, k1, k2⟩)
    | (go_at_call 17; with_reducible refine (canC hb d _ (by assumption)).mono ?_; rintro e w4 ⟨rfl, rfl⟩)
    | (go_at_call 29; with_reducible refine (CL _).mono ?_; rintro e w5 ⟨rfl, rfl⟩)
    | (go_at_call 28; with_reducible refine (CO.out _ hb3 fb3 HM.out.1 (by assumption) (by assumption)).mono ?_; rintro e w6 ⟨hb6, fb6, rfl, HO, k3, k4⟩))
  have b6 := aside (below_tr (below_tr (below_dr w2) HM.out.2) HO.out.2.1)
  have b5 := aside (below_tr HB2.out (below_tr (below_dr w2) HM.out.2)).size
  clear CM CO CL HM hg2 hh2 hg3 hh3
  go_wp2_with fail
  go_ret2
  exact ⟨hb6, fb6, f, x, y, rfl, HO.out.1, HGd.out.below b6.out, HA2.out.below b6.out, below_tr HB2.out b6.out, Nat.le_trans b5.out HO.out.2.2.1, Nat.le_trans b5.out HO.out.2.2.2, HF2.out, HXY.out.1, HXY.out.2⟩

set_option maxRecDepth 20000 in
set_option maxHeartbeats 2000000 in
theorem guard_12 (b : Bok) (a : Int) (hb d : Nat) (w : World) (h : Bk w b) (hw : (Lit.int .i64 a).wf = true) {g : Gr} (hl : lk b.L a = some g) (hr : g.r = 1) (hc : w.cell? ⟨hb, 5, none⟩ = some (FSy d)) :
    Calls Try.prog 10 #[pt b.p, .int .i64 a, pt hb] w fun e w' => ∃ hb' fb' f x y, e = .returned (.tuple #[pt hb', .int .i64 0]) ∧ HsT 71 w' hb' fb' ⟨f, 0, none⟩ ∧ Gd w' f d x y ∧ Ask2 w' x y b.p a ∧ Below w.heap.size w w' ∧ w.heap.size ≤ hb' ∧ w.heap.size ≤ fb' ∧ w.heap.size ≤ f ∧ w.heap.size ≤ x ∧ w.heap.size ≤ y := by
  have c0 := h.c0
  have hk := (h.yes hw hl).1
  rw [hr] at hk
  have F := aside (file_any hb (FSy d) w hc)
  obtain ⟨W, hW⟩ : ∃ W, W = w.alloc (.cells #[.int .u8 1, .int .i64 (g.of : Int)] 63) := ⟨_, rfl⟩
  have HW : Aside (Below w.heap.size w W) := by rw [hW]; exact below_al w _
  have HG : Aside (W.cell? ⟨w.heap.size, 0, none⟩ = some (.int .u8 1)) := aside (by rw [hW]; go_simp)
  have HH : Aside (W.cell? ⟨hb, 5, none⟩ = some (FSy d)) := (HW.out.cell (World.block_lt_of_cell? w _ hc)).trans hc
  have HSW : Aside (w.heap.size < W.heap.size) := aside (by rw [hW]; simp)
  have HL : Aside (w.cell? ⟨hb, 5, none⟩ = some (FSy d)) := hc
  have A1 := aside (asker_any b.p a W)
  rw [hW] at A1
  clear h hl hc hr
  go_enter Try.func10, Try.ntmps10
  go_wp2_with fail
  refine F.out.mono ?_
  rintro e w0 ⟨rfl, rfl⟩
  go_wp2_with fail
  refine A1.out.mono ?_
  rintro e w1 ⟨x, y, rfl, hx, hy, hb1, hlx, hly⟩
  rw [← hW] at hb1 hlx hly
  clear hW A1
  have HB1 := aside (below_tr HW.out hb1)
  have HA1 : Aside (Ask2 w1 x y b.p a) := ⟨hx, hy⟩
  have HXY : Aside (w0.heap.size ≤ x ∧ w0.heap.size ≤ y) := ⟨Nat.le_trans HW.out.size hlx, Nat.le_trans HW.out.size hly⟩
  have HG1 : Aside (w1.cell? ⟨w0.heap.size, 0, none⟩ = some (.int .u8 1)) := (hb1.cell (World.block_lt_of_cell? W _ HG.out)).trans HG.out
  have HH1 : Aside (w1.cell? ⟨hb, 5, none⟩ = some (FSy d)) := (hb1.cell (World.block_lt_of_cell? W _ HH.out)).trans HH.out
  clear hx hy hb1 hlx hly
  go_wp2_with fail
  refine (over_any d x y w1).mono ?_
  rintro e w2 ⟨f, rfl, hG, hb2, hlf⟩
  have HB2 := aside (below_tr HB1.out hb2)
  have HA2 := aside (HA1.out.below hb2)
  have HGd := aside hG
  have HF2 : Aside (w0.heap.size ≤ f) := Nat.le_trans HB1.out.size hlf
  have hg2 : w2.cell? ⟨w0.heap.size, 0, none⟩ = some (.int .u8 1) := (hb2.cell (World.block_lt_of_cell? w1 _ HG1.out)).trans HG1.out
  have hh2 : w2.cell? ⟨hb, 5, none⟩ = some (FSy d) := (hb2.cell (World.block_lt_of_cell? w1 _ HH1.out)).trans HH1.out
  clear hG hb2 hlf HG1 HH1
  have hg3 : w2.drew.cell? ⟨w0.heap.size, 0, none⟩ = some (.int .u8 1) := hg2
  have hh3 : w2.drew.cell? ⟨hb, 5, none⟩ = some (FSy d) := hh2
  have CM : Aside (∀ V : World, V.cell? ⟨hb, 5, none⟩ = some (FSy d) → V.cell? ⟨w0.heap.size, 0, none⟩ = some (.int .u8 1) → Calls Try.prog 27 #[J 71 ⟨f, 0, none⟩, J 71 ⟨f, 0, none⟩, J 71 ⟨f, 0, none⟩, J 71 ⟨f, 0, none⟩, J 71 ⟨f, 0, none⟩] V fun e w' => ∃ hb' fb', e = .returned (pt hb') ∧ Aside (AllT 71 w' hb' fb' ⟨f, 0, none⟩ ∧ Below V.heap.size V w') ∧ w'.cell? ⟨hb, 5, none⟩ = some (FSy d) ∧ w'.cell? ⟨w0.heap.size, 0, none⟩ = some (.int .u8 1)) := fun V h1 h2 => by
    refine (make_allT 71 ⟨f, 0, none⟩ V).mono ?_
    rintro e w' ⟨hb', fb', rfl, -, -, h3, h4, hb3⟩
    exact ⟨hb', fb', rfl, aside ⟨⟨h3, h4⟩, hb3⟩, (hb3.cell (World.block_lt_of_cell? V _ h1)).trans h1, (hb3.cell (World.block_lt_of_cell? V _ h2)).trans h2⟩
  have CO : Aside (∀ (V : World) hb1 fb1, AllT 71 V hb1 fb1 ⟨f, 0, none⟩ → V.cell? ⟨hb, 5, none⟩ = some (FSy d) → V.cell? ⟨w0.heap.size, 0, none⟩ = some (.int .u8 1) → Calls Try.prog 28 #[pt hb1, .int .u8 12] V fun e w' => ∃ hb' fb', e = .returned (pt hb') ∧ Aside (HsT 71 w' hb' fb' ⟨f, 0, none⟩ ∧ Below V.heap.size V w' ∧ V.heap.size ≤ hb' ∧ V.heap.size ≤ fb') ∧ w'.cell? ⟨hb, 5, none⟩ = some (FSy d) ∧ w'.cell? ⟨w0.heap.size, 0, none⟩ = some (.int .u8 1)) := fun V hb1 fb1 h0 h1 h2 => by
    refine (Only_hsT 71 ⟨f, 0, none⟩ hb1 fb1 V h0).mono ?_
    rintro e w' ⟨hb', fb', rfl, h5, h6, h3, hb3⟩
    exact ⟨hb', fb', rfl, aside ⟨h3, hb3, h5, h6⟩, (hb3.cell (World.block_lt_of_cell? V _ h1)).trans h1, (hb3.cell (World.block_lt_of_cell? V _ h2)).trans h2⟩
  have CL := fun V => leaves_any 1 V (by decide)
  simp only [show (1 : Nat) = 3 ↔ False by decide, ↓reduceIte, Int.cast_ofNat_Int] at CL
  have hbits : bits .and .u8 15 12 = 12 := by decide
  go_wp2_with fail
  go_region_held3 (fun w' => w'.cell? ⟨hb, 5, none⟩ = some (FSy d) ∧ w'.cell? ⟨w0.heap.size, 0, none⟩ = some (.int .u8 1)) (go_keep) (first
    | (go_at_call 27; with_reducible refine (CM.out _ (by assumption) (by assumption)).mono ?_; rintro e w3 ⟨hb3, fb3, rfl, HM, k1, k2⟩)
    | (go_at_call 17; with_reducible refine (canC hb d _ (by assumption)).mono ?_; rintro e w4 ⟨rfl, rfl⟩)
    | (go_at_call 29; with_reducible refine (CL _).mono ?_; rintro e w5 ⟨rfl, rfl⟩)
    | (go_at_call 28; with_reducible refine (CO.out _ hb3 fb3 HM.out.1 (by assumption) (by assumption)).mono ?_; rintro e w6 ⟨hb6, fb6, rfl, HO, k3, k4⟩))
  have b6 := aside (below_tr (below_tr (below_dr w2) HM.out.2) HO.out.2.1)
  have b5 := aside (below_tr HB2.out (below_tr (below_dr w2) HM.out.2)).size
  clear CM CO CL HM hg2 hh2 hg3 hh3
  go_wp2_with fail
  go_ret2
  exact ⟨hb6, fb6, f, x, y, rfl, HO.out.1, HGd.out.below b6.out, HA2.out.below b6.out, below_tr HB2.out b6.out, Nat.le_trans b5.out HO.out.2.2.1, Nat.le_trans b5.out HO.out.2.2.2, HF2.out, HXY.out.1, HXY.out.2⟩
end Go.Proofs.Ytleenkdlnmoepaa
