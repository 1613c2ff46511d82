/- RightsKnown: the walk. -/
import Derived.Test.YtleenkdlnmoepaaKnownA
namespace Go.Proofs.Ytleenkdlnmoepaa
open Go.RowKit Go.MapLit Go.ChangeMaps

set_option maxRecDepth 20000 in
set_option maxHeartbeats 8000000 in
theorem rightsKnown_walk (w : World) : Calls Try.prog 6 #[] w fun e w' => e = .returned (.bool true) ∧ Below w.heap.size w w' := by
  have hcv := fun (w : World) (C : Array Value) (n c : Nat) => Lib.run_convert_bytes_const (P := Try.prog) w 41 5 C n c Try.underlying41 Try.underlying5
  have fE : ∀ (w : World), (Instr.field 54 (.agg #[.int .i64 170, .int .i64 0, .int .i64 0, .slice none 0 0]) 0).run Try.prog w = .ok (.int .i64 170) w := fun w => by kernel_rfl
  have hbo : ∀ w, (Instr.build 43 #[(0, .int .i8 5)]).run Try.prog w = .ok (.agg #[.int .i8 5, .int .i64 0, .int .i64 0, .slice none 0 0]) w := fun w => run_build w 43 _ _ (by kernel_rfl)
  go_enter Try.func6, Try.ntmps6
  go_wp2_with fail
  refine (new_st w).mono ?_
  rintro e w1 ⟨p, mb, rfl, hS⟩
  have G1 := aside (give_su hS 0 35 1 0 2 [⟨0, 63, 0⟩, ⟨1, 35, 0⟩] (by decide) (by decide) rfl rfl rfl rfl)
  clear hS
  go_wp2_with fail
  refine G1.out.mono ?_
  rintro e w2 ⟨rfl, hS, -⟩
  have G2 := aside (give_su hS 1 3 2 0 3 [⟨0, 63, 0⟩, ⟨1, 35, 0⟩, ⟨2, 3, 1⟩] (by decide) (by decide) rfl rfl rfl rfl)
  clear hS G1
  go_wp2_with fail
  refine G2.out.mono ?_
  rintro e w3 ⟨rfl, hS, -⟩
  have G3 := aside (give_su hS 1 4 0 170 3 [⟨0, 63, 0⟩, ⟨1, 35, 0⟩, ⟨2, 3, 1⟩] (by decide) (by decide) rfl rfl rfl rfl)
  clear hS G2
  go_wp2_with fail
  refine G3.out.mono ?_
  rintro e w4 ⟨rfl, hS, -⟩
  have G4 := aside (give_su hS 2 1 3 0 4 [⟨0, 63, 0⟩, ⟨1, 35, 0⟩, ⟨2, 3, 1⟩, ⟨3, 1, 2⟩] (by decide) (by decide) rfl rfl rfl rfl)
  clear hS G3
  go_wp2_with fail
  refine G4.out.mono ?_
  rintro e w5 ⟨rfl, hS, -⟩
  have G5 := aside (give_su hS 0 64 0 2 4 [⟨0, 63, 0⟩, ⟨1, 35, 0⟩, ⟨2, 3, 1⟩, ⟨3, 1, 2⟩] (by decide) (by decide) rfl rfl rfl rfl)
  clear hS G4
  go_wp2_with fail
  refine G5.out.mono ?_
  rintro e w6 ⟨rfl, hS, -⟩
  have HS6 := aside hS
  have G6 := aside (below_any ⟨p, mb, 4, [⟨0, 63, 0⟩, ⟨1, 35, 0⟩, ⟨2, 3, 1⟩, ⟨3, 1, 2⟩]⟩ 0 w6 hS.bk (by decide))
  clear hS G5
  go_wp2_with fail
  refine G6.out.mono ?_
  rintro e w7 ⟨sl, n, c, rfl, hO, hb7, hn⟩
  have hO' : OwnI w7 (.slice sl n c) [1, 2, 3] := hO
  obtain rfl : n = 3 := hO'.len
  have HO7 := aside hO'
  have HNF : Aside (∀ k, (Value.slice sl 3 c).ownBlock = some k → ¬ (k = p ∨ k = mb)) := fun k hk => by
    have h1 := hn k hk
    have h2 := HS6.out.bk.lp
    have h3 := HS6.out.bk.lm
    simp only at h2 h3
    omega
  have HS7 := aside (HS6.out.below hb7)
  have G7 := aside (back_st HS7.out 0 0 2 [⟨0, 63, 0⟩, ⟨1, 35, 0⟩, ⟨2, 3, 1⟩, ⟨3, 1, 2⟩] (by decide) rfl rfl rfl)
  clear hO hO' hb7 hn G6 HS6
  go_wp2_with fail
  refine G7.out.mono ?_
  rintro e w8 ⟨rfl, hS, hu⟩
  have HO8 := aside (HO7.out.upd hu HNF.out)
  have G8 := aside (back_st hS 1 3 0 [⟨0, 63, 0⟩] (by decide) rfl rfl rfl)
  clear hS hu G7 HO7 HS7
  go_wp2_with fail
  refine G8.out.mono ?_
  rintro e w9 ⟨rfl, hS, hu⟩
  have HO9 := aside (HO8.out.upd hu HNF.out)
  have G9 := aside (back_st hS 1 0 6 [⟨0, 63, 0⟩] (by decide) rfl rfl rfl)
  clear hS hu G8 HO8
  go_wp2_with fail
  refine G9.out.mono ?_
  rintro e w10 ⟨rfl, hS, hu⟩
  have HO10 := aside (HO9.out.upd hu HNF.out)
  have G10 := aside (give_su hS 0 1 4 0 5 [⟨0, 63, 0⟩, ⟨4, 1, 0⟩] (by decide) (by decide) rfl rfl rfl rfl)
  clear hS hu G9 HO9
  go_wp2_with fail
  refine G10.out.mono ?_
  rintro e w11 ⟨rfl, hS, hu⟩
  have HO11 := aside (HO10.out.upd hu HNF.out)
  have HS11 := aside hS
  clear hS hu G10 HO10 HNF
  go_wp2_with fail
  refine (new_all w11.heap.size _ (heap_alloc_new w11 _)).mono ?_
  rintro e w12 ⟨hb, d, m, s, lv, g0, cap0, rfl, -, -, -, -, -, -, -, hA, hF, hR, hb12⟩
  have HS12 := aside (HS11.out.below (below_tr (below_al w11 _) hb12))
  have HO12 := aside (HO11.out.below (below_tr (below_al w11 _) hb12))
  have HC12 := aside (han_cells hA.han).2.2.2.2.2
  have G12 := aside (guard_12 ⟨p, mb, 5, [⟨0, 63, 0⟩, ⟨4, 1, 0⟩]⟩ 4 hb d w12 HS12.out.bk (by decide) (g := ⟨4, 1, 0⟩) rfl rfl HC12.out)
  clear hA hF hR hb12 HS11 HO11
  go_wp2_with fail
  refine G12.out.mono ?_
  rintro e w13 ⟨hb', fb', f, x, y, rfl, h1, h2, h3, hb13, -⟩
  have HS13 := aside (HS12.out.below hb13)
  have HO13 := aside (HO12.out.below hb13)
  have HI13 : Aside (HsT 71 w13 hb' fb' ⟨f, 0, none⟩ ∧ Gd w13 f d x y ∧ Ask2 w13 x y p 4) := ⟨h1, h2, h3⟩
  have G13 := aside (guard_gone ⟨p, mb, 5, [⟨0, 63, 0⟩, ⟨4, 1, 0⟩]⟩ 9 hb d w13 HS13.out.bk (by decide) rfl ((hb13.cell (World.block_lt_of_cell? w12 _ HC12.out)).trans HC12.out))
  clear h1 h2 h3 hb13 G12 HS12 HO12 HC12
  go_wp2_with fail
  refine G13.out.mono ?_
  rintro e w14 ⟨rfl, hb14⟩
  have HS14 := aside (HS13.out.below hb14)
  have HO14 := aside (HO13.out.below hb14)
  have HI14 : Aside (HsT 71 w14 hb' fb' ⟨f, 0, none⟩ ∧ Gd w14 f d x y ∧ Ask2 w14 x y p 4) := ⟨HI13.out.1.below hb14, HI13.out.2.1.below hb14, HI13.out.2.2.below hb14⟩
  clear hb14 G13 HS13 HO13 HI13
  go_wp2_with fail
  refine (new_st w14).mono ?_
  rintro e w15 ⟨q, qb, rfl, hS⟩
  have HQ15 := aside hS
  clear hS
  go_wp2_with fail
  go_loopg [28, 29] 4095 (fun G s28 s29 wr => ∃ (k : Nat) (L : List Gr), k + G = 4095 ∧ s28 = .int .i64 0 ∧ s29 = .int .i64 (k : Int) ∧ Aside (St w14 wr ⟨q, qb, 1 + k, L⟩))
  case atStart => exact ⟨0, _, by omega, rfl, rfl, HQ15⟩
  case round =>
    obtain ⟨k, L, hkG, rfl, rfl, hS⟩ := hrel
    by_cases hk : k < 4095
    · have t1 : (k : Int) < 4095 := by omega
      have G15 := aside (give_zero hS.out (by omega))
      go_wp2_with fail
      refine G15.out.mono ?_
      rintro e w16 ⟨L', rfl, hS'⟩
      have HS' := aside hS'
      clear hS' G15
      go_wp2_with fail
      go_roundg (4095 - (k + 1))
      case measure => omega
      case rel => exact ⟨k + 1, L', by omega, rfl, by go_num, aside (by have := HS'.out; rw [show 1 + k + 1 = 1 + (k + 1) by omega] at this; exact this)⟩
    · obtain rfl : k = 4095 := by omega
      have G15 := aside (give_zero_full hS.out (by decide))
      go_wp2_with fail
      refine G15.out.mono ?_
      rintro e w16 ⟨rfl, hS'⟩
      have HB16 := aside hS'.bl
      clear hS' G15
      obtain ⟨W, hW⟩ : ∃ W, W = w16.alloc (.cells #[.int .i64 1, .int .i64 2, .int .i64 3] 3) := ⟨_, rfl⟩
      have HW : Aside (Below w14.heap.size w14 W) := by rw [hW]; exact below_tr HB16.out (below_al w16 _)
      have HN : Aside (NsAt W (some ⟨w16.heap.size, 0, none⟩) [1, 2, 3]) := fun _ => ⟨w16.heap.size, 0, rfl, fun j v hj => by
        have h1 : W.heap[w16.heap.size]? = some (.cells #[.int .i64 1, .int .i64 2, .int .i64 3] 3 (0, 0)) := by rw [hW]; exact heap_alloc_new w16 _
        rw [Nat.zero_add, cell_of_row W _ j _ _ _ h1]
        match j, hj with
        | 0, hj => simp at hj; subst hj; rfl
        | 1, hj => simp at hj; subst hj; rfl
        | 2, hj => simp at hj; subst hj; rfl
        | j + 3, hj => simp at hj⟩
      have G16 := aside (same_eq sl (some ⟨w16.heap.size, 0, none⟩) [1, 2, 3] c 3 W (by decide) (HO14.out.ns.below HW.out) HN.out)
      go_wp2_with fail
      rw [← hW]
      clear hW
      refine G16.out.mono ?_
      rintro e w17 ⟨rfl, hb17⟩
      have HB17 := aside (below_tr HW.out hb17)
      have G17 := aside (canHs 71 hb' fb' _ w17 (HI14.out.1.below HB17.out))
      clear hb17 G16 HN
      go_wp2_with fail
      refine G17.out.mono ?_
      rintro e w18 ⟨rfl, rfl⟩
      have G18 := aside (doSyncG hb' fb' f d x y 4 ⟨p, mb, 5, [⟨0, 63, 0⟩, ⟨4, 1, 0⟩]⟩ w18 (HI14.out.1.below HB17.out) (HI14.out.2.1.below HB17.out) (HI14.out.2.2.below HB17.out) (HS14.out.below HB17.out).bk (by decide) (g := ⟨4, 1, 0⟩) rfl rfl)
      clear G17
      go_wp2_with fail
      refine G18.out.mono ?_
      rintro e w19 ⟨rfl, hb19⟩
      have HB19 := aside (below_tr HB17.out hb19)
      clear hb19 G18
      go_wp2_with fail
      refine (works_any w19).mono ?_
      rintro e w20 ⟨rfl, hb20⟩
      have HB20 := aside (below_tr HB19.out hb20)
      clear hb20
      go_wp2_with fail
      go_ret
      exact ⟨rfl, below_tr HS14.out.bl HB20.out⟩
end Go.Proofs.Ytleenkdlnmoepaa
