/- wakes: what the document says of sums holds of this program. -/
import Derived.Test.YtoagjgcpgpjjeaaSumDo
namespace Go.Proofs.Ytoagjgcpgpjjeaa
open Go.RowKit
attribute [local simp] lcells_nil readB_length bcells_length

set_option maxRecDepth 20000 in
theorem putNil0_any (b : Nat) (w : World) : Calls Try.prog 22 #[.pointer (some ⟨b, 0, none⟩), .int .i64 0, .slice none 0 0] w fun e w' => e = .returned (.int .i64 0) ∧ w' = w := by
  go_enter Try.func22, Try.ntmps22
  go_wp2
  go_ret
  exact ⟨rfl, rfl⟩
set_option maxRecDepth 20000 in
set_option maxHeartbeats 1000000 in
theorem newNil_any (w : World) : Calls Try.prog 20 #[.slice none 0 0] w fun e w' => e = .returned (.pointer (some ⟨w.heap.size, 0, none⟩)) ∧ ∃ lv, Rep w' w.heap.size 0 lv [] ∧ Below w.heap.size w w' := by
  have hR := aside (rep_new w)
  go_enter Try.func20, Try.ntmps20
  go_wp2_with ((with_reducible refine wpList_min2 _ rfl _ _ _ rfl (0 : Int) 4194304 (0 : Int) ?_ ?_ (by decide) ?_); rfl; rfl)
  refine (putNil0_any _ _).mono ?_
  rintro e w' ⟨rfl, rfl⟩
  go_wp2
  go_ret
  exact ⟨rfl, .slice none 0 0, hR.out, below_al w _⟩
set_option maxRecDepth 20000 in
set_option maxHeartbeats 1000000 in
theorem memNil_any (w : World) :
    Calls Try.prog 17 #[.slice none 0 0, .int .u8 15] w fun e w' => ∃ hb fb m b lv, e = .returned (.tuple #[.pointer (some ⟨hb, 0, none⟩), .int .i64 0]) ∧ All15 w' hb fb ⟨m, 0, none⟩ ∧ Fil w' m b ∧ Rep w' b 0 lv [] ∧ Below w.heap.size w w' := by
  go_enter Try.func17, Try.ntmps17
  go_wp2_with fail
  refine (newNil_any w).mono ?_
  rintro e w1 ⟨rfl, lv, hR, hb1⟩
  have HR := aside hR
  have HB := aside hb1
  clear hR hb1
  go_wp2_with fail
  refine (of_all w.heap.size w1).mono ?_
  rintro e w2 ⟨hb, fb, m, rfl, h1, h2, h3, h4, h5, hb2⟩
  go_wp2_with fail
  go_ret2
  exact ⟨hb, fb, m, w.heap.size, lv, rfl, h4, h5, HR.out.below hb2, below_tr HB.out hb2⟩

theorem fnv0_none : fnv0 [] = 14695981039346656037 := rfl
theorem fnv0_a : fnv0 [97] = 12638187200555641996 := by decide
theorem tab_len3 (L : List Piece) : (tab L 3).length = 8 := by unfold tab; rw [tabk_length]

set_option maxRecDepth 20000 in
set_option maxHeartbeats 4000000 in
theorem wakes10_any (w : World) : Calls Try.prog 9 #[] w fun e w' => e = .returned (.bool true) ∧ Below w.heap.size w w' := by
  have hcv := fun (w : World) (C : Array Value) (n c : Nat) => Lib.run_convert_bytes_const (P := Try.prog) w 22 5 C n c Try.underlying22 Try.underlying5
  go_enter Try.func9, Try.ntmps9
  go_wp2_with fail
  refine (memNew_all w.heap.size _ (heap_alloc_new w _)).mono ?_
  rintro e w1 ⟨ha, fa, ma, ba, lva, g, cap, rfl, q1, q2, q3, q4, q5, q6, q7, hA, hF, hR, hb1⟩
  have HB1 := aside (below_tr (below_al w _) hb1)
  have HA := aside hA
  have HF := aside hF
  have HR := aside hR
  clear hA hF hR hb1 q1 q2 q3 q4 q5 q6 q7
  go_wp2_with fail
  refine (memNil_any w1).mono ?_
  rintro e w2 ⟨ht, ft, mt, bt, lvt, rfl, hA2, hF2, hR2, hb2⟩
  have F3 := aside (sumsNew_any ha fa _ ht ft _ w2 (HA.out.below hb2) hA2)
  have HO : Aside (∀ W f, Below w2.heap.size w2 W → SF W f fa ft → Over W f fa ft 3 [⟨0, g, cap, [97, 98, 99]⟩]) := fun W f hW hS =>
    ⟨hS, ⟨ha, ma, ba, lva, (HA.out.below hb2).below hW, (HF.out.below hb2).below hW, (HR.out.below hb2).below hW⟩, ⟨ht, mt, bt, lvt, hA2.below hW, hF2.below hW, hR2.below hW⟩⟩
  have F6 : Aside (∀ W, Below w2.heap.size w2 W → Calls Try.prog 11 #[.pointer (some ⟨ha, 0, none⟩)] W fun e w' => ∃ a c, e = .returned (.tuple #[.slice a 8 c, .int .i64 0]) ∧ Below W.heap.size W w') := fun W hW => by
    refine (table_any ha 175 fa ma ba 3 lva _ W (way15 ((HA.out.below hb2).below hW)) ((HF.out.below hb2).below hW) ((HR.out.below hb2).below hW) (by decide)).mono ?_
    rintro e w' ⟨v, rfl, ho, hb⟩
    rw [tab_len3] at ho
    rcases ho.2 with ⟨-, h⟩ | ⟨g', c', cur, rfl, -⟩
    · cases h
    · exact ⟨_, c', rfl, hb⟩
  have HB2 := aside (below_tr HB1.out hb2)
  clear hA2 hF2 hR2 hb2 HA HF HR HB1
  go_wp2_with fail
  refine F3.out.mono ?_
  rintro e w3 ⟨hb, fb, f, rfl, hA3, hS3, hb3⟩
  have HO3 := aside (HO.out w3 f hb3 hS3)
  have HA3 := aside hA3
  have HB3 := aside hb3
  have F4 := aside (sDo_any hb fb f 0 100 w3 hA3 (fun W hW => sRead_wrong f fa ft 3 _ W (HO3.out.below hW) (by decide)))
  clear hA3 hS3 hb3 F3 HO
  go_wp2_with fail
  refine F4.out.mono ?_
  rintro e w4 ⟨rfl, hb4⟩
  obtain ⟨U, hU⟩ : ∃ U, U = w4.alloc (.cells #[.int .i64 100, .int .i64 0, .int .i64 0, .slice none 0 0] 51) := ⟨_, rfl⟩
  have x0 : U.cell? ⟨w4.heap.size, 0, none⟩ = some (.int .i64 100) := by rw [hU]; go_simp
  have hBU : Below w3.heap.size w3 U := by rw [hU]; exact below_tr hb4 (below_al w4 _)
  have hxl : w4.heap.size < U.heap.size := by rw [hU]; simp
  have F5 := aside (sDo_any hb fb f 3 0 U (HA3.out.below hBU) (fun W hW => (sRead_out f fa ft 3 _ W ((HO3.out.below hBU).below hW)).mono (fun e w' h => ⟨h.1, h.2 ▸ Below.refl _ _⟩)))
  have HBU := aside (below_tr HB3.out hBU)
  clear hb4 F4 hBU HA3 HO3 HB3
  go_wp2_with fail
  rw [← hU]
  clear hU
  refine F5.out.mono ?_
  rintro e w5 ⟨rfl, hb5⟩
  obtain ⟨V, hV⟩ : ∃ V, V = w5.alloc (.cells #[.int .i64 0, .int .i64 0, .int .i64 0, .slice none 0 0] 51) := ⟨_, rfl⟩
  have hBV : Below U.heap.size U V := by rw [hV]; exact below_tr hb5 (below_al w5 _)
  have y0 : V.cell? ⟨w5.heap.size, 0, none⟩ = some (.int .i64 0) := by rw [hV]; go_simp
  have x1 : V.cell? ⟨w4.heap.size, 0, none⟩ = some (.int .i64 100) := (hBV.cell (p := ⟨w4.heap.size, 0, none⟩) hxl).trans x0
  have hyl : w5.heap.size < V.heap.size := by rw [hV]; simp
  have hxl2 : w4.heap.size < V.heap.size := Nat.lt_of_lt_of_le hxl hBV.size
  have F7 := aside (F6.out V (below_tr HBU.out hBV))
  have HBV := aside (below_tr HBU.out hBV)
  clear hb5 hBV x0 F5 F6 HBU hxl
  go_wp2_with fail
  rw [← hV]
  clear hV
  refine F7.out.mono ?_
  rintro e w6 ⟨a6, c6, rfl, hb6⟩
  have x2 : w6.cell? ⟨w4.heap.size, 0, none⟩ = some (.int .i64 100) := (hb6.cell (p := ⟨w4.heap.size, 0, none⟩) hxl2).trans x1
  have y2 : w6.cell? ⟨w5.heap.size, 0, none⟩ = some (.int .i64 0) := (hb6.cell (p := ⟨w5.heap.size, 0, none⟩) hyl).trans y0
  have hl6 := hb6.size
  have HB6 := aside (below_tr HBV.out hb6)
  have S1 := sum_any none [] 0 w6 (fun h => absurd rfl h) (by decide)
  rw [fnv0_none] at S1
  have HS1 := aside S1
  clear hb6 x1 y0 F7 HBV S1
  go_wp2_with fail
  refine HS1.out.mono ?_
  rintro e w' ⟨rfl, rfl⟩
  have hB7 := below_al w' (.cells #[.int .u8 97] 5 (1, 2))
  have S2 := sum_any (some ⟨w'.heap.size, 0, none⟩) [97] 1 (w'.alloc (.cells #[.int .u8 97] 5 (1, 2))) (fun _ => ⟨_, rfl, cells_lit (cs := bcells [97]) (heap_alloc_new w' (.cells #[.int .u8 97] 5 (1, 2)))⟩) (by decide)
  rw [fnv0_a] at S2
  have HS2 := aside S2
  have x3 : (w'.alloc (.cells #[.int .u8 97] 5 (1, 2))).cell? ⟨w4.heap.size, 0, none⟩ = some (.int .i64 100) := (hB7.cell (p := ⟨w4.heap.size, 0, none⟩) (Nat.lt_of_lt_of_le hxl2 hl6)).trans x2
  have y3 : (w'.alloc (.cells #[.int .u8 97] 5 (1, 2))).cell? ⟨w5.heap.size, 0, none⟩ = some (.int .i64 0) := (hB7.cell (p := ⟨w5.heap.size, 0, none⟩) (Nat.lt_of_lt_of_le hyl hl6)).trans y2
  have HB7 := aside (below_tr HB6.out hB7)
  clear S2 HS1 HB6 hB7 x2 y2
  go_wp2_with fail
  refine HS2.out.mono ?_
  rintro e w' ⟨rfl, rfl⟩
  go_wp2_with fail
  go_ret
  exact ⟨rfl, below_tr HB2.out HB7.out⟩
end Go.Proofs.Ytoagjgcpgpjjeaa
