/- made, kind 3. -/
import Derived.Test.YtknjclekfmmfeaaGreatDoorQLwc
namespace Go.Proofs.YtknjclekfmmfeaaGreatDoor
open Go.RowKit Go.ChangeMaps

set_option maxRecDepth 20000 in
set_option maxHeartbeats 8000000 in
theorem made3 {w : World} {lo wb : Nat} {S : List Ne} (h : LW w lo wb S) (hG : GX lo w S) (hR : RX lo w S) (hlo : lo ≤ w.heap.size) (hS : S.length ≤ 1000000) {e0 : Ne} (h0 : S[0]? = some e0) (h0k : e0.k = 1) (s : Spx) (hto : s.to.length ≤ 1048576) (hk : s.k = 3) :
    Calls Tryz.prog 28 #[Pt wb, s.val] w fun r w' => MadeP lo S s.k w r w' := by
  have _u := And.intro hS (And.intro h0 h0k)
  clear _u
  obtain ⟨si, so, nm, k, to⟩ := s
  show Calls Tryz.prog 28 #[Pt wb, .agg #[.int .i64 si, .int .i64 so, .string (ba nm), .int .i8 k, .string (ba to)]] w fun r w' => MadeP lo S k w r w'
  obtain ⟨W, hW⟩ : ∃ W, W = w.alloc (.cells #[.int .i64 si, .int .i64 so, .string (ba nm), .int .i8 k, .string (ba to)] 55) := ⟨_, rfl⟩
  have hB : Below w.heap.size w W := by rw [hW]; exact below_al w _
  have hs : W.heap[w.heap.size]? = some (.cells #[.int .i64 si, .int .i64 so, .string (ba nm), .int .i8 k, .string (ba to)] 55 (0, 0)) := by rw [hW]; exact heap_alloc_new w _
  have c1 : W.cell? ⟨w.heap.size, 1, none⟩ = some (.int .i64 so) := by rw [cell_of_row W _ 1 _ _ _ hs]; rfl
  have c3 : W.cell? ⟨w.heap.size, 3, none⟩ = some (.int .i8 k) := by rw [cell_of_row W _ 3 _ _ _ hs]; rfl
  have c4 : W.cell? ⟨w.heap.size, 4, none⟩ = some (.string (ba to)) := by rw [cell_of_row W _ 4 _ _ _ hs]; rfl
  have AB := aside hB
  have AL := aside (h.below hB)
  have AG := aside (hG.below hB)
  have AR := aside (hR.below hB)
  have hlo2 : lo ≤ W.heap.size := by have := hB.size; omega
  have hwl : w.heap.size < W.heap.size := (Array.getElem?_eq_some_iff.1 hs).1
  obtain ⟨T, hT⟩ : ∃ T, T = ba to := ⟨_, rfl⟩
  have hTs : T.size = to.length := by rw [hT, ba_size]
  have AT := aside hT
  have hto2 : to.length ≤ 1048576 := hto
  rw [← hT] at c4 hW ⊢
  clear h hG hR hs hB hT hto
  obtain ⟨N, hN⟩ : ∃ N, N = ba nm := ⟨_, rfl⟩
  rw [← hN] at hW ⊢
  clear hN
  go_enter Tryz.func28, Tryz.ntmps28
  obtain rfl : k = 3 := hk
  have q0 : ((3 : Int) == 0) = false := rfl
  have q1 : ((3 : Int) == 1) = false := rfl
  have q2 : ((3 : Int) == 2) = false := rfl
  go_wp2_with fail
  rw [← hW]
  clear hW
  refine (dirs_any AL.out AR.out hS).mono ?_
  rintro e w1 ⟨v, rfl, hgi, b1⟩
  have A1 := aside b1
  obtain ⟨g, c, rfl, hget⟩ := hgi.get (dls_ne h0 h0k (by have := mem_len h0; omega))
  have hdl := dls_len S S.length
  have hdn : 0 < (dls S S.length).length := List.length_pos_iff.2 (dls_ne h0 h0k (by have := mem_len h0; omega))
  have Aget := aside hget
  have c1' : w1.cell? ⟨w.heap.size, 1, none⟩ = some (.int .i64 so) := (b1.cell (p := ⟨w.heap.size, 1, none⟩) hwl).trans c1
  obtain ⟨dn, hdn2⟩ : ∃ dn, dn = (dls S S.length).length := ⟨_, rfl⟩
  rw [← hdn2] at hdl hdn ⊢
  have Adn := aside hdn2
  clear b1 hgi hget hdn2
  go_wp2_with fail
  refine (pick_any so dn w1 hdn (by omega)).mono ?_
  rintro e w2 ⟨r, hr, rfl, rfl⟩
  obtain ⟨q, hq⟩ : ∃ q, (dls S S.length)[r]? = some q := ⟨_, List.getElem?_eq_getElem (by rw [← Adn.out]; exact hr)⟩
  have hcq := Aget.out r q hq
  obtain ⟨d, hd, hdk⟩ := dls_dir (List.mem_of_getElem? hq)
  have hr0 : (0 : Int) ≤ (r : Int) := by omega
  have hr1 : (r : Int) < (dn : Int) := by omega
  have hqS := mem_len hd
  obtain ⟨lg, lc, xg, xc, hl0, hx1, hlat, hwb2, -⟩ := (AL.out.below A1.out).at
  obtain ⟨hla, hxa⟩ := hlat q d hd
  have hq0 : (0 : Int) ≤ (q : Int) := by omega
  obtain ⟨sl, hsl⟩ : ∃ sl, sl = S.length := ⟨_, rfl⟩
  have hq1 : (q : Int) < (sl : Int) := by omega
  rw [← hsl] at hl0 hx1
  have AMt := aside (mount_dir d.nb d.db w2 (((AG.out.below A1.out).nod q d hd).dr hdk).nod)
  have Ad := aside hd
  have Adk := aside hdk
  obtain ⟨dnb, hdnb⟩ : ∃ x, x = d.nb := ⟨_, rfl⟩
  obtain ⟨drb, hdrb⟩ : ∃ x, x = d.rb := ⟨_, rfl⟩
  rw [← hdnb] at hla AMt
  rw [← hdrb] at hxa
  have Adrb := aside hdrb
  clear hq hd hdk hlat hsl hdnb hdrb
  go_wp2_with fail
  refine AMt.out.mono ?_
  rintro e w3 ⟨mn, kb, rfl, h1, h2, hM, b3⟩
  have A3 := aside (below_tr A1.out b3)
  have AM := aside hM
  have hx1' : w3.cell? ⟨wb, 1, none⟩ = some (.slice (some ⟨xg, 0, none⟩) sl xc) := (b3.cell (p := ⟨wb, 1, none⟩) hwb2).trans hx1
  have hxa' : w3.cell? ⟨xg, q, none⟩ = some (Pt drb) := (b3.cell (World.block_lt_of_cell? _ _ hxa)).trans hxa
  have hz1 := A1.out.size
  have hRm : Aside (Calls Tryz.prog 53 #[Pt drb] w3 fun e w' => e = .returned (.tuple #[Pt w3.heap.size, .int .i64 0]) ∧ Rc w' w3.heap.size 3 (.pointer none) ⟨#[]⟩ (Pt drb) [] (.pointer none) ∧ Below w3.heap.size w3 w') := by
    obtain ⟨-, f, m, K, hc, -⟩ := (AR.out.below A3.out).nod q d Ad.out
    rw [Adk.out, ← Adrb.out] at hc
    exact rMount_dir hc
  clear b3 hM AMt
  go_wp2_with fail
  refine hRm.out.mono ?_
  rintro e w4 ⟨rfl, hr4, b4⟩
  have AF := aside (fresh_mount AG.out AR.out hlo2 Ad.out Adk.out (by omega) (by omega) AM.out A3.out (by rw [← Adrb.out]; exact hr4) b4)
  have A4 := aside (below_tr AB.out (below_tr A3.out b4))
  clear hr4 b4 hRm
  go_wp2_with fail
  go_ret3
  exact ⟨A4.out, _, _, true, rfl, fun _ => .inl ⟨by decide, _, AF.out, rfl, rfl⟩⟩
end Go.Proofs.YtknjclekfmmfeaaGreatDoor
