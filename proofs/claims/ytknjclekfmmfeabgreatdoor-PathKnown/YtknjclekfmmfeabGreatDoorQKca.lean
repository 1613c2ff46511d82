/- made, of specs that are made: a file, a directory, a link with a text. -/
import Derived.Test.YtknjclekfmmfeabGreatDoorQLwc
namespace Go.Proofs.YtknjclekfmmfeabGreatDoor
open Go.RowKit Go.ChangeMaps

/-- What made answers then. -/
def MadeG (lo : Nat) (S : List Ne) (k : Int) (to : B) (w : World) (r : Ending) (w' : World) : Prop :=
  Below w.heap.size w w' ∧ ∃ v1 v2 e, r = .returned (.tuple #[v1, v2, .bool true]) ∧ Fresh lo w' S k e ∧ v1 = Pt e.nb ∧ v2 = Pt e.rb ∧ (e.to = if k = 2 then to else []) ∧ e.u = 0
set_option maxRecDepth 20000 in
set_option maxHeartbeats 8000000 in
theorem gmade0 {w : World} {lo wb : Nat} {S : List Ne} (h : LW w lo wb S) (hG : GX lo w S) (hR : RX lo w S) (hlo : lo ≤ w.heap.size) (hS : S.length ≤ 1000000) {e0 : Ne} (h0 : S[0]? = some e0) (h0k : e0.k = 1) (s : Spx) (hto : s.to.length ≤ 1048576) (hk : s.k = 0) :
    Calls Tryz.prog 27 #[Pt wb, s.val] w fun r w' => MadeG lo S s.k s.to w r w' := by
  have _u := And.intro hS (And.intro h0 h0k)
  clear _u
  obtain ⟨si, so, nm, k, to⟩ := s
  show Calls Tryz.prog 27 #[Pt wb, .agg #[.int .i64 si, .int .i64 so, .string (ba nm), .int .i8 k, .string (ba to)]] w fun r w' => MadeG lo S k to w r w'
  obtain ⟨W, hW⟩ : ∃ W, W = w.alloc (.cells #[.int .i64 si, .int .i64 so, .string (ba nm), .int .i8 k, .string (ba to)] 24) := ⟨_, rfl⟩
  have hB : Below w.heap.size w W := by rw [hW]; exact below_al w _
  have hs : W.heap[w.heap.size]? = some (.cells #[.int .i64 si, .int .i64 so, .string (ba nm), .int .i8 k, .string (ba to)] 24 (0, 0)) := by rw [hW]; exact heap_alloc_new w _
  have c1 : W.cell? ⟨w.heap.size, 1, none⟩ = some (.int .i64 so) := by rw [cell_of_row W _ 1 _ _ _ hs]; rfl
  have c3 : W.cell? ⟨w.heap.size, 3, none⟩ = some (.int .i8 k) := by rw [cell_of_row W _ 3 _ _ _ hs]; rfl
  have c4 : W.cell? ⟨w.heap.size, 4, none⟩ = some (.string (ba to)) := by rw [cell_of_row W _ 4 _ _ _ hs]; rfl
  have AB := aside hB
  have AL := aside (h.below hB)
  have AG := aside (hG.below hB)
  have AR := aside (hR.below hB)
  have hlo2 : lo ≤ W.heap.size := by have := hB.size; omega
  have hwl : w.heap.size < W.heap.size := (Array.getElem?_eq_some_iff.1 hs).1
  obtain ⟨T, hT⟩ : ∃ T, T = ba to := ⟨_, rfl⟩
  have hTs : T.size = to.length := by rw [hT, ba_size]
  have AT := aside hT
  have hto2 : to.length ≤ 1048576 := hto
  rw [← hT] at c4 hW ⊢
  clear h hG hR hs hB hT hto
  obtain ⟨N, hN⟩ : ∃ N, N = ba nm := ⟨_, rfl⟩
  rw [← hN] at hW ⊢
  clear hN
  go_enter Tryz.func27, Tryz.ntmps27
  obtain rfl : k = 0 := hk
  have hcv := fun w => Lib.run_convert_string_bytes (P := Tryz.prog) w 9 90 5 T Tryz.underlying9 Tryz.underlying90 Tryz.underlying5
  rw [hTs] at hcv
  have Abs := aside (fun w => bw_bs w to)
  have Abb := aside (fun w => bw_below w T)
  rw [← AT.out] at Abs
  have Agc : Aside (∀ w : World, to.length ≤ grownCap w to.length 0 5 ∧ grownCap w to.length 0 5 ≤ 9223372036854775807) := fun w => ⟨grownCap_ge w to.length 0 5, by have := grownCap_le_maxLen w to.length 0 5 (by unfold maxLen; omega); unfold maxLen at this; exact this⟩
  obtain ⟨tl, htl⟩ : ∃ tl, tl = to.length := ⟨_, rfl⟩
  rw [← htl] at hcv Agc hTs
  have Atl := aside htl
  have htl2 : tl ≤ 1048576 := by omega
  clear htl
  have hWs : W.heap.size = w.heap.size + 1 := by rw [hW]; simp
  go_wp2_with fail
  rw [← hW]
  clear hW
  have AV1 := aside (Abs.out W)
  rw [hWs] at AV1
  have AB1 := aside (Abb.out W)
  have AC1 := aside (Agc.out W)
  generalize Lib.bytesWorld W 5 T = V1 at AV1 AB1 ⊢
  generalize grownCap W tl 0 5 = gc1 at AC1 ⊢
  have hcall := memNew_any (some ⟨w.heap.size + 1, 0, none⟩) to gc1 V1 (by omega) (by have h1 := AC1.out.1; have h2 := Atl.out; omega) AC1.out.2 AV1.out
  rw [← Atl.out] at hcall
  refine hcall.mono ?_
  rintro e w1 ⟨hb, rfl, -, b1⟩
  have A1 := aside (below_tr AB1.out b1)
  have c4' : w1.cell? ⟨w.heap.size, 4, none⟩ = some (.string T) := (A1.out.cell (p := ⟨w.heap.size, 4, none⟩) hwl).trans c4
  clear b1 hcall AV1 AB1 AC1
  go_wp2_with fail
  have AV2 := aside (Abs.out w1)
  have AB2 := aside (Abb.out w1)
  have AC2 := aside (Agc.out w1)
  generalize Lib.bytesWorld w1 5 T = V2 at AV2 AB2 ⊢
  generalize grownCap w1 tl 0 5 = gc2 at AC2 ⊢
  have hcall := r4New_any (some ⟨w1.heap.size, 0, none⟩) to gc2 V2 AV2.out (by omega)
  rw [← Atl.out] at hcall
  refine hcall.mono ?_
  rintro e w2 ⟨fb, rfl, b2⟩
  have A2 := aside (below_tr A1.out (below_tr AB2.out b2))
  clear b2 hcall AV2 AB2 AC2 hcv
  go_wp2_with fail
  refine (file_new hb w2).mono ?_
  rintro e w3 ⟨nb, fb2, rfl, h1, h2, hF, b3⟩
  have A3 := aside (below_tr A2.out b3)
  have AFl := aside hF.nod
  have hz2 := A2.out.size
  clear b3 hF
  go_wp2_with fail
  refine (rFile_any w3 fb).mono ?_
  rintro e w4 ⟨rfl, hr, b4⟩
  have AF := aside (fresh_file AG.out AR.out hlo2 (by omega) (by omega) AFl.out A3.out hr b4)
  have A4 := aside (below_tr AB.out (below_tr A3.out b4))
  clear hr b4
  go_wp2_with fail
  go_ret3
  exact ⟨A4.out, _, _, _, rfl, AF.out, rfl, rfl, rfl, rfl⟩
set_option maxRecDepth 20000 in
set_option maxHeartbeats 8000000 in
theorem gmade1 {w : World} {lo wb : Nat} {S : List Ne} (h : LW w lo wb S) (hG : GX lo w S) (hR : RX lo w S) (hlo : lo ≤ w.heap.size) (hS : S.length ≤ 1000000) {e0 : Ne} (h0 : S[0]? = some e0) (h0k : e0.k = 1) (s : Spx) (hto : s.to.length ≤ 1048576) (hk : s.k = 1) :
    Calls Tryz.prog 27 #[Pt wb, s.val] w fun r w' => MadeG lo S s.k s.to w r w' := by
  have _u := And.intro hS (And.intro h0 h0k)
  clear _u
  obtain ⟨si, so, nm, k, to⟩ := s
  show Calls Tryz.prog 27 #[Pt wb, .agg #[.int .i64 si, .int .i64 so, .string (ba nm), .int .i8 k, .string (ba to)]] w fun r w' => MadeG lo S k to w r w'
  obtain ⟨W, hW⟩ : ∃ W, W = w.alloc (.cells #[.int .i64 si, .int .i64 so, .string (ba nm), .int .i8 k, .string (ba to)] 24) := ⟨_, rfl⟩
  have hB : Below w.heap.size w W := by rw [hW]; exact below_al w _
  have hs : W.heap[w.heap.size]? = some (.cells #[.int .i64 si, .int .i64 so, .string (ba nm), .int .i8 k, .string (ba to)] 24 (0, 0)) := by rw [hW]; exact heap_alloc_new w _
  have c1 : W.cell? ⟨w.heap.size, 1, none⟩ = some (.int .i64 so) := by rw [cell_of_row W _ 1 _ _ _ hs]; rfl
  have c3 : W.cell? ⟨w.heap.size, 3, none⟩ = some (.int .i8 k) := by rw [cell_of_row W _ 3 _ _ _ hs]; rfl
  have c4 : W.cell? ⟨w.heap.size, 4, none⟩ = some (.string (ba to)) := by rw [cell_of_row W _ 4 _ _ _ hs]; rfl
  have AB := aside hB
  have AL := aside (h.below hB)
  have AG := aside (hG.below hB)
  have AR := aside (hR.below hB)
  have hlo2 : lo ≤ W.heap.size := by have := hB.size; omega
  have hwl : w.heap.size < W.heap.size := (Array.getElem?_eq_some_iff.1 hs).1
  obtain ⟨T, hT⟩ : ∃ T, T = ba to := ⟨_, rfl⟩
  have hTs : T.size = to.length := by rw [hT, ba_size]
  have AT := aside hT
  have hto2 : to.length ≤ 1048576 := hto
  rw [← hT] at c4 hW ⊢
  clear h hG hR hs hB hT hto
  obtain ⟨N, hN⟩ : ∃ N, N = ba nm := ⟨_, rfl⟩
  rw [← hN] at hW ⊢
  clear hN
  go_enter Tryz.func27, Tryz.ntmps27
  obtain rfl : k = 1 := hk
  have q0 : ((1 : Int) == 0) = false := rfl
  go_wp2_with fail
  rw [← hW]
  clear hW
  refine (dir_new W).mono ?_
  rintro e w1 ⟨nb, db, mb, rfl, h1, h2, h3, hD, b1⟩
  have A1 := aside b1
  have AD := aside hD
  clear b1 hD
  go_wp2_with fail
  refine (rDir_any w1).mono ?_
  rintro e w2 ⟨rfl, hr, b2⟩
  have AF := aside (fresh_dir AG.out AR.out hlo2 h1 h2 h3 AD.out A1.out hr b2)
  have A2 := aside (below_tr AB.out (below_tr A1.out b2))
  clear hr b2
  go_wp2_with fail
  go_ret3
  exact ⟨A2.out, _, _, _, rfl, AF.out, rfl, rfl, rfl, rfl⟩
set_option maxRecDepth 20000 in
set_option maxHeartbeats 8000000 in
theorem gmade2 {w : World} {lo wb : Nat} {S : List Ne} (h : LW w lo wb S) (hG : GX lo w S) (hR : RX lo w S) (hlo : lo ≤ w.heap.size) (hS : S.length ≤ 1000000) {e0 : Ne} (h0 : S[0]? = some e0) (h0k : e0.k = 1) (s : Spx) (hto : s.to.length ≤ 1048576) (hk : s.k = 2) (hg0 : s.to ≠ []) (hg1 : s.to.length ≤ 4096) :
    Calls Tryz.prog 27 #[Pt wb, s.val] w fun r w' => MadeG lo S s.k s.to w r w' := by
  have _u := And.intro hS (And.intro h0 h0k)
  clear _u
  obtain ⟨si, so, nm, k, to⟩ := s
  simp only at hg0 hg1
  show Calls Tryz.prog 27 #[Pt wb, .agg #[.int .i64 si, .int .i64 so, .string (ba nm), .int .i8 k, .string (ba to)]] w fun r w' => MadeG lo S k to w r w'
  obtain ⟨W, hW⟩ : ∃ W, W = w.alloc (.cells #[.int .i64 si, .int .i64 so, .string (ba nm), .int .i8 k, .string (ba to)] 24) := ⟨_, rfl⟩
  have hB : Below w.heap.size w W := by rw [hW]; exact below_al w _
  have hs : W.heap[w.heap.size]? = some (.cells #[.int .i64 si, .int .i64 so, .string (ba nm), .int .i8 k, .string (ba to)] 24 (0, 0)) := by rw [hW]; exact heap_alloc_new w _
  have c1 : W.cell? ⟨w.heap.size, 1, none⟩ = some (.int .i64 so) := by rw [cell_of_row W _ 1 _ _ _ hs]; rfl
  have c3 : W.cell? ⟨w.heap.size, 3, none⟩ = some (.int .i8 k) := by rw [cell_of_row W _ 3 _ _ _ hs]; rfl
  have c4 : W.cell? ⟨w.heap.size, 4, none⟩ = some (.string (ba to)) := by rw [cell_of_row W _ 4 _ _ _ hs]; rfl
  have AB := aside hB
  have AL := aside (h.below hB)
  have AG := aside (hG.below hB)
  have AR := aside (hR.below hB)
  have hlo2 : lo ≤ W.heap.size := by have := hB.size; omega
  have hwl : w.heap.size < W.heap.size := (Array.getElem?_eq_some_iff.1 hs).1
  obtain ⟨T, hT⟩ : ∃ T, T = ba to := ⟨_, rfl⟩
  have hTs : T.size = to.length := by rw [hT, ba_size]
  have AT := aside hT
  have hto2 : to.length ≤ 1048576 := hto
  rw [← hT] at c4 hW ⊢
  clear h hG hR hs hB hT hto
  obtain ⟨N, hN⟩ : ∃ N, N = ba nm := ⟨_, rfl⟩
  rw [← hN] at hW ⊢
  clear hN
  go_enter Tryz.func27, Tryz.ntmps27
  obtain rfl : k = 2 := hk
  have q0 : ((2 : Int) == 0) = false := rfl
  have q1 : ((2 : Int) == 1) = false := rfl
  by_cases ht0 : to = []
  · exact absurd ht0 hg0
  · by_cases ht1 : to.length ≤ 4096
    · have hp : 0 < T.size := by rw [hTs]; exact List.length_pos_iff.2 ht0
      have hT0 : T.toList ≠ [] := by rw [AT.out, Lib.toList_data, ba_list]; exact ht0
      go_wp2_with fail
      rw [← hW]
      clear hW
      refine (link_new T W (by omega) hp).mono ?_
      rintro e w1 ⟨nb, lb, rfl, h1, h2, hK, b1⟩
      have A1 := aside b1
      have AK := aside hK
      have c4' : w1.cell? ⟨w.heap.size, 4, none⟩ = some (.string T) := (b1.cell (p := ⟨w.heap.size, 4, none⟩) hwl).trans c4
      clear b1 hK
      go_wp2_with fail
      refine (rLink_any w1 T hT0 (by omega)).mono ?_
      rintro e w2 ⟨rfl, hr, b2⟩
      have AF := aside (fresh_link AG.out AR.out hlo2 ht0 ht1 h1 h2 (by rw [← AT.out]; exact AK.out) A1.out (by rw [← AT.out]; exact hr) b2)
      have A2 := aside (below_tr AB.out (below_tr A1.out b2))
      clear hr b2 hp hT0
      go_wp2_with fail
      go_ret3
      exact ⟨A2.out, _, _, _, rfl, AF.out, rfl, rfl, rfl, rfl⟩
    · exact absurd hg1 ht1
/-- Specs that are made. -/
def Good (s : Spx) : Prop := s.k = 0 ∨ s.k = 1 ∨ (s.k = 2 ∧ s.to ≠ [] ∧ s.to.length ≤ 4096)
theorem made_good {w : World} {lo wb : Nat} {S : List Ne} (h : LW w lo wb S) (hG : GX lo w S) (hR : RX lo w S) (hlo : lo ≤ w.heap.size) (hS : S.length ≤ 1000000) {e0 : Ne} (h0 : S[0]? = some e0) (h0k : e0.k = 1) (s : Spx) (hto : s.to.length ≤ 1048576) (hg : Good s) :
    Calls Tryz.prog 27 #[Pt wb, s.val] w fun r w' => MadeG lo S s.k s.to w r w' := by
  rcases hg with hk | hk | ⟨hk, h1, h2⟩
  · exact gmade0 h hG hR hlo hS h0 h0k s hto hk
  · exact gmade1 h hG hR hlo hS h0 h0k s hto hk
  · exact gmade2 h hG hR hlo hS h0 h0k s hto hk h1 h2
end Go.Proofs.YtknjclekfmmfeabGreatDoor
