/- A cache's hit and keep, where few blocks are kept. -/
import Derived.Test.YtppeiljpechenaaCacK
namespace Go.Proofs.Ytppeiljpechenaa
open Go.RowKit Go.MapLit Go.ChangeMaps

set_option maxRecDepth 20000 in
set_option maxHeartbeats 1000000 in
theorem hit_miss (c mb k : Nat) (nw ol : Value) (h m : Nat) (es : Array MapEntry) (clock : Nat) (w : World) (hC : Cac w c mb nw ol h m) (hM : w.heap[mb]? = some (.map es clock))
    (hk : (Lit.int .i64 k).wf = true) (hf : Instr.findNow (.int .i64) (.int .i64 k) es.toList 0 = some none) :
    Calls Try.prog 114 #[pt c, .int .i64 k] w fun e w' => e = .returned (.pointer none) ∧ w' = w := by
  have c1 := hC.cells.2.1
  have hl := look_none Try.underlying73 Try.underlying2 (zero74 w) hM hk hf
  clear hC hM hk hf
  go_enter Try.func114, Try.ntmps114
  go_wp2_with fail
  go_ret
  exact ⟨rfl, rfl⟩

set_option maxRecDepth 20000 in
set_option maxHeartbeats 1000000 in
theorem hit_found (c mb k b : Nat) (dv : Value) (h m : Nat) (es : Array MapEntry) (clock i : Nat) (w : World) (hC : Cac w c mb (pt b) (pt b) h m) (hB : Blk w b k dv (.pointer none) (.pointer none)) (hM : w.heap[mb]? = some (.map es clock))
    (hk : (Lit.int .i64 k).wf = true) (hh : h < 100) (hf : Instr.findNow (.int .i64) (.int .i64 k) es.toList 0 = some (some (i, pt b))) (hf2 : Instr.findNow (.int .i64) (.int .i64 k) (es.eraseIdxIfInBounds i).toList 0 = some none) :
    Calls Try.prog 114 #[pt c, .int .i64 k] w fun e w' => e = .returned (pt b) ∧ Cac w' c mb (pt b) (pt b) (h + 1) m ∧ Blk w' b k dv (.pointer none) (.pointer none) ∧ w'.heap[mb]? = some (.map ((es.eraseIdxIfInBounds i).push ⟨.int .i64 k, pt b, clock⟩) (clock + 1)) ∧ Upd (fun j => j = b ∨ j = c ∨ j = mb) w w' := by
  have n1 : ¬ b = c := by rintro rfl; rw [Blk, hC] at hB; simp at hB
  have n3 : ¬ c = mb := by rintro rfl; rw [Cac, hM] at hC; simp at hC
  obtain ⟨-, c1, -, -, c4, -⟩ := hC.cells
  have fc := frozen_of_row w c 4 _ _ hC
  have hl := look_some Try.underlying73 Try.underlying2 hM hk hf
  obtain ⟨W, hW⟩ : ∃ W, W = w.setCell ⟨c, 4, none⟩ (.int .i64 ((h + 1 : Nat) : Int)) := ⟨_, rfl⟩
  have hC1 : Cac W c mb (pt b) (pt b) (h + 1) m := by rw [hW]; exact set_same hC
  have hB1 : Blk W b k dv (.pointer none) (.pointer none) := by rw [hW]; exact set_far hB n1
  have hM1 : W.heap[mb]? = some (.map es clock) := by rw [hW]; exact set_far hM (fun e => n3 e.symm)
  have hU1 : Upd (fun j => j = b ∨ j = c ∨ j = mb) w W := by rw [hW]; exact Upd.setCell (F := fun j => j = b ∨ j = c ∨ j = mb) (.inr (.inl rfl)) _
  have F1 := aside (drop_only c mb b k dv (h + 1) m es clock i (pt b) W hC1 hB1 hM1 hk hf)
  have HU := aside hU1
  have HK := aside hk
  have HF2 := aside hf2
  clear hC hB hM hk hf hf2 hC1 hB1 hM1 hU1
  rw [show (((h + 1 : Nat) : Int)) = (h : Int) + 1 by omega] at hW
  go_enter Try.func114, Try.ntmps114
  go_wp2_with fail
  rw [← hW]
  refine F1.out.mono ?_
  rintro e w1 ⟨rfl, h1, h2, h3, h4⟩
  have F2 := aside (put_first c mb b k dv _ _ _ (h + 1) m _ clock w1 h1 h2 h3 HK.out HF2.out)
  have HU1 := aside (HU.out.trans h4 (fun _ _ h => h))
  clear h1 h2 h3 h4
  go_wp2_with fail
  refine F2.out.mono ?_
  rintro e w2 ⟨rfl, h1, h2, h3, h4⟩
  have H1 := aside h1
  have H2 := aside h2
  have H3 := aside h3
  have HU2 := aside (HU1.out.trans h4 (fun _ _ h => h))
  clear h1 h2 h3 h4
  go_wp2_with fail
  go_ret
  exact ⟨rfl, H1.out, H2.out, H3.out, HU2.out⟩

set_option maxRecDepth 20000 in
set_option maxHeartbeats 1000000 in
theorem keep_of (c mb b k : Nat) (dv nw ol nwc olc : Value) (h m : Nat) (es : Array MapEntry) (clock : Nat) (w : World) (hC : Cac w c mb nwc olc h m) (hB : Blk w b k dv nw ol) (hM : w.heap[mb]? = some (.map es clock))
    (hk : (Lit.int .i64 k).wf = true) (hf : Instr.findNow (.int .i64) (.int .i64 k) es.toList 0 = some none) (R : World → Prop) (nw2 ol2 : Value) (es' : Array MapEntry) (clock' : Nat) (hes : es'.size ≤ 2)
    (hput : Calls Try.prog 116 #[pt c, pt b] w.drew fun e w' => e = .returned (.tuple #[]) ∧ R w' ∧ Cac w' c mb nw2 ol2 h m ∧ w'.heap[mb]? = some (.map es' clock')) (hR : ∀ w', R w' → R w'.drew) :
    Calls Try.prog 115 #[pt c, pt b] w fun e w' => e = .returned (.tuple #[]) ∧ R w' := by
  have c1 := hC.cells.2.1
  have b0 := hB.cells.1
  have hl := look_none (w := w.drew) Try.underlying73 Try.underlying2 (zero74 _) hM hk hf
  have HP := aside hput
  have HR := aside hR
  clear hC hB hM hk hf hput hR
  go_enter Try.func115, Try.ntmps115
  go_wp2_with fail
  go_region_held3 (fun w' => w'.cell? ⟨c, 1, none⟩ = some (.map (some mb)) ∧ w'.cell? ⟨b, 0, none⟩ = some (.int .i64 k)) (go_keep) (fail)
  go_wp2_with fail
  refine HP.out.mono ?_
  rintro e w1 ⟨rfl, h1, h2, h3⟩
  have c1' := h2.cells.2.1
  have c0' := h2.cells.1
  have hlen := fun ty => len_lit (w := w1.drew) Try.underlying73 h3 ty
  have H1 := aside h1
  have hle : ¬ (2 : Int) < (es'.size : Int) := by omega
  clear h1 h2 h3 c1 b0 hl
  go_wp2_with fail
  go_region
  go_wp2_with fail
  go_end0
  exact ⟨rfl, HR.out _ H1.out⟩
end Go.Proofs.Ytppeiljpechenaa
