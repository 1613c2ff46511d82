/- The statements' own file over the document's bytes: New, lay of the first bytes. Made: the statements' own file, and a handle over it that can all. -/
import Derived.Test.YtknjclekfmmfeabGreatDoorGA
namespace Go.Proofs.YtknjclekfmmfeabGreatDoor
open Go.RowKit

set_option maxRecDepth 20000 in
set_option maxHeartbeats 1000000 in
theorem taken_none (b : Nat) (N x y : Int) (w : World) (h : w.heap[b]? = some (.cells #[.slice none 0 0, .int .i64 N] 174 (0, 0))) :
    Calls Tryz.prog 101 #[.pointer (some ⟨b, 0, none⟩), .int .i64 x, .int .i64 y] w fun e w' => e = .returned (.slice none 0 0) ∧ w' = w := by
  have c0 : w.cell? ⟨b, 0, none⟩ = some (.slice none 0 0) := by rw [cell_of_row w b 0 _ _ _ h]; rfl
  clear h
  go_enter Tryz.func101, Tryz.ntmps101
  go_wp2_with fail
  go_loopg [7, 8] 0 (fun _ s7 s8 wx => s7 = .slice none 0 0 ∧ s8 = .int .i64 0 ∧ wx = w)
  case atStart => exact ⟨rfl, rfl, rfl⟩
  case round =>
    obtain ⟨rfl, rfl, rfl⟩ := hrel
    go_wp2_with fail
    go_ret
    exact ⟨rfl, rfl⟩

set_option maxRecDepth 20000 in
theorem layNone_any (p : Value) (x : Int) (ba : Option Addr) (bc : Nat) (w : World) : Calls Tryz.prog 88 #[p, .int .i64 x, .slice ba 0 bc] w fun e w' => e = .returned (.tuple #[]) ∧ w' = w := by
  go_enter Tryz.func88, Tryz.ntmps88
  go_wp2
  (try simp only [Exit.inBlock, Exit.then])
  refine bodyPost_ret (results_none rfl _ _ _) rfl ?_
  exact ⟨rfl, rfl⟩

theorem app_new {w : World} {e : TypeId} {s n g : Nat} {v : Value} {xs : List Value} (ho : w.ownsRow 0 e s v n xs) (hn : 0 < n) (hv : v.ownBlock = (Value.slice none 0 0).ownBlock ∨ v.ownBlock = some g) : ∃ cap, v = .slice (some ⟨g, 0, none⟩) n cap ∧ n ≤ cap := by
  rcases ho.2 with ⟨-, h0⟩ | ⟨g', cap, cur, rfl, -, -, hc, -⟩
  · omega
  · rcases hv with h | h
    · simp [Value.ownBlock] at h
    · simp only [Value.ownBlock, Option.some.injEq] at h
      subst h
      exact ⟨cap, rfl, hc⟩
theorem app_below {w w' : World} (h : Upd (fun k => (Value.slice none 0 0).ownBlock = some k) w w') : Below w.heap.size w w' := ⟨h.os, h.tape, h.output, h.size, fun k hk => h.block k hk (fun e => by simp [Value.ownBlock] at e)⟩

theorem add_block (a : Addr) (j : Nat) : (a.add j).block = a.block := by unfold Addr.add; split <;> rfl
theorem src_one {W : World} (x y : Value) : SrcAt (W.alloc (.cells #[x, y] 203)) (.slice (some ⟨W.heap.size, 0, none⟩) 1 1) 1 [x, y] :=
  ⟨_, _, rfl, fun _ => ⟨⟨W.heap.size, 0, none⟩, rfl, fun j u hj => by
    match j, hj with
    | 0, hj => simp at hj; subst hj; go_simp
    | 1, hj => simp at hj; subst hj; go_simp
    | (j + 2), hj => simp at hj⟩⟩
theorem one_two {x : Int} {a : Option Addr} {n c : Nat} : ∀ u ∈ [Value.int .i64 x, .slice a n c], u.oneCell' = true := by
  intro u hu
  simp only [List.mem_cons, List.not_mem_nil, or_false] at hu
  rcases hu with rfl | rfl <;> rfl

set_option maxRecDepth 20000 in
set_option maxHeartbeats 2000000 in
theorem lay_new (b : Nat) (N : Int) (ad : Addr) (l : List UInt8) (bc : Nat) (w : World) (h : w.heap[b]? = some (.cells #[.slice none 0 0, .int .i64 N] 174 (0, 0))) (hl0 : 0 < l.length) (hl : l.length ≤ 4194304) (hs : ∀ j v, (bcells l)[j]? = some v → w.cell? (ad.add j) = some v) :
    Calls Tryz.prog 88 #[.pointer (some ⟨b, 0, none⟩), .int .i64 0, .slice (some ad) l.length bc] w fun e w' => e = .returned (.tuple #[]) ∧ ∃ g cap q cap2, w'.heap[b]? = some (.cells #[.slice (some ⟨g, 0, none⟩) 1 cap, .int .i64 N] 174 (0, 0)) ∧ w.heap.size ≤ g ∧ w.heap.size ≤ q ∧ l.length ≤ cap2 ∧
      w'.cell? ⟨g, 0, none⟩ = some (.int .i64 0) ∧ w'.cell? ⟨g, 1, none⟩ = some (.slice (some ⟨q, 0, none⟩) l.length cap2) ∧ (∀ j v, (bcells l)[j]? = some v → w'.cell? ((⟨q, 0, none⟩ : Addr).add j) = some v) ∧ Upd (fun k => k = b) w w' := by
  have hw1 : IntKind.i64.wrap (0 + (l.length : Int)) = (l.length : Int) := by rw [wrap_small _ (by omega) (by omega)]; omega
  have hne : ¬ ((l.length : Int) = 0) := by omega
  have hne2 : (((l.length : Nat) : Int) == 0) = false := beq_eq_false_iff_ne.2 hne
  have AT := aside (fun y => taken_none b N 0 y w h)
  have AH := aside h
  have AS := aside hs
  have hlb : b < w.heap.size := (Array.getElem?_eq_some_iff.1 h).1
  clear h hs
  go_enter Tryz.func88, Tryz.ntmps88
  go_wp2_with fail
  refine (AT.out _).mono ?_
  rintro e w' ⟨rfl, rfl⟩
  go_wp2_with fail
  go_loopg [8, 9, 10, 11, 12] 0 (fun _ s8 s9 s10 s11 _ wx => s8 = .slice none 0 0 ∧ s9 = .slice none 0 0 ∧ s10 = .slice none 0 0 ∧ s11 = .int .i64 0 ∧ wx = w'.alloc (.cells #[.int .i64 0, .slice none 0 0] 203))
  case atStart => exact ⟨rfl, rfl, rfl, rfl, rfl⟩
  case round =>
    obtain ⟨rfl, rfl, rfl, rfl, rfl⟩ := hrel
    obtain ⟨W, hW⟩ : ∃ W, W = w'.alloc (.cells #[.int .i64 0, .slice none 0 0] 203) := ⟨_, rfl⟩
    rw [← hW]
    have hBW : Below w'.heap.size w' W := by rw [hW]; exact below_al w' _
    have hob : W.heap[w'.heap.size]? = some (.cells #[.int .i64 0, .slice none 0 0] 203 (0, 0)) := by rw [hW]; exact heap_alloc_new w' _
    have o0 : W.cell? ⟨w'.heap.size, 0, none⟩ = some (.int .i64 0) := by rw [cell_of_row W _ 0 _ _ _ hob]; rfl
    have o1 : W.cell? ⟨w'.heap.size, 1, none⟩ = some (.slice none 0 0) := by rw [cell_of_row W _ 1 _ _ _ hob]; rfl
    have hsW : SrcAt W (.slice (some ad) l.length bc) l.length (bcells l) := ⟨_, _, rfl, fun _ => ⟨ad, rfl, fun j v hj => (hBW.cell (World.block_lt_of_cell? w' _ (AS.out j v hj))).trans (AS.out j v hj)⟩⟩
    have hown : W.ownsRow 0 5 1 (.slice none 0 0) 0 [] := ⟨rfl, .inl ⟨rfl, rfl⟩⟩
    have hll : (bcells l).length = l.length * 1 := by simp [bcells_length]
    have ASW := aside hsW
    have AO := aside hown
    have ALL := aside hll
    have AB := aside hob
    have ABW := aside hBW
    clear hW hsW hown hll hob hBW
    go_wp2_with (at_builtin; refine wpList_append_any _ rfl _ _ 90 rfl 5 (.int .u8 0) 1 1 Tryz.underlying90 info5 rfl (by decide) (.slice none 0 0) 0 [] rfl AO.out _ l.length (bcells l) rfl ALL.out ASW.out (bcells_one _) (by unfold maxLen; omega) (by omega) ?_)
    intro v' w4 ho hu hv
    have ho : w4.ownsRow 0 5 1 v' l.length (bcells l) := by simpa using ho
    obtain ⟨cap2, rfl, hc2⟩ := app_new ho hl0 hv
    have hb4 := app_below hu
    have hob4 := (hb4.block _ (Array.getElem?_eq_some_iff.1 AB.out).1).trans AB.out
    have p0 : w4.cell? ⟨w'.heap.size, 0, none⟩ = some (.int .i64 0) := by rw [cell_of_row w4 _ 0 _ _ _ hob4]; rfl
    have p1 : w4.cell? ⟨w'.heap.size, 1, none⟩ = some (.slice none 0 0) := by rw [cell_of_row w4 _ 1 _ _ _ hob4]; rfl
    have pf := frozen_of_row w4 w'.heap.size 1 _ _ hob4
    obtain ⟨i5, hi5, -⟩ := info_parts info5
    have A4 := aside hb4
    have AO4 := aside ho
    have AOB4 := aside hob4
    clear hb4 ho hob4 hu hv hi5 AO ASW
    have AOP : Aside (∀ X : World, X.ownsRow 0 203 2 (.slice none 0 0) 0 []) := fun X => ⟨rfl, .inl ⟨rfl, rfl⟩⟩
    go_wp2_with (first
      | (at_builtin; refine wpList_append_zero _ rfl _ _ 90 rfl 5 Tryz.underlying90 info5 (some ⟨W.heap.size, 0, none⟩) l.length cap2 rfl hc2 none 0 rfl ?_)
      | (at_builtin; refine wpList_append_any _ rfl _ _ 172 rfl 203 (.agg #[.int .i64 0, .slice none 0 0]) 2 32 Tryz.underlying172 infoP rfl (by decide) (.slice none 0 0) 0 [] rfl (AOP.out _) _ 1 [.int .i64 0, .slice (some ⟨W.heap.size, 0, none⟩) l.length cap2] rfl rfl ?_ one_two (by unfold maxLen; omega) (by omega) ?_))
    · have hsr := fun X : World => src_one (W := X) (.int .i64 0) (.slice (some ⟨W.heap.size, 0, none⟩) l.length cap2)
      have := hsr ((w4.setCell ⟨w'.heap.size, 1, none⟩ (.slice (some ⟨W.heap.size, 0, none⟩) l.length cap2)).setCell ⟨w'.heap.size, 1, none⟩ (.slice (some ⟨W.heap.size, 0, none⟩) l.length cap2))
      rw [World.size_setCell, World.size_setCell] at this
      exact this
    · obtain ⟨U, hU⟩ : ∃ U, U = (w4.setCell ⟨w'.heap.size, 1, none⟩ (.slice (some ⟨W.heap.size, 0, none⟩) l.length cap2)).setCell ⟨w'.heap.size, 1, none⟩ (.slice (some ⟨W.heap.size, 0, none⟩) l.length cap2) := ⟨_, rfl⟩
      rw [← hU]
      intro v5 w6 ho6 hu6 hv6
      have ho6 : w6.ownsRow 0 203 2 v5 1 [.int .i64 0, .slice (some ⟨W.heap.size, 0, none⟩) l.length cap2] := by simpa using ho6
      obtain ⟨cap, rfl, hc6⟩ := app_new ho6 (by omega) hv6
      have hb6 := app_below hu6
      have hsz : (U.alloc (.cells #[.int .i64 0, .slice (some ⟨W.heap.size, 0, none⟩) l.length cap2] 203)).heap.size = U.heap.size + 1 := by simp
      have hsU : U.heap.size = w4.heap.size := by rw [hU]; simp
      have hUU : Upd (fun k => k = w'.heap.size) w4 U := by rw [hU]; exact (Upd.setCell (F := fun k => k = w'.heap.size) (p := ⟨w'.heap.size, 1, none⟩) rfl _).trans (Upd.setCell (F := fun k => k = w'.heap.size) (p := ⟨w'.heap.size, 1, none⟩) rfl _) (fun _ _ h => h)
      have hs4 := A4.out.size
      have hsW := ABW.out.size
      have hWlt : w'.heap.size < W.heap.size := (Array.getElem?_eq_some_iff.1 AB.out).1
      have hB6 : Below w'.heap.size w' w6 := (ABW.out.trans (A4.out.mono hsW)).trans ((hUU.below (by omega) (fun k hk => by omega)).trans (((below_al U _).mono (by omega)).trans (hb6.mono (by rw [hsz]; omega))))
      have hb6b : w6.heap[b]? = some (.cells #[.slice none 0 0, .int .i64 N] 174 (0, 0)) := (hB6.block b hlb).trans AH.out
      have q0 : w6.cell? ⟨b, 0, none⟩ = some (.slice none 0 0) := by rw [cell_of_row w6 b 0 _ _ _ hb6b]; rfl
      have qf := frozen_of_row w6 b 0 _ _ hb6b
      have hq : ∀ j v, (bcells l)[j]? = some v → w6.cell? ((⟨W.heap.size, 0, none⟩ : Addr).add j) = some v := fun j v hj => by
        have h4 : w4.cell? ((⟨W.heap.size, 0, none⟩ : Addr).add j) = some v := AO4.out.cells rfl j v hj
        have hlt4 : W.heap.size < w4.heap.size := by have := World.block_lt_of_cell? w4 _ h4; rw [add_block] at this; exact this
        have hU4 : U.cell? ((⟨W.heap.size, 0, none⟩ : Addr).add j) = some v := (World.cell?_of_block (by rw [add_block]; exact hUU.block W.heap.size hlt4 (fun e => by have e2 : W.heap.size = w'.heap.size := e; omega))).trans h4
        have hltU := World.block_lt_of_cell? U _ hU4
        have hal : (U.alloc (.cells #[.int .i64 0, .slice (some ⟨W.heap.size, 0, none⟩) l.length cap2] 203)).cell? ((⟨W.heap.size, 0, none⟩ : Addr).add j) = some v := ((below_al U _).cell hltU).trans hU4
        exact (hb6.cell (World.block_lt_of_cell? _ _ hal)).trans hal
      have hg0 : w6.cell? ⟨w4.heap.size + 1, 0, none⟩ = some (.int .i64 0) := by have := ho6.cells rfl 0 _ rfl; simpa [Addr.add] using this
      have hg1 : w6.cell? ⟨w4.heap.size + 1, 1, none⟩ = some (.slice (some ⟨W.heap.size, 0, none⟩) l.length cap2) := by have := ho6.cells rfl 1 _ rfl; simpa [Addr.add] using this
      have AQ := aside hq
      have AG0 := aside hg0
      have AG1 := aside hg1
      have ABB := aside hb6b
      have AB6 := aside hB6
      clear hq hg0 hg1 hb6b hB6 hb6 ho6 hv6 hu6 hU hUU AO4 A4 AOB4 ABW AB AS AT p0 p1 pf
      go_wp2_with (at_builtin; refine wpList_append_zero _ rfl _ _ 172 rfl 203 Tryz.underlying172 infoP (some ⟨w4.heap.size + 1, 0, none⟩) 1 cap rfl hc6 none 0 rfl ?_)
      go_end0
      obtain ⟨X, hX⟩ : ∃ X, X = (w6.setCell ⟨b, 0, none⟩ (.slice (some ⟨w4.heap.size + 1, 0, none⟩) 1 cap)).setCell ⟨b, 0, none⟩ (.slice (some ⟨w4.heap.size + 1, 0, none⟩) 1 cap) := ⟨_, rfl⟩
      rw [← hX]
      have hXu : Upd (fun k => k = b) w6 X := by rw [hX]; exact (Upd.setCell (F := fun k => k = b) (p := ⟨b, 0, none⟩) rfl _).trans (Upd.setCell (F := fun k => k = b) (p := ⟨b, 0, none⟩) rfl _) (fun _ _ h => h)
      have hXb : X.heap[b]? = some (.cells #[.slice (some ⟨w4.heap.size + 1, 0, none⟩) 1 cap, .int .i64 N] 174 (0, 0)) := by
        rw [hX]
        have h1 := set_same (i := 0) (v := .slice (some ⟨w4.heap.size + 1, 0, none⟩) 1 cap) ABB.out
        have h2 := set_same (i := 0) (v := .slice (some ⟨w4.heap.size + 1, 0, none⟩) 1 cap) h1
        simpa using h2
      have hcX : ∀ (p : Addr) (v : Value), p.block ≠ b → w6.cell? p = some v → X.cell? p = some v := fun p v hp hv => (World.cell?_of_block (hXu.block _ (World.block_lt_of_cell? w6 _ hv) hp)).trans hv
      refine ⟨rfl, w4.heap.size + 1, cap, W.heap.size, cap2, hXb, by omega, by omega, hc2, hcX _ _ (by simp only; omega) AG0.out, hcX _ _ (by simp only; omega) AG1.out, fun j v hj => hcX _ _ (by rw [add_block]; simp only; omega) (AQ.out j v hj), (Upd.mono (F := fun _ => False) ⟨AB6.out.os, AB6.out.tape, AB6.out.output, AB6.out.size, fun k hk _ => AB6.out.block k hk⟩ (fun _ _ h => h.elim)).trans hXu (fun _ _ h => h)⟩
end Go.Proofs.YtknjclekfmmfeabGreatDoor

namespace Go.Proofs.YtknjclekfmmfeabGreatDoor
open Go.RowKit

/-- The document's bytes, all below hi. -/
structure Byt (w : World) (hi b : Nat) (l : List UInt8) : Prop where
  lb : b < hi
  lw : hi ≤ w.heap.size
  bd : l.length ≤ 4194304
  con : ∃ lv, w.heap[b]? = some (.cells #[lv, .int .i64 (l.length : Int)] 174 (0, 0)) ∧
    ((l = [] ∧ lv = .slice none 0 0) ∨ (0 < l.length ∧ ∃ g cap q cap2, lv = .slice (some ⟨g, 0, none⟩) 1 cap ∧ g < hi ∧ q < hi ∧ l.length ≤ cap2 ∧ w.cell? ⟨g, 0, none⟩ = some (.int .i64 0) ∧ w.cell? ⟨g, 1, none⟩ = some (.slice (some ⟨q, 0, none⟩) l.length cap2) ∧ ∀ j v, (bcells l)[j]? = some v → w.cell? ((⟨q, 0, none⟩ : Addr).add j) = some v))
theorem Byt.upd {w w' : World} {hi b : Nat} {l : List UInt8} {F : Nat → Prop} (h : Byt w hi b l) (u : Upd F w w') (hF : ∀ k, k < hi → ¬ F k) : Byt w' hi b l := by
  obtain ⟨lv, h1, h2⟩ := h.con
  have hl := h.lb; have hw := h.lw; have hs := u.size
  have hc : ∀ (p : Addr) (v : Value), p.block < hi → w.cell? p = some v → w'.cell? p = some v := fun p v hp hv => (World.cell?_of_block (u.block _ (by omega) (hF _ hp))).trans hv
  refine ⟨hl, by omega, h.bd, lv, (u.block _ (by omega) (hF _ hl)).trans h1, ?_⟩
  rcases h2 with h2 | ⟨h0, g, cap, q, cap2, e, hg, hq, hcc, c0, c1, c2⟩
  · exact .inl h2
  · exact .inr ⟨h0, g, cap, q, cap2, e, hg, hq, hcc, hc _ _ hg c0, hc _ _ hg c1, fun j v hj => hc _ _ (by rw [add_block]; exact hq) (c2 j v hj)⟩
theorem Byt.below {w w' : World} {hi b : Nat} {l : List UInt8} (h : Byt w hi b l) (u : Below w.heap.size w w') : Byt w' hi b l := h.upd (Upd.of_below (F := fun _ => False) u) (fun _ _ h => h)

set_option maxRecDepth 20000 in
set_option maxHeartbeats 1000000 in
theorem new1_any (ba : Option Addr) (l : List UInt8) (c : Nat) (w : World) (hs : BsAt w ba l) (hl : l.length ≤ 4194304) :
    Calls Tryz.prog 74 #[.slice ba l.length c] w fun e w' => ∃ b, e = .returned (Pt b) ∧ w.heap.size ≤ b ∧ Byt w' w'.heap.size b l ∧ Below w.heap.size w w' := by
  have hn : ¬ (4194304 : Int) < (l.length : Int) := by omega
  have AS := aside hs
  clear hs
  go_enter Tryz.func74, Tryz.ntmps74
  go_wp2_with fail
  obtain ⟨W, hW⟩ : ∃ W, W = w.alloc (.cells #[.slice none 0 0, .int .i64 (l.length : Int)] 174) := ⟨_, rfl⟩
  rw [← hW]
  have hb : W.heap[w.heap.size]? = some (.cells #[.slice none 0 0, .int .i64 (l.length : Int)] 174 (0, 0)) := by rw [hW]; exact heap_alloc_new w _
  have hB : Below w.heap.size w W := by rw [hW]; exact below_al w _
  clear hW
  have hsz := hB.size
  have hlt := (Array.getElem?_eq_some_iff.1 hb).1
  cases hlc : l with
  | nil =>
    subst hlc
    refine (layNone_any _ 0 ba c W).mono ?_
    rintro e w2 ⟨rfl, rfl⟩
    go_wp2_with fail
    go_ret
    exact ⟨_, rfl, Nat.le_refl _, ⟨hlt, Nat.le_refl _, by simp, _, hb, .inl ⟨rfl, rfl⟩⟩, hB⟩
  | cons x xs =>
    obtain ⟨ad, rfl, hcs⟩ := AS.out (by rw [hlc]; simp)
    rw [← hlc]
    have hl0 : 0 < l.length := by rw [hlc]; simp
    clear hlc
    refine (lay_new w.heap.size (l.length : Int) ad l c W hb hl0 hl (fun j v hj => (hB.cell (World.block_lt_of_cell? w _ (hcs j v hj))).trans (hcs j v hj))).mono ?_
    rintro e w2 ⟨rfl, g, cap, q, cap2, h1, h2, h3, h3c, h4, h5, h6, hu⟩
    have hu2 : Below w.heap.size w w2 := hB.trans (hu.below hsz (fun k hk => by omega))
    have hl2 := (Array.getElem?_eq_some_iff.1 h1).1
    have hlg := World.block_lt_of_cell? w2 _ h4
    have hlq : q < w2.heap.size := by
      have := World.block_lt_of_cell? w2 _ (h6 0 _ (by rw [List.getElem?_eq_getElem (by rw [bcells_length]; exact hl0)]))
      rw [add_block] at this
      exact this
    go_wp2_with fail
    go_ret
    exact ⟨_, rfl, Nat.le_refl _, ⟨hl2, Nat.le_refl _, hl, _, h1, .inr ⟨hl0, g, cap, q, cap2, rfl, hlg, hlq, h3c, h4, h5, h6⟩⟩, hu2⟩
end Go.Proofs.YtknjclekfmmfeabGreatDoor
