/- The statements' own file over the document's bytes: New, lay of the first bytes. Made: the statements' own file, and a handle over it that can all. The document's files, as a tree holds them. The document's tree: what stands at a list of names. The document's tree: a node of an item. The document's tree: why an item may not be, by itself. -/
import Derived.Test.YtbnaegoahdcejaaGreatDoorGA
import Derived.Test.YtbnaegoahdcejaaGreatDoorGS
namespace Go.Proofs.YtbnaegoahdcejaaGreatDoor
open Go.RowKit

set_option maxRecDepth 20000 in
set_option maxHeartbeats 1000000 in
theorem taken_none (b : Nat) (N x y : Int) (w : World) (h : w.heap[b]? = some (.cells #[.slice none 0 0, .int .i64 N] 212 (0, 0))) :
    Calls Tryz.prog 139 #[.pointer (some ⟨b, 0, none⟩), .int .i64 x, .int .i64 y] w fun e w' => e = .returned (.slice none 0 0) ∧ w' = w := by
  have c0 : w.cell? ⟨b, 0, none⟩ = some (.slice none 0 0) := by rw [cell_of_row w b 0 _ _ _ h]; rfl
  clear h
  go_enter Tryz.func139, Tryz.ntmps139
  go_wp2_with fail
  go_loopg [7, 8] 0 (fun _ s7 s8 wx => s7 = .slice none 0 0 ∧ s8 = .int .i64 0 ∧ wx = w)
  case atStart => exact ⟨rfl, rfl, rfl⟩
  case round =>
    obtain ⟨rfl, rfl, rfl⟩ := hrel
    go_wp2_with fail
    go_ret
    exact ⟨rfl, rfl⟩

set_option maxRecDepth 20000 in
theorem layNone_any (p : Value) (x : Int) (ba : Option Addr) (bc : Nat) (w : World) : Calls Tryz.prog 116 #[p, .int .i64 x, .slice ba 0 bc] w fun e w' => e = .returned (.tuple #[]) ∧ w' = w := by
  go_enter Tryz.func116, Tryz.ntmps116
  go_wp2
  (try simp only [Exit.inBlock, Exit.then])
  refine bodyPost_ret (results_none rfl _ _ _) rfl ?_
  exact ⟨rfl, rfl⟩

theorem app_new {w : World} {e : TypeId} {s n g : Nat} {v : Value} {xs : List Value} (ho : w.ownsRow 0 e s v n xs) (hn : 0 < n) (hv : v.ownBlock = (Value.slice none 0 0).ownBlock ∨ v.ownBlock = some g) : ∃ cap, v = .slice (some ⟨g, 0, none⟩) n cap ∧ n ≤ cap := by
  rcases ho.2 with ⟨-, h0⟩ | ⟨g', cap, cur, rfl, -, -, hc, -⟩
  · omega
  · rcases hv with h | h
    · simp [Value.ownBlock] at h
    · simp only [Value.ownBlock, Option.some.injEq] at h
      subst h
      exact ⟨cap, rfl, hc⟩
theorem app_below {w w' : World} (h : Upd (fun k => (Value.slice none 0 0).ownBlock = some k) w w') : Below w.heap.size w w' := ⟨h.os, h.tape, h.output, h.size, fun k hk => h.block k hk (fun e => by simp [Value.ownBlock] at e)⟩

theorem add_block (a : Addr) (j : Nat) : (a.add j).block = a.block := by unfold Addr.add; split <;> rfl
theorem src_one {W : World} (x y : Value) : SrcAt (W.alloc (.cells #[x, y] 239)) (.slice (some ⟨W.heap.size, 0, none⟩) 1 1) 1 [x, y] :=
  ⟨_, _, rfl, fun _ => ⟨⟨W.heap.size, 0, none⟩, rfl, fun j u hj => by
    match j, hj with
    | 0, hj => simp at hj; subst hj; go_simp
    | 1, hj => simp at hj; subst hj; go_simp
    | (j + 2), hj => simp at hj⟩⟩
theorem one_two {x : Int} {a : Option Addr} {n c : Nat} : ∀ u ∈ [Value.int .i64 x, .slice a n c], u.oneCell' = true := by
  intro u hu
  simp only [List.mem_cons, List.not_mem_nil, or_false] at hu
  rcases hu with rfl | rfl <;> rfl

set_option maxRecDepth 20000 in
set_option maxHeartbeats 2000000 in
theorem lay_new (b : Nat) (N : Int) (ad : Addr) (l : List UInt8) (bc : Nat) (w : World) (h : w.heap[b]? = some (.cells #[.slice none 0 0, .int .i64 N] 212 (0, 0))) (hl0 : 0 < l.length) (hl : l.length ≤ 4194304) (hs : ∀ j v, (bcells l)[j]? = some v → w.cell? (ad.add j) = some v) :
    Calls Tryz.prog 116 #[.pointer (some ⟨b, 0, none⟩), .int .i64 0, .slice (some ad) l.length bc] w fun e w' => e = .returned (.tuple #[]) ∧ ∃ g cap q cap2, w'.heap[b]? = some (.cells #[.slice (some ⟨g, 0, none⟩) 1 cap, .int .i64 N] 212 (0, 0)) ∧ w.heap.size ≤ g ∧ w.heap.size ≤ q ∧ l.length ≤ cap2 ∧
      w'.cell? ⟨g, 0, none⟩ = some (.int .i64 0) ∧ w'.cell? ⟨g, 1, none⟩ = some (.slice (some ⟨q, 0, none⟩) l.length cap2) ∧ (∀ j v, (bcells l)[j]? = some v → w'.cell? ((⟨q, 0, none⟩ : Addr).add j) = some v) ∧ Upd (fun k => k = b) w w' := by
  have hw1 : IntKind.i64.wrap (0 + (l.length : Int)) = (l.length : Int) := by rw [wrap_small _ (by omega) (by omega)]; omega
  have hne : ¬ ((l.length : Int) = 0) := by omega
  have hne2 : (((l.length : Nat) : Int) == 0) = false := beq_eq_false_iff_ne.2 hne
  have AT := aside (fun y => taken_none b N 0 y w h)
  have AH := aside h
  have AS := aside hs
  have hlb : b < w.heap.size := (Array.getElem?_eq_some_iff.1 h).1
  clear h hs
  go_enter Tryz.func116, Tryz.ntmps116
  go_wp2_with fail
  refine (AT.out _).mono ?_
  rintro e w' ⟨rfl, rfl⟩
  go_wp2_with fail
  go_loopg [8, 9, 10, 11, 12] 0 (fun _ s8 s9 s10 s11 _ wx => s8 = .slice none 0 0 ∧ s9 = .slice none 0 0 ∧ s10 = .slice none 0 0 ∧ s11 = .int .i64 0 ∧ wx = w'.alloc (.cells #[.int .i64 0, .slice none 0 0] 239))
  case atStart => exact ⟨rfl, rfl, rfl, rfl, rfl⟩
  case round =>
    obtain ⟨rfl, rfl, rfl, rfl, rfl⟩ := hrel
    obtain ⟨W, hW⟩ : ∃ W, W = w'.alloc (.cells #[.int .i64 0, .slice none 0 0] 239) := ⟨_, rfl⟩
    rw [← hW]
    have hBW : Below w'.heap.size w' W := by rw [hW]; exact below_al w' _
    have hob : W.heap[w'.heap.size]? = some (.cells #[.int .i64 0, .slice none 0 0] 239 (0, 0)) := by rw [hW]; exact heap_alloc_new w' _
    have o0 : W.cell? ⟨w'.heap.size, 0, none⟩ = some (.int .i64 0) := by rw [cell_of_row W _ 0 _ _ _ hob]; rfl
    have o1 : W.cell? ⟨w'.heap.size, 1, none⟩ = some (.slice none 0 0) := by rw [cell_of_row W _ 1 _ _ _ hob]; rfl
    have hsW : SrcAt W (.slice (some ad) l.length bc) l.length (bcells l) := ⟨_, _, rfl, fun _ => ⟨ad, rfl, fun j v hj => (hBW.cell (World.block_lt_of_cell? w' _ (AS.out j v hj))).trans (AS.out j v hj)⟩⟩
    have hown : W.ownsRow 0 5 1 (.slice none 0 0) 0 [] := ⟨rfl, .inl ⟨rfl, rfl⟩⟩
    have hll : (bcells l).length = l.length * 1 := by simp [bcells_length]
    have ASW := aside hsW
    have AO := aside hown
    have ALL := aside hll
    have AB := aside hob
    have ABW := aside hBW
    clear hW hsW hown hll hob hBW
    go_wp2_with (at_builtin; refine wpList_append_any _ rfl _ _ 48 rfl 5 (.int .u8 0) 1 1 Tryz.underlying48 info5 rfl (by decide) (.slice none 0 0) 0 [] rfl AO.out _ l.length (bcells l) rfl ALL.out ASW.out (bcells_one _) (by unfold maxLen; omega) (by omega) ?_)
    intro v' w4 ho hu hv
    have ho : w4.ownsRow 0 5 1 v' l.length (bcells l) := by simpa using ho
    obtain ⟨cap2, rfl, hc2⟩ := app_new ho hl0 hv
    have hb4 := app_below hu
    have hob4 := (hb4.block _ (Array.getElem?_eq_some_iff.1 AB.out).1).trans AB.out
    have p0 : w4.cell? ⟨w'.heap.size, 0, none⟩ = some (.int .i64 0) := by rw [cell_of_row w4 _ 0 _ _ _ hob4]; rfl
    have p1 : w4.cell? ⟨w'.heap.size, 1, none⟩ = some (.slice none 0 0) := by rw [cell_of_row w4 _ 1 _ _ _ hob4]; rfl
    have pf := frozen_of_row w4 w'.heap.size 1 _ _ hob4
    obtain ⟨i5, hi5, -⟩ := info_parts info5
    have A4 := aside hb4
    have AO4 := aside ho
    have AOB4 := aside hob4
    clear hb4 ho hob4 hu hv hi5 AO ASW
    have AOP : Aside (∀ X : World, X.ownsRow 0 239 2 (.slice none 0 0) 0 []) := fun X => ⟨rfl, .inl ⟨rfl, rfl⟩⟩
    go_wp2_with (first
      | (at_builtin; refine wpList_append_zero _ rfl _ _ 48 rfl 5 Tryz.underlying48 info5 (some ⟨W.heap.size, 0, none⟩) l.length cap2 rfl hc2 none 0 rfl ?_)
      | (at_builtin; refine wpList_append_any _ rfl _ _ 210 rfl 239 (.agg #[.int .i64 0, .slice none 0 0]) 2 32 Tryz.underlying210 infoP rfl (by decide) (.slice none 0 0) 0 [] rfl (AOP.out _) _ 1 [.int .i64 0, .slice (some ⟨W.heap.size, 0, none⟩) l.length cap2] rfl rfl ?_ one_two (by unfold maxLen; omega) (by omega) ?_))
    · have hsr := fun X : World => src_one (W := X) (.int .i64 0) (.slice (some ⟨W.heap.size, 0, none⟩) l.length cap2)
      have := hsr ((w4.setCell ⟨w'.heap.size, 1, none⟩ (.slice (some ⟨W.heap.size, 0, none⟩) l.length cap2)).setCell ⟨w'.heap.size, 1, none⟩ (.slice (some ⟨W.heap.size, 0, none⟩) l.length cap2))
      rw [World.size_setCell, World.size_setCell] at this
      exact this
    · obtain ⟨U, hU⟩ : ∃ U, U = (w4.setCell ⟨w'.heap.size, 1, none⟩ (.slice (some ⟨W.heap.size, 0, none⟩) l.length cap2)).setCell ⟨w'.heap.size, 1, none⟩ (.slice (some ⟨W.heap.size, 0, none⟩) l.length cap2) := ⟨_, rfl⟩
      rw [← hU]
      intro v5 w6 ho6 hu6 hv6
      have ho6 : w6.ownsRow 0 239 2 v5 1 [.int .i64 0, .slice (some ⟨W.heap.size, 0, none⟩) l.length cap2] := by simpa using ho6
      obtain ⟨cap, rfl, hc6⟩ := app_new ho6 (by omega) hv6
      have hb6 := app_below hu6
      have hsz : (U.alloc (.cells #[.int .i64 0, .slice (some ⟨W.heap.size, 0, none⟩) l.length cap2] 239)).heap.size = U.heap.size + 1 := by simp
      have hsU : U.heap.size = w4.heap.size := by rw [hU]; simp
      have hUU : Upd (fun k => k = w'.heap.size) w4 U := by rw [hU]; exact (Upd.setCell (F := fun k => k = w'.heap.size) (p := ⟨w'.heap.size, 1, none⟩) rfl _).trans (Upd.setCell (F := fun k => k = w'.heap.size) (p := ⟨w'.heap.size, 1, none⟩) rfl _) (fun _ _ h => h)
      have hs4 := A4.out.size
      have hsW := ABW.out.size
      have hWlt : w'.heap.size < W.heap.size := (Array.getElem?_eq_some_iff.1 AB.out).1
      have hB6 : Below w'.heap.size w' w6 := (ABW.out.trans (A4.out.mono hsW)).trans ((hUU.below (by omega) (fun k hk => by omega)).trans (((below_al U _).mono (by omega)).trans (hb6.mono (by rw [hsz]; omega))))
      have hb6b : w6.heap[b]? = some (.cells #[.slice none 0 0, .int .i64 N] 212 (0, 0)) := (hB6.block b hlb).trans AH.out
      have q0 : w6.cell? ⟨b, 0, none⟩ = some (.slice none 0 0) := by rw [cell_of_row w6 b 0 _ _ _ hb6b]; rfl
      have qf := frozen_of_row w6 b 0 _ _ hb6b
      have hq : ∀ j v, (bcells l)[j]? = some v → w6.cell? ((⟨W.heap.size, 0, none⟩ : Addr).add j) = some v := fun j v hj => by
        have h4 : w4.cell? ((⟨W.heap.size, 0, none⟩ : Addr).add j) = some v := AO4.out.cells rfl j v hj
        have hlt4 : W.heap.size < w4.heap.size := by have := World.block_lt_of_cell? w4 _ h4; rw [add_block] at this; exact this
        have hU4 : U.cell? ((⟨W.heap.size, 0, none⟩ : Addr).add j) = some v := (World.cell?_of_block (by rw [add_block]; exact hUU.block W.heap.size hlt4 (fun e => by have e2 : W.heap.size = w'.heap.size := e; omega))).trans h4
        have hltU := World.block_lt_of_cell? U _ hU4
        have hal : (U.alloc (.cells #[.int .i64 0, .slice (some ⟨W.heap.size, 0, none⟩) l.length cap2] 239)).cell? ((⟨W.heap.size, 0, none⟩ : Addr).add j) = some v := ((below_al U _).cell hltU).trans hU4
        exact (hb6.cell (World.block_lt_of_cell? _ _ hal)).trans hal
      have hg0 : w6.cell? ⟨w4.heap.size + 1, 0, none⟩ = some (.int .i64 0) := by have := ho6.cells rfl 0 _ rfl; simpa [Addr.add] using this
      have hg1 : w6.cell? ⟨w4.heap.size + 1, 1, none⟩ = some (.slice (some ⟨W.heap.size, 0, none⟩) l.length cap2) := by have := ho6.cells rfl 1 _ rfl; simpa [Addr.add] using this
      have AQ := aside hq
      have AG0 := aside hg0
      have AG1 := aside hg1
      have ABB := aside hb6b
      have AB6 := aside hB6
      clear hq hg0 hg1 hb6b hB6 hb6 ho6 hv6 hu6 hU hUU AO4 A4 AOB4 ABW AB AS AT p0 p1 pf
      go_wp2_with (at_builtin; refine wpList_append_zero _ rfl _ _ 210 rfl 239 Tryz.underlying210 infoP (some ⟨w4.heap.size + 1, 0, none⟩) 1 cap rfl hc6 none 0 rfl ?_)
      go_end0
      obtain ⟨X, hX⟩ : ∃ X, X = (w6.setCell ⟨b, 0, none⟩ (.slice (some ⟨w4.heap.size + 1, 0, none⟩) 1 cap)).setCell ⟨b, 0, none⟩ (.slice (some ⟨w4.heap.size + 1, 0, none⟩) 1 cap) := ⟨_, rfl⟩
      rw [← hX]
      have hXu : Upd (fun k => k = b) w6 X := by rw [hX]; exact (Upd.setCell (F := fun k => k = b) (p := ⟨b, 0, none⟩) rfl _).trans (Upd.setCell (F := fun k => k = b) (p := ⟨b, 0, none⟩) rfl _) (fun _ _ h => h)
      have hXb : X.heap[b]? = some (.cells #[.slice (some ⟨w4.heap.size + 1, 0, none⟩) 1 cap, .int .i64 N] 212 (0, 0)) := by
        rw [hX]
        have h1 := set_same (i := 0) (v := .slice (some ⟨w4.heap.size + 1, 0, none⟩) 1 cap) ABB.out
        have h2 := set_same (i := 0) (v := .slice (some ⟨w4.heap.size + 1, 0, none⟩) 1 cap) h1
        simpa using h2
      have hcX : ∀ (p : Addr) (v : Value), p.block ≠ b → w6.cell? p = some v → X.cell? p = some v := fun p v hp hv => (World.cell?_of_block (hXu.block _ (World.block_lt_of_cell? w6 _ hv) hp)).trans hv
      refine ⟨rfl, w4.heap.size + 1, cap, W.heap.size, cap2, hXb, by omega, by omega, hc2, hcX _ _ (by simp only; omega) AG0.out, hcX _ _ (by simp only; omega) AG1.out, fun j v hj => hcX _ _ (by rw [add_block]; simp only; omega) (AQ.out j v hj), (Upd.mono (F := fun _ => False) ⟨AB6.out.os, AB6.out.tape, AB6.out.output, AB6.out.size, fun k hk _ => AB6.out.block k hk⟩ (fun _ _ h => h.elim)).trans hXu (fun _ _ h => h)⟩
end Go.Proofs.YtbnaegoahdcejaaGreatDoor

namespace Go.Proofs.YtbnaegoahdcejaaGreatDoor
open Go.RowKit

/-- The document's bytes, all below hi. -/
structure Byt (w : World) (hi b : Nat) (l : List UInt8) : Prop where
  lb : b < hi
  lw : hi ≤ w.heap.size
  bd : l.length ≤ 4194304
  con : ∃ lv, w.heap[b]? = some (.cells #[lv, .int .i64 (l.length : Int)] 212 (0, 0)) ∧
    ((l = [] ∧ lv = .slice none 0 0) ∨ (0 < l.length ∧ ∃ g cap q cap2, lv = .slice (some ⟨g, 0, none⟩) 1 cap ∧ g < hi ∧ q < hi ∧ l.length ≤ cap2 ∧ w.cell? ⟨g, 0, none⟩ = some (.int .i64 0) ∧ w.cell? ⟨g, 1, none⟩ = some (.slice (some ⟨q, 0, none⟩) l.length cap2) ∧ ∀ j v, (bcells l)[j]? = some v → w.cell? ((⟨q, 0, none⟩ : Addr).add j) = some v))
theorem Byt.upd {w w' : World} {hi b : Nat} {l : List UInt8} {F : Nat → Prop} (h : Byt w hi b l) (u : Upd F w w') (hF : ∀ k, k < hi → ¬ F k) : Byt w' hi b l := by
  obtain ⟨lv, h1, h2⟩ := h.con
  have hl := h.lb; have hw := h.lw; have hs := u.size
  have hc : ∀ (p : Addr) (v : Value), p.block < hi → w.cell? p = some v → w'.cell? p = some v := fun p v hp hv => (World.cell?_of_block (u.block _ (by omega) (hF _ hp))).trans hv
  refine ⟨hl, by omega, h.bd, lv, (u.block _ (by omega) (hF _ hl)).trans h1, ?_⟩
  rcases h2 with h2 | ⟨h0, g, cap, q, cap2, e, hg, hq, hcc, c0, c1, c2⟩
  · exact .inl h2
  · exact .inr ⟨h0, g, cap, q, cap2, e, hg, hq, hcc, hc _ _ hg c0, hc _ _ hg c1, fun j v hj => hc _ _ (by rw [add_block]; exact hq) (c2 j v hj)⟩
theorem Byt.below {w w' : World} {hi b : Nat} {l : List UInt8} (h : Byt w hi b l) (u : Below w.heap.size w w') : Byt w' hi b l := h.upd (Upd.of_below (F := fun _ => False) u) (fun _ _ h => h)

set_option maxRecDepth 20000 in
set_option maxHeartbeats 1000000 in
theorem new1_any (ba : Option Addr) (l : List UInt8) (c : Nat) (w : World) (hs : BsAt w ba l) (hl : l.length ≤ 4194304) :
    Calls Tryz.prog 96 #[.slice ba l.length c] w fun e w' => ∃ b, e = .returned (Pt b) ∧ w.heap.size ≤ b ∧ Byt w' w'.heap.size b l ∧ Below w.heap.size w w' := by
  have hn : ¬ (4194304 : Int) < (l.length : Int) := by omega
  have AS := aside hs
  clear hs
  go_enter Tryz.func96, Tryz.ntmps96
  go_wp2_with fail
  obtain ⟨W, hW⟩ : ∃ W, W = w.alloc (.cells #[.slice none 0 0, .int .i64 (l.length : Int)] 212) := ⟨_, rfl⟩
  rw [← hW]
  have hb : W.heap[w.heap.size]? = some (.cells #[.slice none 0 0, .int .i64 (l.length : Int)] 212 (0, 0)) := by rw [hW]; exact heap_alloc_new w _
  have hB : Below w.heap.size w W := by rw [hW]; exact below_al w _
  clear hW
  have hsz := hB.size
  have hlt := (Array.getElem?_eq_some_iff.1 hb).1
  cases hlc : l with
  | nil =>
    subst hlc
    refine (layNone_any _ 0 ba c W).mono ?_
    rintro e w2 ⟨rfl, rfl⟩
    go_wp2_with fail
    go_ret
    exact ⟨_, rfl, Nat.le_refl _, ⟨hlt, Nat.le_refl _, by simp, _, hb, .inl ⟨rfl, rfl⟩⟩, hB⟩
  | cons x xs =>
    obtain ⟨ad, rfl, hcs⟩ := AS.out (by rw [hlc]; simp)
    rw [← hlc]
    have hl0 : 0 < l.length := by rw [hlc]; simp
    clear hlc
    refine (lay_new w.heap.size (l.length : Int) ad l c W hb hl0 hl (fun j v hj => (hB.cell (World.block_lt_of_cell? w _ (hcs j v hj))).trans (hcs j v hj))).mono ?_
    rintro e w2 ⟨rfl, g, cap, q, cap2, h1, h2, h3, h3c, h4, h5, h6, hu⟩
    have hu2 : Below w.heap.size w w2 := hB.trans (hu.below hsz (fun k hk => by omega))
    have hl2 := (Array.getElem?_eq_some_iff.1 h1).1
    have hlg := World.block_lt_of_cell? w2 _ h4
    have hlq : q < w2.heap.size := by
      have := World.block_lt_of_cell? w2 _ (h6 0 _ (by rw [List.getElem?_eq_getElem (by rw [bcells_length]; exact hl0)]))
      rw [add_block] at this
      exact this
    go_wp2_with fail
    go_ret
    exact ⟨_, rfl, Nat.le_refl _, ⟨hl2, Nat.le_refl _, hl, _, h1, .inr ⟨hl0, g, cap, q, cap2, rfl, hlg, hlq, h3c, h4, h5, h6⟩⟩, hu2⟩
end Go.Proofs.YtbnaegoahdcejaaGreatDoor

namespace Go.Proofs.YtbnaegoahdcejaaGreatDoor
open Go.RowKit Go.ChangeMaps

/-- A file of the document's that holds these bytes. -/
def R4 (w : World) (fb : Nat) (x : B) : Prop := ∃ sb hi, w.heap[fb]? = some (.cells #[Pt sb, .int .u8 15] 180 (0, 0)) ∧ Byt w hi sb x
theorem bcells_zero {l : B} (h : 0 < l.length) : ∃ v : Int, (bcells l)[0]? = some (.int .u8 v) := by
  cases l with
  | nil => simp at h
  | cons a l => exact ⟨_, rfl⟩
theorem r4_st : Fst R4 := fun w w' fb x hsz hk h => by
  obtain ⟨sb, hi, h1, h2⟩ := h
  have hst : ∀ {g : Nat} {cs : Array Value} {T : TypeId} {v : Value}, w.heap[g]? = some (.cells cs T (0, 0)) → cs[0]? = some v → (∀ k : Int, v ≠ .int .i8 k) → w'.heap[g]? = w.heap[g]? := fun {g} {cs} {T} {v} hg hv hn => by
    refine hk g (Array.getElem?_eq_some_iff.1 hg).1 (fun k hc => ?_)
    rw [cell_of_row w g 0 _ _ _ hg, hv] at hc
    exact hn k (Option.some.inj hc)
  have hcl : ∀ {g o : Nat} {v u : Value}, w.cell? ⟨g, 0, none⟩ = some v → (∀ k : Int, v ≠ .int .i8 k) → w.cell? ⟨g, o, none⟩ = some u → w'.cell? ⟨g, o, none⟩ = some u := fun {g} {o} {v} {u} hv hn hu => by
    rw [← hu]
    refine World.cell?_of_block (hk g (World.block_lt_of_cell? w ⟨g, 0, none⟩ hv) (fun k hc => ?_))
    rw [hv] at hc
    exact hn k (Option.some.inj hc)
  obtain ⟨lv, g1, g2⟩ := h2.con
  refine ⟨sb, hi, (hst h1 rfl (fun k e => by cases e)).trans h1, h2.lb, Nat.le_trans h2.lw hsz, h2.bd, lv, ?_, ?_⟩
  · refine (hst (v := lv) g1 rfl (fun k e => ?_)).trans g1
    rcases g2 with ⟨-, rfl⟩ | ⟨-, g, cap, q, cap2, rfl, -⟩ <;> cases e
  · rcases g2 with h3 | ⟨h0, g, cap, q, cap2, e, hg, hq, hc, c0, c1, c2⟩
    · exact .inl h3
    · refine .inr ⟨h0, g, cap, q, cap2, e, hg, hq, hc, hcl c0 (fun k e => by cases e) c0, hcl c0 (fun k e => by cases e) c1, fun j v hj => ?_⟩
      obtain ⟨z, hz⟩ := bcells_zero h0
      have hz0 := c2 0 _ hz
      have hj2 := c2 j v hj
      rw [Addr.add_lit] at hz0 hj2 ⊢
      rw [Nat.zero_add] at hz0 hj2 ⊢
      exact hcl hz0 (fun k e => by cases e) hj2
set_option maxRecDepth 20000 in
set_option maxHeartbeats 1000000 in
theorem r4New_told (a : Option Addr) (l : List UInt8) (c : Nat) (w : World) (hs : BsAt w a l) (hl : l.length ≤ 4194304) : Calls Tryz.prog 74 #[.slice a l.length c, .int .u8 15] w fun e w' => ∃ b, e = .returned (.tuple #[Pt b, .int .i64 0]) ∧ w.heap.size ≤ b ∧ R4 w' b l ∧ Below w.heap.size w w' := by
  have hn : ¬ (4194304 : Int) < (l.length : Int) := by omega
  have AN := aside (new1_any a l c w hs hl)
  obtain ⟨n, hnn⟩ : ∃ n, n = l.length := ⟨_, rfl⟩
  rw [← hnn] at hn AN ⊢
  clear hs hnn
  go_enter Tryz.func74, Tryz.ntmps74
  go_wp2_with fail
  refine AN.out.mono ?_
  rintro e w1 ⟨b, rfl, -, hby, hb⟩
  have AB := aside hby
  have Ab := aside hb
  clear hby hb
  go_wp2_with fail
  go_ret2
  exact ⟨w1.heap.size, rfl, Ab.out.size, ⟨b, w1.heap.size, heap_alloc_new w1 _, AB.out.below (below_al w1 _)⟩, below_tr Ab.out (below_al _ _)⟩
end Go.Proofs.YtbnaegoahdcejaaGreatDoor

namespace Go.Proofs.YtbnaegoahdcejaaGreatDoor
open Go.RowKit Go.ChangeMaps

/-- Names that can be read. -/
def SnAt (w : World) (a : Option Addr) (l : List B) : Prop := l ≠ [] → ∃ g o, a = some ⟨g, o, none⟩ ∧ ∀ (j : Nat) (x : B), l[j]? = some x → w.cell? ⟨g, o + j, none⟩ = some (.string (ba x))
def rfd (S : List En) (rb : List B → Nat) (l : List B) : Value := if (∃ e ∈ S, e.p = l) then Pt (rb l) else .pointer none
set_option maxRecDepth 20000 in
set_option maxHeartbeats 2000000 in
theorem rfind_any {F : World → Nat → B → Prop} (hB : ∀ (w w' : World) (fb : Nat) (x : B), Below w.heap.size w w' → F w fb x → F w' fb x) {lo : Nat} {w : World} {S : List En} {rb : List B → Nat} (h : ∀ W, Below w.heap.size w W → Rt F lo W S rb) (l : List B) (hl : l.length ≤ 1000000) (a : Option Addr) (c : Nat) (hn : SnAt w a l) :
    Calls Tryz.prog 36 #[Pt (rb []), .slice a l.length c] w fun r w' => r = .returned (rfd S rb l) ∧ Below w.heap.size w w' := by
  have _u := hB
  clear _u
  have AH := aside h
  have AN := aside hn
  obtain ⟨n, hnn⟩ : ∃ n, n = l.length := ⟨_, rfl⟩
  have An := aside hnn
  rw [← hnn] at hl ⊢
  obtain ⟨b0, hb0⟩ : ∃ b, b = rb [] := ⟨_, rfl⟩
  have Ab0 := aside hb0
  rw [← hb0]
  clear h hn hnn hb0
  go_enter Tryz.func36, Tryz.ntmps36
  go_wp2_with fail
  go_loopg [0, 4, 5, 6, 7] n (fun gk s0 s4 s5 _ _ wx => s4 = .pointer none ∧ ∃ i : Nat, i + gk = n ∧ s5 = .int .i64 (i : Int) ∧ s0 = Pt (rb (l.take i)) ∧ (∃ e ∈ S, e.p = l.take i) ∧ Below w.heap.size w wx)
  case atStart =>
    obtain ⟨r, hr, hr1, -⟩ := (AH.out w (Below.refl _ _)).root
    exact ⟨rfl, 0, by omega, rfl, by rw [Ab0.out]; rfl, ⟨r, hr, hr1⟩, Below.refl _ _⟩
  case round =>
    obtain ⟨rfl, i, hig, rfl, rfl, ⟨d, hd, hdp⟩, hbx⟩ := hrel
    have AB := aside hbx
    cases gk with
    | zero =>
      obtain rfl : i = n := by omega
      have hi : ¬ (i : Int) < (i : Int) := by omega
      have htk : l.take i = l := List.take_of_length_le (by rw [← An.out]; exact Nat.le_refl _)
      have Ard : Aside (rfd S rb l = Pt (rb (l.take i))) := by
        show rfd S rb l = _
        unfold rfd
        rw [if_pos ⟨d, hd, by rw [hdp, htk]⟩, htk]
      obtain ⟨z, hz⟩ : ∃ z, z = rb (l.take i) := ⟨_, rfl⟩
      rw [← hz] at Ard ⊢
      clear hbx hdp hd htk hz
      go_wp2_with fail
      go_ret
      exact ⟨by rw [Ard.out]; rfl, AB.out⟩
    | succ gk =>
      have hi : (i : Int) < (n : Int) := by omega
      have hi0 : (0 : Int) ≤ (i : Int) := by omega
      have hwi : IntKind.i64.wrap ((i : Int) + 1) = ((i + 1 : Nat) : Int) := by rw [wrap_small _ (by omega) (by omega)]; simp
      obtain ⟨x, hx⟩ : ∃ x, l[i]? = some x := ⟨_, List.getElem?_eq_getElem (by rw [← An.out]; omega)⟩
      obtain ⟨g, o, rfl, hcell⟩ := AN.out (fun e => by rw [e] at hx; simp at hx)
      have hcx := hcell i x hx
      have hcr : wr.cell? ⟨g, o + i, none⟩ = some (.string (ba x)) := (AB.out.cell (World.block_lt_of_cell? w _ hcx)).trans hcx
      have AG := aside (rt_get (AH.out wr AB.out) hd x)
      have htk : l.take (i + 1) = l.take i ++ [x] := by rw [List.take_add_one, hx]; rfl
      rw [hdp, ← htk] at AG
      obtain ⟨X, hX⟩ : ∃ X, X = ba x := ⟨_, rfl⟩
      rw [← hX] at hcr AG
      have Apre : Aside ((¬ ∃ e ∈ S, e.p = l.take (i + 1)) → rfd S rb l = .pointer none) := fun hno => by
        unfold rfd
        rw [if_neg]
        rintro ⟨e, he, hep⟩
        exact hno ((AH.out wr AB.out).pre _ he rfl (by rw [hep]; exact List.take_prefix _ _))
      obtain ⟨y, hy⟩ : ∃ y, y = rb (l.take i) := ⟨_, rfl⟩
      obtain ⟨z, hz⟩ : ∃ z, z = rb (l.take (i + 1)) := ⟨_, rfl⟩
      rw [← hy] at AG ⊢
      rw [← hz] at AG
      have Az := aside hz
      clear hbx hcell hcx hX htk hdp hd hy hz
      go_wp2_with fail
      refine AG.out.mono ?_
      rintro r w1 ⟨h1 | ⟨hno, cc, hcc, rfl⟩, b1⟩
      · obtain ⟨hyes, rfl⟩ := h1
        have B1 := aside (AB.out.trans (b1.mono AB.out.size))
        have Ay := aside hyes
        clear b1 hyes
        go_wp2_with fail
        go_roundg gk
        case measure => omega
        case rel => exact ⟨rfl, i + 1, by omega, by first | rfl | simp, by rw [Az.out], Ay.out, B1.out⟩
      · have hcb : (cc == 0) = false := beq_eq_false_iff_ne.2 hcc
        have B1 := aside (AB.out.trans (b1.mono AB.out.size))
        have Ano := aside hno
        clear b1 hno
        go_wp2_with fail
        go_ret
        exact ⟨by rw [Apre.out Ano.out]; rfl, B1.out⟩
end Go.Proofs.YtbnaegoahdcejaaGreatDoor

namespace Go.Proofs.YtbnaegoahdcejaaGreatDoor
open Go.RowKit Go.ChangeMaps

set_option maxRecDepth 20000 in
theorem rLink_none (w : World) : Calls Tryz.prog 73 #[.string ⟨#[]⟩] w fun e w' => e = .returned (.tuple #[.pointer none, .int .i64 190]) ∧ w' = w := by
  go_enter Tryz.func73, Tryz.ntmps73
  go_wp2_with fail
  go_ret2
  exact ⟨rfl, rfl⟩
set_option maxRecDepth 20000 in
theorem rLink_long (s : ByteArray) (w : World) (h : 4096 < s.size) : Calls Tryz.prog 73 #[.string s] w fun e w' => e = .returned (.tuple #[.pointer none, .int .i64 3]) ∧ w' = w := by
  have h0 : (s.toList == ([] : List UInt8)) = false := by
    rw [Lib.toList_data]
    cases e : s.data.toList with
    | nil => have := Lib.size_eq s; rw [e, List.length_nil] at this; omega
    | cons _ _ => rfl
  have h0b : s.toList.isEmpty = false := by
    rw [Lib.toList_data]
    cases e : s.data.toList with
    | nil => have := Lib.size_eq s; rw [e, List.length_nil] at this; omega
    | cons _ _ => rfl
  have h1 : (4096 : Int) < (s.size : Int) := by omega
  go_enter Tryz.func73, Tryz.ntmps73
  go_wp2_with fail
  go_ret2
  exact ⟨rfl, rfl⟩
theorem rstr_of (w : World) (a : Addr) (l : B) (n c : Nat) (hn : n = l.length) (h : ∀ j v, (bcells l)[j]? = some v → w.cell? (a.add j) = some v) : (convert 48 9 (.slice (some a) n c)).run Tryz.prog w = .ok (.string (ba l)) w := by
  subst hn
  rw [run_convert_bytes_string w 48 9 5 (some a) l.length c Tryz.underlying48 Tryz.underlying5 Tryz.underlying9]
  have e : bcells l = (l.map fun b => (b.toNat : Int)).map (Value.int .u8) := by simp [bcells]
  rw [run_bytesToString w a l.length c (l.map fun b => (b.toNat : Int)) (by rw [← e]; have := run_loadCells_list (P := Tryz.prog) (w := w) a (bcells l) h; rwa [bcells_length] at this), foldl_push_byteCells, show ByteArray.empty.data = #[] from rfl, Array.empty_append]
  rfl
theorem rstr_all (w : World) (a : Option Addr) (l : B) (c : Nat) (h : BsAt w a l) : (convert 48 9 (.slice a l.length c)).run Tryz.prog w = .ok (.string (ba l)) w := by
  by_cases hl : l = []
  · subst hl
    cases a with
    | none =>
      show (convert 48 9 (.slice none 0 c)).run Tryz.prog w = _
      rw [run_convert_bytes_string w 48 9 5 none 0 c Tryz.underlying48 Tryz.underlying5 Tryz.underlying9]
      rfl
    | some a => exact rstr_of w a [] 0 c rfl (fun j v hj => by simp [bcells] at hj)
  · obtain ⟨ad, rfl, hc⟩ := h hl
    exact rstr_of w ad l l.length c rfl hc
/-- Why an item's node is none. -/
def nnc (k : Int) (x : B) : Int := if k = 2 then (if x = [] then 190 else if 4096 < x.length then 3 else 0) else 0
/-- What node tells. -/
def RnP (w : World) (k : Int) (x : B) (r : Ending) (w' : World) : Prop := Below w.heap.size w w' ∧ ((nnc k x ≠ 0 ∧ r = .returned (.tuple #[.pointer none, .int .i64 (nnc k x)])) ∨ (nnc k x = 0 ∧ ∃ eb, r = .returned (.tuple #[Pt eb, .int .i64 0]) ∧ w.heap.size ≤ eb ∧ ((k = 0 ∧ ∃ fb, Rc w' eb 0 (Pt fb) ⟨#[]⟩ (.pointer none) [] (.pointer none) ∧ R4 w' fb x) ∨ (k = 1 ∧ Rc w' eb 1 (.pointer none) ⟨#[]⟩ (.pointer none) [] (.pointer none)) ∨ (k = 2 ∧ Rc w' eb 2 (.pointer none) (ba x) (.pointer none) [] (.pointer none)))))
set_option maxRecDepth 20000 in
set_option maxHeartbeats 2000000 in
theorem rnode_dir (p : ByteArray) (a : Option Addr) (x : B) (c : Nat) (w : World) : Calls Tryz.prog 39 #[.agg #[.string p, .int .i8 1, .slice a x.length c]] w fun r w' => RnP w 1 x r w' := by
  obtain ⟨n, hn⟩ : ∃ n, n = x.length := ⟨_, rfl⟩
  rw [← hn]
  clear hn
  go_enter Tryz.func39, Tryz.ntmps39
  go_wp2_with fail
  obtain ⟨V, hV⟩ : ∃ V, V = w.alloc (.cells #[.string p, .int .i8 1, .slice a n c] 51) := ⟨_, rfl⟩
  have bV : Below w.heap.size w V := by rw [hV]; exact below_al _ _
  rw [← hV]
  have AB := aside bV
  clear hV bV
  refine (rDir_any V).mono ?_
  rintro e w1 ⟨rfl, hr, b1⟩
  have A1 := aside (below_tr AB.out b1)
  have Ar := aside hr
  clear hr b1
  go_wp2_with fail
  go_ret2
  exact ⟨A1.out, .inr ⟨rfl, _, rfl, AB.out.size, .inr (.inl ⟨rfl, Ar.out⟩)⟩⟩
set_option maxRecDepth 20000 in
set_option maxHeartbeats 2000000 in
theorem rnode_link (p : ByteArray) (a : Option Addr) (x : B) (c : Nat) (w : World) (hx : BsAt w a x) : Calls Tryz.prog 39 #[.agg #[.string p, .int .i8 2, .slice a x.length c]] w fun r w' => RnP w 2 x r w' := by
  obtain ⟨V, hV⟩ : ∃ V, V = w.alloc (.cells #[.string p, .int .i8 2, .slice a x.length c] 51) := ⟨_, rfl⟩
  have bV : Below w.heap.size w V := by rw [hV]; exact below_al _ _
  have hcv := rstr_all V a x c (hx.below bV)
  have AB := aside bV
  obtain ⟨X, hX⟩ : ∃ X, X = ba x := ⟨_, rfl⟩
  have AX := aside hX
  have hXs : X.size = x.length := by rw [hX, ba_size]
  rw [← hX] at hcv
  obtain ⟨n, hn⟩ : ∃ n, n = x.length := ⟨_, rfl⟩
  have An := aside hn
  rw [← hn] at hcv hV hXs ⊢
  rw [hV] at hcv
  clear hn hX hx bV
  by_cases h0 : x = []
  · obtain rfl : X = ⟨#[]⟩ := by rw [AX.out, h0]; rfl
    have Ac : Aside (nnc 2 x = 190) := by show nnc 2 x = 190; unfold nnc; rw [if_pos rfl, if_pos h0]
    clear h0
    go_enter Tryz.func39, Tryz.ntmps39
    go_wp2_with fail
    rw [← hV]
    clear hV hcv
    refine (rLink_none V).mono ?_
    rintro e w1 ⟨rfl, rfl⟩
    go_wp2_with fail
    go_ret2
    exact ⟨AB.out, .inl ⟨by rw [Ac.out]; decide, by rw [Ac.out]; rfl⟩⟩
  · by_cases h1 : 4096 < n
    · have Ac : Aside (nnc 2 x = 3) := by show nnc 2 x = 3; unfold nnc; rw [if_pos rfl, if_neg h0, if_pos (by rw [← An.out]; exact h1)]
      have AL := aside (rLink_long X V (by omega))
      clear h0
      go_enter Tryz.func39, Tryz.ntmps39
      go_wp2_with fail
      rw [← hV]
      clear hV hcv
      refine AL.out.mono ?_
      rintro e w1 ⟨rfl, rfl⟩
      go_wp2_with fail
      go_ret2
      exact ⟨AB.out, .inl ⟨by rw [Ac.out]; decide, by rw [Ac.out]; rfl⟩⟩
    · have Ac : Aside (nnc 2 x = 0) := by show nnc 2 x = 0; unfold nnc; rw [if_pos rfl, if_neg h0, if_neg (by rw [← An.out]; exact h1)]
      have AL := aside (rLink_any V X (by rw [AX.out, Lib.toList_data, ba_list]; exact h0) (by omega))
      clear h0
      go_enter Tryz.func39, Tryz.ntmps39
      go_wp2_with fail
      rw [← hV]
      clear hV hcv
      refine AL.out.mono ?_
      rintro e w1 ⟨rfl, hr, b1⟩
      have A1 := aside (below_tr AB.out b1)
      have Ar := aside hr
      clear hr b1
      go_wp2_with fail
      go_ret2
      exact ⟨A1.out, .inr ⟨Ac.out, _, rfl, AB.out.size, .inr (.inr ⟨rfl, by rw [← AX.out]; exact Ar.out⟩)⟩⟩
theorem infoU : (Tryz.prog.info? 5).map (fun i => (i.zero, i.size, i.bytes)) = some (some (.int .u8 0), 1, 1) := by kernel_rfl
theorem app_told {w W w2 : World} {x : B} {n : Nat} {v2 : Value} (hs : w.heap.size ≤ W.heap.size) (ho : w2.ownsRow 0 5 1 v2 (0 + n) ([] ++ bcells x)) (hu : Upd (fun k => (Value.slice (some ⟨w.heap.size + 1, 0, none⟩) 0 0).ownBlock = some k) W w2) (_hv : v2.ownBlock = (Value.slice (some ⟨w.heap.size + 1, 0, none⟩) 0 0).ownBlock ∨ v2.ownBlock = some W.heap.size) : Below w.heap.size W w2 ∧ ∃ a c, v2 = .slice a (0 + n) c ∧ BsAt w2 a x := by
  refine ⟨hu.below hs (fun k hk => by simp only [Value.ownBlock, Option.some.injEq] at hk; omega), ?_⟩
  rw [List.nil_append] at ho
  rcases ho.2 with ⟨e, h0⟩ | ⟨g, c, cs, e, g1, g2, g3, g4, g5, g6⟩
  · refine ⟨none, 0, by rw [e, h0], fun hx => ?_⟩
    have := ho.1
    rw [bcells_length] at this
    exact absurd (List.eq_nil_of_length_eq_zero (by omega)) hx
  · refine ⟨some ⟨g, 0, none⟩, c, e, fun _ => ⟨_, rfl, fun j v hj => ?_⟩⟩
    rw [Addr.add_lit, Nat.zero_add, cell_of_row w2 g _ _ _ _ g2]
    rw [← g6, List.getElem?_take] at hj
    split at hj
    · simpa using hj
    · cases hj
set_option maxRecDepth 20000 in
set_option maxHeartbeats 2000000 in
theorem rnode_file (p : ByteArray) (a : Option Addr) (x : B) (c : Nat) (w : World) (hx : BsAt w a x) (hl : x.length ≤ 4194304) : Calls Tryz.prog 39 #[.agg #[.string p, .int .i8 0, .slice a x.length c]] w fun r w' => RnP w 0 x r w' := by
  obtain ⟨V, hV⟩ : ∃ V, V = w.alloc (.cells #[.string p, .int .i8 0, .slice a x.length c] 51) := ⟨_, rfl⟩
  obtain ⟨W, hW⟩ : ∃ W, W = V.alloc (.cells #[] 5) := ⟨_, rfl⟩
  have bV : Below w.heap.size w V := by rw [hV]; exact below_al _ _
  have bW : Below V.heap.size V W := by rw [hW]; exact below_al _ _
  have AB := aside (below_tr bV bW)
  have hBs := (hx.below bV).below bW
  obtain ⟨n, hn⟩ : ∃ n, n = x.length := ⟨_, rfl⟩
  have An := aside hn
  have AO : Aside (W.ownsRow 0 5 1 (.slice (some ⟨w.heap.size + 1, 0, none⟩) 0 0) 0 []) := by
    rw [← show V.heap.size = w.heap.size + 1 by rw [hV]; simp, hW]
    exact ⟨rfl, .inr ⟨V.heap.size, 0, #[], rfl, Nat.zero_le _, heap_alloc_new V _, Nat.le_refl _, by unfold maxLen; omega, rfl, rfl⟩⟩
  have ASr : Aside (SrcAt W (.slice a n c) n (bcells x)) := ⟨a, c, rfl, fun h0 => by
    obtain ⟨ad, e, hc⟩ := hBs (fun e => by rw [e] at hn; simp at hn; omega)
    exact ⟨ad, e, hc⟩⟩
  rw [← hn] at hV hl ⊢
  clear hn hx bV bW hBs
  go_enter Tryz.func39, Tryz.ntmps39
  go_wp2_with (at_builtin; (first | rw [← hV, ← hW] | rw [← hW]); refine wpList_append_any W rfl _ _ 48 rfl 5 (.int .u8 0) 1 1 Tryz.underlying48 infoU rfl (by omega) (.slice (some ⟨w.heap.size + 1, 0, none⟩) 0 0) 0 [] rfl AO.out (.slice a n c) n (bcells x) rfl (by have := An.out; rw [bcells_length]; omega) ASr.out (bcells_one x) (by unfold maxLen; omega) (by omega) ?_; intro v2 w2 ho hu hv; obtain ⟨q1, a2, c2, q2, q3⟩ := app_told AB.out.size ho hu hv; subst q2; have B2 := aside (AB.out.trans q1); have S2 := aside q3; clear ho hu hv q1 q3)
  have hcall := aside (r4New_told a2 x c2 w2 S2.out (by rw [← An.out]; exact hl))
  rw [← An.out] at hcall
  refine hcall.out.mono ?_
  rintro e w3 ⟨fb, rfl, -, hr4, b3⟩
  have B3 := aside (B2.out.trans (b3.mono B2.out.size))
  have A4 := aside hr4
  clear hr4 b3 hcall
  go_wp2_with fail
  refine (rFile_any w3 fb).mono ?_
  rintro e w4 ⟨rfl, hr, b4⟩
  have B4 := aside (B3.out.trans (b4.mono B3.out.size))
  have Ar := aside hr
  have A5 := aside (r4_st w3 w4 fb x b4.size (fun g hg _ => b4.block g hg) A4.out)
  clear hr b4
  go_wp2_with fail
  go_ret2
  exact ⟨B4.out, .inr ⟨rfl, _, rfl, B3.out.size, .inl ⟨rfl, fb, Ar.out, A5.out⟩⟩⟩
/-- A node of an item of any of the three kinds. -/
theorem rnode_any (p : ByteArray) (k : Int) (a : Option Addr) (x : B) (c : Nat) (w : World) (hk : k = 0 ∨ k = 1 ∨ k = 2) (hx : BsAt w a x) (hl : x.length ≤ 4194304) : Calls Tryz.prog 39 #[.agg #[.string p, .int .i8 k, .slice a x.length c]] w fun r w' => RnP w k x r w' := by
  rcases hk with rfl | rfl | rfl
  · exact rnode_file p a x c w hx hl
  · exact rnode_dir p a x c w
  · exact rnode_link p a x c w hx
end Go.Proofs.YtbnaegoahdcejaaGreatDoor

namespace Go.Proofs.YtbnaegoahdcejaaGreatDoor
open Go.RowKit Go.ChangeMaps

/-- Why an item may not be, by itself; u bytes of files ahead. -/
def rft (s : B) (k : Int) (n u : Nat) : Int :=
  if 4096 < s.length ∨ 64 < (spl s).length then 3
  else if (k ≠ 0 ∧ k ≠ 1 ∧ k ≠ 2) ∨ (k = 1 ∧ 0 < n) then 2
  else if k = 0 ∧ 4194304 < u + n then 3
  else if ∀ x ∈ spl s, nameOk (ba x) = true then 0 else 190
theorem rwid_mem {l : List B} {x : B} (h : x ∈ l) : x.length + 1 ≤ wid l := by
  induction l with
  | nil => simp at h
  | cons y l ih =>
    rw [wid_cons]
    rcases List.mem_cons.1 h with rfl | h
    · omega
    · have := ih h; omega
set_option maxRecDepth 20000 in
set_option maxHeartbeats 4000000 in
theorem rfault_any (s : B) (k : Int) (a : Option Addr) (n c u : Nat) (w : World) (hs : s.length ≤ 1000000) (hn : n ≤ 4194304) (hu : u ≤ 4194304)
    (HN : ∀ W : World, Calls Tryz.prog 35 #[.string (ba s)] W fun e w' => ∃ a c, e = .returned (.slice a (spl s).length c) ∧ SnAt w' a (spl s) ∧ Below W.heap.size W w') :
    Calls Tryz.prog 34 #[.agg #[.string (ba s), .int .i8 k, .slice a n c], .int .i64 (u : Int)] w fun r w' => r = .returned (.int .i64 (rft s k n u)) ∧ Below w.heap.size w w' := by
  have AN := aside HN
  obtain ⟨R, hR⟩ : ∃ R, R = rft s k n u := ⟨_, rfl⟩
  rw [← hR]
  have AR := aside hR
  obtain ⟨S, hS⟩ : ∃ S, S = ba s := ⟨_, rfl⟩
  have hSs : S.size = s.length := by rw [hS, ba_size]
  rw [← hS] at AN ⊢
  obtain ⟨m, hm⟩ : ∃ m, m = (spl s).length := ⟨_, rfl⟩
  have Am := aside hm
  rw [← hm] at AN
  have hml : m ≤ 1000001 := by
    have h1 := spl_len s
    have h2 := List.count_le_length (a := (47 : UInt8)) (l := s)
    omega
  obtain ⟨z, hz⟩ : ∃ z, z = s.length := ⟨_, rfl⟩
  have Asl : Aside (s.length ≤ 1000000) := hs
  rw [← hz] at hSs hs
  unfold rft at AR
  rw [← hz, ← hm] at AR
  clear HN hR hS hm hz
  go_enter Tryz.func34, Tryz.ntmps34
  go_wp2_with fail
  obtain ⟨V, hV⟩ : ∃ V, V = w.alloc (.cells #[.string S, .int .i8 k, .slice a n c] 51) := ⟨_, rfl⟩
  have bV : Below w.heap.size w V := by rw [hV]; exact below_al _ _
  have hrow : V.heap[w.heap.size]? = some (.cells #[.string S, .int .i8 k, .slice a n c] 51 (0, 0)) := by rw [hV]; exact heap_alloc_new w _
  have AV := aside bV
  rw [← hV]
  clear hV bV
  refine (AN.out V).mono ?_
  rintro e w1 ⟨na, nc, rfl, hsn, b1⟩
  have r1 := (b1.block _ (Array.getElem?_eq_some_iff.1 hrow).1).trans hrow
  have c0 : w1.cell? ⟨w.heap.size, 0, none⟩ = some (.string S) := by rw [cell_of_row w1 _ 0 _ _ _ r1]; rfl
  have c1 : w1.cell? ⟨w.heap.size, 1, none⟩ = some (.int .i8 k) := by rw [cell_of_row w1 _ 1 _ _ _ r1]; rfl
  have c2 : w1.cell? ⟨w.heap.size, 2, none⟩ = some (.slice a n c) := by rw [cell_of_row w1 _ 2 _ _ _ r1]; rfl
  have B1 := aside (below_tr AV.out b1)
  have ASn := aside hsn
  clear hsn b1 r1 hrow AN
  by_cases h1 : 4096 < z
  · rw [if_pos (.inl h1)] at AR
    have hq : (4096 : Int) < (S.size : Int) := by omega
    go_wp2_with fail
    go_ret
    exact ⟨by rw [AR.out]; rfl, B1.out⟩
  · have hq : ¬ (4096 : Int) < (S.size : Int) := by omega
    by_cases h2 : 64 < m
    · rw [if_pos (.inr h2)] at AR
      have hq2 : (64 : Int) < (m : Int) := by omega
      go_wp2_with fail
      go_ret
      exact ⟨by rw [AR.out]; rfl, B1.out⟩
    · have hq2 : ¬ (64 : Int) < (m : Int) := by omega
      rw [if_neg (by rintro (h | h) <;> omega)] at AR
      by_cases k0 : k = 0
      · subst k0
        rw [if_neg (by rintro (⟨h, -⟩ | ⟨h, -⟩); exact h rfl; cases h)] at AR
        have hwu : IntKind.i64.wrap ((u : Int) + (n : Int)) = ((u + n : Nat) : Int) := by rw [wrap_small _ (by omega) (by omega)]; simp
        by_cases h3 : 4194304 < u + n
        · rw [if_pos ⟨rfl, h3⟩] at AR
          have hq3 : (4194304 : Int) < ((u + n : Nat) : Int) := by omega
          have hq4 : (4194304 : Int) < (u : Int) + (n : Int) := by omega
          go_wp2_with fail
          go_ret
          exact ⟨by rw [AR.out]; rfl, B1.out⟩
        · rw [if_neg (fun h => h3 h.2)] at AR
          have hq3 : ¬ (4194304 : Int) < ((u + n : Nat) : Int) := by omega
          have hq4 : ¬ (4194304 : Int) < (u : Int) + (n : Int) := by omega
          go_wp2_with fail
          go_loopg [4, 6, 7] m (fun gk s4 s6 _ wx => s4 = .int .i64 0 ∧ ∃ i : Nat, i + gk = m ∧ s6 = .int .i64 (i : Int) ∧ (∀ x ∈ (spl s).take i, nameOk (ba x) = true) ∧ wx = w1)
          case atStart => exact ⟨rfl, 0, by omega, rfl, fun x hx => by simp at hx, rfl⟩
          case round =>
            obtain ⟨rfl, i, hig, rfl, hok, rfl⟩ := hrel
            have Aok := aside hok
            clear hok
            cases gk with
            | zero =>
              obtain rfl : i = m := by omega
              have hi : ¬ (i : Int) < (i : Int) := by omega
              have hall : ∀ x ∈ spl s, nameOk (ba x) = true := fun x hx => Aok.out x (by rw [List.take_of_length_le (by rw [← Am.out]; exact Nat.le_refl _)]; exact hx)
              rw [if_pos hall] at AR
              clear hall
              go_wp2_with fail
              go_ret
              exact ⟨by rw [AR.out]; rfl, B1.out⟩
            | succ gk =>
              have hi : (i : Int) < (m : Int) := by omega
              have hi0 : (0 : Int) ≤ (i : Int) := by omega
              have hwi : IntKind.i64.wrap ((i : Int) + 1) = ((i + 1 : Nat) : Int) := by rw [wrap_small _ (by omega) (by omega)]; simp
              obtain ⟨x, hx⟩ : ∃ x, (spl s)[i]? = some x := ⟨_, List.getElem?_eq_getElem (by rw [← Am.out]; omega)⟩
              obtain ⟨g, o, rfl, hcell⟩ := ASn.out (fun e => by rw [e] at hx; simp at hx)
              have hcx := hcell i x hx
              have hmem := List.mem_of_getElem? hx
              have ANm := aside (rName_any x wr (by have h3 := rwid_mem hmem; rw [wid_spl] at h3; have h4 := Asl.out; omega))
              have htk : (spl s).take (i + 1) = (spl s).take i ++ [x] := by rw [List.take_add_one, hx]; rfl
              have Atk := aside htk
              have Amem := aside hmem
              obtain ⟨X, hX⟩ : ∃ X, X = ba x := ⟨_, rfl⟩
              have AX := aside hX
              rw [← hX] at hcx ANm
              clear hcell htk hmem hX hx
              cases hb : nameOk X with
              | true =>
                rw [hb] at ANm
                go_wp2_with fail
                refine ANm.out.mono ?_
                rintro e w2 ⟨rfl, rfl⟩
                go_wp2_with fail
                go_roundg gk
                case measure => omega
                case rel => exact ⟨rfl, i + 1, by omega, by first | rfl | simp, fun y hy => by
                  rw [Atk.out] at hy
                  rcases List.mem_append.1 hy with hy | hy
                  · exact Aok.out y hy
                  · rw [List.mem_singleton.1 hy, ← AX.out]; exact hb, rfl⟩
              | false =>
                rw [hb] at ANm
                have hno : ¬ ∀ y ∈ spl s, nameOk (ba y) = true := fun h => by
                  have := h x Amem.out
                  rw [← AX.out, hb] at this
                  cases this
                rw [if_neg hno] at AR
                clear hno
                go_wp2_with fail
                refine ANm.out.mono ?_
                rintro e w2 ⟨rfl, rfl⟩
                go_wp2_with fail
                go_ret
                exact ⟨by rw [AR.out]; rfl, B1.out⟩
      · have k0b : (k == 0) = false := beq_eq_false_iff_ne.2 k0
        by_cases k1 : k = 1
        · subst k1
          by_cases h3 : 0 < n
          · rw [if_pos (.inr ⟨rfl, h3⟩)] at AR
            have hq3 : (0 : Int) < (n : Int) := by omega
            go_wp2_with fail
            go_ret
            exact ⟨by rw [AR.out]; rfl, B1.out⟩
          · rw [if_neg (by rintro (⟨-, h, -⟩ | ⟨-, h⟩); exact h rfl; exact h3 h), if_neg (fun h => by cases h.1)] at AR
            have hq3 : ¬ (0 : Int) < (n : Int) := by omega
            go_wp2_with fail
            go_loopg [4, 6, 7] m (fun gk s4 s6 _ wx => s4 = .int .i64 0 ∧ ∃ i : Nat, i + gk = m ∧ s6 = .int .i64 (i : Int) ∧ (∀ x ∈ (spl s).take i, nameOk (ba x) = true) ∧ wx = w1)
            case atStart => exact ⟨rfl, 0, by omega, rfl, fun x hx => by simp at hx, rfl⟩
            case round =>
              obtain ⟨rfl, i, hig, rfl, hok, rfl⟩ := hrel
              have Aok := aside hok
              clear hok
              cases gk with
              | zero =>
                obtain rfl : i = m := by omega
                have hi : ¬ (i : Int) < (i : Int) := by omega
                have hall : ∀ x ∈ spl s, nameOk (ba x) = true := fun x hx => Aok.out x (by rw [List.take_of_length_le (by rw [← Am.out]; exact Nat.le_refl _)]; exact hx)
                rw [if_pos hall] at AR
                clear hall
                go_wp2_with fail
                go_ret
                exact ⟨by rw [AR.out]; rfl, B1.out⟩
              | succ gk =>
                have hi : (i : Int) < (m : Int) := by omega
                have hi0 : (0 : Int) ≤ (i : Int) := by omega
                have hwi : IntKind.i64.wrap ((i : Int) + 1) = ((i + 1 : Nat) : Int) := by rw [wrap_small _ (by omega) (by omega)]; simp
                obtain ⟨x, hx⟩ : ∃ x, (spl s)[i]? = some x := ⟨_, List.getElem?_eq_getElem (by rw [← Am.out]; omega)⟩
                obtain ⟨g, o, rfl, hcell⟩ := ASn.out (fun e => by rw [e] at hx; simp at hx)
                have hcx := hcell i x hx
                have hmem := List.mem_of_getElem? hx
                have ANm := aside (rName_any x wr (by have h3 := rwid_mem hmem; rw [wid_spl] at h3; have h4 := Asl.out; omega))
                have htk : (spl s).take (i + 1) = (spl s).take i ++ [x] := by rw [List.take_add_one, hx]; rfl
                have Atk := aside htk
                have Amem := aside hmem
                obtain ⟨X, hX⟩ : ∃ X, X = ba x := ⟨_, rfl⟩
                have AX := aside hX
                rw [← hX] at hcx ANm
                clear hcell htk hmem hX hx
                cases hb : nameOk X with
                | true =>
                  rw [hb] at ANm
                  go_wp2_with fail
                  refine ANm.out.mono ?_
                  rintro e w2 ⟨rfl, rfl⟩
                  go_wp2_with fail
                  go_roundg gk
                  case measure => omega
                  case rel => exact ⟨rfl, i + 1, by omega, by first | rfl | simp, fun y hy => by
                    rw [Atk.out] at hy
                    rcases List.mem_append.1 hy with hy | hy
                    · exact Aok.out y hy
                    · rw [List.mem_singleton.1 hy, ← AX.out]; exact hb, rfl⟩
                | false =>
                  rw [hb] at ANm
                  have hno : ¬ ∀ y ∈ spl s, nameOk (ba y) = true := fun h => by
                    have := h x Amem.out
                    rw [← AX.out, hb] at this
                    cases this
                  rw [if_neg hno] at AR
                  clear hno
                  go_wp2_with fail
                  refine ANm.out.mono ?_
                  rintro e w2 ⟨rfl, rfl⟩
                  go_wp2_with fail
                  go_ret
                  exact ⟨by rw [AR.out]; rfl, B1.out⟩
        · have k1b : (k == 1) = false := beq_eq_false_iff_ne.2 k1
          by_cases k2 : k = 2
          · subst k2
            rw [if_neg (by rintro (⟨-, -, h⟩ | ⟨h, -⟩); exact h rfl; cases h), if_neg (fun h => by cases h.1)] at AR
            go_wp2_with fail
            go_loopg [4, 6, 7] m (fun gk s4 s6 _ wx => s4 = .int .i64 0 ∧ ∃ i : Nat, i + gk = m ∧ s6 = .int .i64 (i : Int) ∧ (∀ x ∈ (spl s).take i, nameOk (ba x) = true) ∧ wx = w1)
            case atStart => exact ⟨rfl, 0, by omega, rfl, fun x hx => by simp at hx, rfl⟩
            case round =>
              obtain ⟨rfl, i, hig, rfl, hok, rfl⟩ := hrel
              have Aok := aside hok
              clear hok
              cases gk with
              | zero =>
                obtain rfl : i = m := by omega
                have hi : ¬ (i : Int) < (i : Int) := by omega
                have hall : ∀ x ∈ spl s, nameOk (ba x) = true := fun x hx => Aok.out x (by rw [List.take_of_length_le (by rw [← Am.out]; exact Nat.le_refl _)]; exact hx)
                rw [if_pos hall] at AR
                clear hall
                go_wp2_with fail
                go_ret
                exact ⟨by rw [AR.out]; rfl, B1.out⟩
              | succ gk =>
                have hi : (i : Int) < (m : Int) := by omega
                have hi0 : (0 : Int) ≤ (i : Int) := by omega
                have hwi : IntKind.i64.wrap ((i : Int) + 1) = ((i + 1 : Nat) : Int) := by rw [wrap_small _ (by omega) (by omega)]; simp
                obtain ⟨x, hx⟩ : ∃ x, (spl s)[i]? = some x := ⟨_, List.getElem?_eq_getElem (by rw [← Am.out]; omega)⟩
                obtain ⟨g, o, rfl, hcell⟩ := ASn.out (fun e => by rw [e] at hx; simp at hx)
                have hcx := hcell i x hx
                have hmem := List.mem_of_getElem? hx
                have ANm := aside (rName_any x wr (by have h3 := rwid_mem hmem; rw [wid_spl] at h3; have h4 := Asl.out; omega))
                have htk : (spl s).take (i + 1) = (spl s).take i ++ [x] := by rw [List.take_add_one, hx]; rfl
                have Atk := aside htk
                have Amem := aside hmem
                obtain ⟨X, hX⟩ : ∃ X, X = ba x := ⟨_, rfl⟩
                have AX := aside hX
                rw [← hX] at hcx ANm
                clear hcell htk hmem hX hx
                cases hb : nameOk X with
                | true =>
                  rw [hb] at ANm
                  go_wp2_with fail
                  refine ANm.out.mono ?_
                  rintro e w2 ⟨rfl, rfl⟩
                  go_wp2_with fail
                  go_roundg gk
                  case measure => omega
                  case rel => exact ⟨rfl, i + 1, by omega, by first | rfl | simp, fun y hy => by
                    rw [Atk.out] at hy
                    rcases List.mem_append.1 hy with hy | hy
                    · exact Aok.out y hy
                    · rw [List.mem_singleton.1 hy, ← AX.out]; exact hb, rfl⟩
                | false =>
                  rw [hb] at ANm
                  have hno : ¬ ∀ y ∈ spl s, nameOk (ba y) = true := fun h => by
                    have := h x Amem.out
                    rw [← AX.out, hb] at this
                    cases this
                  rw [if_neg hno] at AR
                  clear hno
                  go_wp2_with fail
                  refine ANm.out.mono ?_
                  rintro e w2 ⟨rfl, rfl⟩
                  go_wp2_with fail
                  go_ret
                  exact ⟨by rw [AR.out]; rfl, B1.out⟩
          · have k2b : (k == 2) = false := beq_eq_false_iff_ne.2 k2
            rw [if_pos (.inl ⟨k0, k1, k2⟩)] at AR
            have k0c : (k != 0) = true := bne_iff_ne.2 k0
            have k1c : (k != 1) = true := bne_iff_ne.2 k1
            have k2c : (k != 2) = true := bne_iff_ne.2 k2
            clear k0b k1b k2b
            go_wp2_with fail
            go_ret
            exact ⟨by rw [AR.out]; rfl, B1.out⟩
end Go.Proofs.YtbnaegoahdcejaaGreatDoor
