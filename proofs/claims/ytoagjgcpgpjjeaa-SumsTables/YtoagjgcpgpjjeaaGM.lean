/- Merged: RefSum, RefTab, TabW. -/
import Derived.Test.YtoagjgcpgpjjeaaGE
import Derived.Test.YtoagjgcpgpjjeaaGF
import Derived.Test.YtoagjgcpgpjjeaaGJ
import Derived.Test.YtoagjgcpgpjjeaaGK
namespace Go.Proofs.Ytoagjgcpgpjjeaa
open Go.RowKit
attribute [local simp] lcells_nil readB_length bcells_length

set_option maxRecDepth 20000 in
set_option maxHeartbeats 1000000 in
theorem sumRef_any (a : Option Addr) (l : List UInt8) (c : Nat) (w : World) (h : BsAt w a l) (hl : l.length ≤ 4611686018427387904) :
    Calls Try.prog 14 #[.slice a l.length c] w fun e w' => e = .returned (.int .u64 (fnv0 l : Nat)) ∧ w' = w := by
  have H := aside h
  clear h
  go_enter Try.func14, Try.ntmps14
  go_wp2_with fail
  go_loop [3, 4] (fun s3 s8 => ∃ (k S : Nat), k ≤ l.length ∧ S < 18446744073709551616 ∧ s3 = .int .u64 S ∧ s8 = .int .i64 k ∧ Aside (S = fnv0 (l.take k))) (fun _ s8 => l.length - (intOf s8).toNat)
  case atStart => exact ⟨0, _, Nat.zero_le _, by decide, rfl, rfl, aside (by rw [List.take_zero]; rfl)⟩
  case round =>
    obtain ⟨k, S, hk, hS, rfl, rfl, hF⟩ := hrel
    by_cases h1 : k < l.length
    · have hkm : l[k]? = some l[k] := List.getElem?_eq_getElem h1
      obtain ⟨ad, rfl, hc⟩ := H.out (by intro h; simp [h] at h1)
      have r0 := hc k (.int .u8 (l[k].toNat : Nat)) (by simp [bcells, hkm])
      have HX := aside (fnv0_take_succ hkm)
      have hx := byte_lt l[k]
      generalize l[k] = x at *
      have t1 : (k : Int) < (l.length : Int) := by omega
      have HR := aside (stp_run S x hS)
      have hst := stp_lt S x
      clear hc hkm
      go_wp2_with fail
      refine ⟨⟨k + 1, stp S x, by omega, hst, by rw [HR.out], by go_num, aside (by rw [HX.out, ← hF.out])⟩, ?_⟩
      simp [intOf]; omega
    · have t1 : ¬ ((k : Int) < (l.length : Int)) := by omega
      obtain rfl : k = l.length := by omega
      go_wp2_with fail
      go_ret
      have e := hF.out
      rw [List.take_length] at e
      rw [e]
      exact ⟨rfl, rfl⟩

set_option maxRecDepth 20000 in
set_option maxHeartbeats 1000000 in
theorem eight_any (s : Nat) (w : World) :
    Calls Try.prog 34 #[.int .u64 s] w fun e w' => ∃ v, e = .returned v ∧ w'.ownsRow 0 5 1 v 8 (bcells (le8 s)) ∧ Below w.heap.size w w' := by
  go_enter Try.func34, Try.ntmps34
  go_wp2_with fail
  go_loopw [3, 4] (fun s3 s4 wr => ∃ (k : Nat) (v : Value), k ≤ 8 ∧ s3 = v ∧ s4 = .int .i64 k ∧ Aside (wr.ownsRow 0 5 1 v k (bcells ((le8 s).take k))) ∧ Aside (∀ j, v.ownBlock = some j → w.heap.size ≤ j) ∧ Aside (Below w.heap.size w wr)) (fun _ s4 _ => 8 - (intOf s4).toNat)
  case atStart => exact ⟨0, _, Nat.zero_le _, rfl, rfl, aside ⟨rfl, .inl ⟨rfl, rfl⟩⟩, aside (fun j hj => by simp [Value.ownBlock] at hj), aside (Below.refl _ _)⟩
  case round =>
    obtain ⟨k, v, hk, hv3, rfl, hO, hV, hB⟩ := hrel
    subst hv3
    by_cases h1 : k < 8
    · have t1 : (k : Int) < 8 := by omega
      have hal := below_al wr (.cells #[.int .u8 ((s : Int) / 2 ^ (8 * k) % 256)] 5)
      have HO1 := aside (row_below hO.out hal)
      have HS1 : Aside (∀ j v, [Value.int .u8 ((s : Int) / 2 ^ (8 * k) % 256)][j]? = some v → (wr.alloc (.cells #[.int .u8 ((s : Int) / 2 ^ (8 * k) % 256)] 5)).cell? ((⟨wr.heap.size, 0, none⟩ : Addr).add j) = some v) := cells_lit (cs := [.int .u8 ((s : Int) / 2 ^ (8 * k) % 256)]) (heap_alloc_new wr _)
      have HB1 := aside (hB.out.trans (hal.mono hB.out.size))
      have hsz := hB.out.size
      have hnx : bcells ((le8 s).take k) ++ [Value.int .u8 ((s : Int) / 2 ^ (8 * k) % 256)] = bcells ((le8 s).take (k + 1)) := by
        have hg : (le8 s)[k]? = some (UInt8.ofNat (s / 2 ^ (8 * k))) := by unfold le8; rw [List.getElem?_map, List.getElem?_range (by omega)]; rfl
        rw [List.take_add_one, hg, le8_byte]
        simp [bcells]
      have HNX := aside hnx
      clear hnx
      have hone : ∀ u ∈ [Value.int .u8 ((s : Int) / 2 ^ (8 * k) % 256)], u.oneCell' = true := fun u hu => by
        simp only [List.mem_cons, List.not_mem_nil, or_false] at hu
        subst hu; rfl
      have HONE := aside hone
      have h63 : k + 1 ≤ maxLen := by unfold maxLen; omega
      have hby : (k + 1) * 1 ≤ 140737488355328 := by omega
      clear hal hone
      go_wp2_with (at_builtin; refine wpList_append_where _ rfl _ _ 22 rfl 5 (.int .u8 0) 1 1 Try.underlying22 info5 rfl (by decide) u3 k (bcells ((le8 s).take k)) rfl HO1.out ⟨wr.heap.size, 0, none⟩ 1 _ [.int .u8 ((s : Int) / 2 ^ (8 * k) % 256)] rfl rfl HS1.out HONE.out h63 hby (by decide) ?_; intro v' w4 ho hg hwh)
      rw [HNX.out] at ho
      go_roundw
      case rel =>
        refine ⟨k + 1, v', by omega, rfl, by go_num, aside ho, aside (fun j hj => ?_), aside (HB1.out.grown hg HB1.out.size (fun j hj => hV.out j hj))⟩
        rcases hwh with ⟨e1, -⟩ | ⟨e1, -⟩
        · rw [e1] at hj; exact hV.out j hj
        · rw [e1] at hj
          simp only [Option.some.injEq, World.size_alloc] at hj
          omega
      case measure => simp [intOf]; omega
    · have t1 : ¬ ((k : Int) < 8) := by omega
      obtain rfl : k = 8 := by omega
      go_wp2_with fail
      go_ret
      refine ⟨_, rfl, ?_, hB.out⟩
      have := hO.out
      rwa [List.take_of_length_le (by rw [le8_length]; exact Nat.le_refl _)] at this

set_option maxRecDepth 20000 in
set_option maxHeartbeats 1000000 in
theorem fSizeRef_any (F r N : Nat) (a : Option Addr) (c : Nat) (R : List RP) (w : World) (h0 : w.cell? ⟨F, 0, none⟩ = some (.pointer (some ⟨r, 0, none⟩))) (hR : RRep w r N a c R) : Calls Try.prog 32 #[.pointer (some ⟨F, 0, none⟩)] w fun e w' => e = .returned (.int .i64 N) ∧ w' = w := by
  have h1 := hR.obj.cells.2.1
  clear hR
  go_enter Try.func32, Try.ntmps32
  go_wp2_with fail
  go_ret
  exact ⟨rfl, rfl⟩

set_option maxRecDepth 20000 in
set_option maxHeartbeats 1000000 in
theorem reads_any (x : Nat) (w : World) : Calls Try.prog 48 #[.int .i64 x, .int .i64 64] w fun e w' => e = .returned (.int .i64 0) ∧ w' = w := by
  have h1 : ¬ ((x : Int) < 0) := by omega
  go_enter Try.func48, Try.ntmps48
  go_wp2_with fail
  go_ret
  exact ⟨rfl, rfl⟩

set_option maxRecDepth 20000 in
set_option maxHeartbeats 1000000 in
theorem fReadRef_any (F r N x : Nat) (a : Option Addr) (c : Nat) (R : List RP) (w : World) (h0 : w.cell? ⟨F, 0, none⟩ = some (.pointer (some ⟨r, 0, none⟩))) (hR : RRep w r N a c R) :
    Calls Try.prog 33 #[.pointer (some ⟨F, 0, none⟩), .int .i64 x, .int .i64 64] w fun e w' => ∃ a' c', e = .returned (.tuple #[.slice a' (getL (pls R) N x 64).length c', .int .i64 0]) ∧ BsAt w' a' (getL (pls R) N x 64) ∧ Below w.heap.size w w' := by
  have G := aside (getRef_all r N a c R x 64 w hR (by decide))
  clear hR
  go_enter Try.func33, Try.ntmps33
  go_wp2_with fail
  refine (reads_any x w).mono ?_
  rintro e w' ⟨rfl, rfl⟩
  go_wp2_with fail
  refine G.out.mono ?_
  rintro e w1 ⟨a', c', rfl, hn, hb⟩
  have HN := aside (newB_bs hn)
  have HB := aside hb
  clear hn hb
  go_wp2_with fail
  go_ret2
  exact ⟨a', c', rfl, HN.out, HB.out⟩
end Go.Proofs.Ytoagjgcpgpjjeaa

namespace Go.Proofs.Ytoagjgcpgpjjeaa
open Go.RowKit
attribute [local simp] lcells_nil readB_length bcells_length

theorem RF.c0 {w : World} {F r nn : Nat} (h : RF w F r nn) : w.cell? ⟨F, 0, none⟩ = some (.pointer (some ⟨r, 0, none⟩)) := by
  unfold RF at h
  rw [cell_of_row w F _ _ _ _ h]; rfl

theorem tab_ct {L M : List Piece} (h : ct L = ct M) (sz : Nat) : tab L sz = tab M sz := by
  unfold tab tabk
  congr 1
  funext i
  rw [ct_get h]

set_option maxRecDepth 20000 in
set_option maxHeartbeats 4000000 in
theorem refTable_any (F r nn N : Nat) (a : Option Addr) (c : Nat) (R : List RP) (w : World) (hF : RF w F r nn) (hR : RRep w r N a c R) (hN : N ≤ 4194304) :
    Calls Try.prog 12 #[.pointer (some ⟨F, 0, none⟩)] w fun e w' => ∃ v, e = .returned (.tuple #[v, .int .i64 0]) ∧ w'.ownsRow 0 5 1 v (tab (pls R) N).length (bcells (tab (pls R) N)) ∧ Below w.heap.size w w' := by
  have F1 := aside (fSizeRef_any F r N a c R w hF.c0 hR)
  have HF := aside hF
  have HR := aside hR
  have h4 : ¬ ((4194304 : Int) < (N : Int)) := by omega
  clear hF hR
  go_enter Try.func12, Try.ntmps12
  go_wp2_with fail
  refine F1.out.mono ?_
  rintro e w' ⟨rfl, rfl⟩
  clear F1
  go_wp2_with fail
  go_loopw [5, 6] (fun s5 s6 wr => ∃ (k : Nat) (v : Value), k ≤ (N + 63) / 64 ∧ s5 = v ∧ s6 = .int .i64 ((k * 64 : Nat) : Int) ∧ Aside (wr.ownsRow 0 5 1 v (8 * k) (bcells (tabk (pls R) N k))) ∧ Aside (∀ j, v.ownBlock = some j → w'.heap.size ≤ j) ∧ Aside (Below w'.heap.size w' wr)) (fun _ s6 _ => N + 64 - (intOf s6).toNat)
  case atStart => exact ⟨0, _, Nat.zero_le _, rfl, rfl, aside ⟨rfl, .inl ⟨rfl, rfl⟩⟩, aside (fun j hj => by simp [Value.ownBlock] at hj), aside (Below.refl _ _)⟩
  case round =>
    obtain ⟨k, v, hk, hv5, rfl, hO, hV, hB⟩ := hrel
    subst hv5
    by_cases h1 : k * 64 < N
    · have t1 : ((k * 64 : Nat) : Int) < (N : Int) := by omega
      have G1 := fReadRef_any F r N (k * 64) a c R wr (HF.out.below hB.out).c0 (HR.out.below hB.out)
      have HG := aside (tabk_succ (pls R) N k)
      have hgl := getL_le (pls R) N (k * 64) 64
      rw [show (64 : Int) = ((64 : Nat) : Int) from rfl] at G1
      generalize getL (pls R) N ((k * 64 : Nat) : Int) ((64 : Nat) : Int) = g at *
      have HG1 := aside G1
      clear G1
      have hx : k * 64 ≤ 4194304 := by omega
      generalize hkx : k * 64 = x at *
      have HKX := aside hkx
      clear hkx
      go_wp2_with fail
      refine HG1.out.mono ?_
      rintro e w1 ⟨a1, c1, rfl, hT, hb1⟩
      have F3 := aside (sumRef_any a1 g c1 w1 hT (by omega))
      have F4 := aside (eight_any (fnv0 g) w1)
      have HB1 := aside hb1
      clear hT hb1 HG1
      go_wp2_with fail
      refine F3.out.mono ?_
      rintro e w2 ⟨rfl, rfl⟩
      go_wp2_with fail
      refine F4.out.mono ?_
      rintro e w3 ⟨v8, rfl, ho8, hb3⟩
      obtain ⟨g8, c8, rfl⟩ : ∃ g8 c8, v8 = .slice (some ⟨g8, 0, none⟩) 8 c8 := by
        rcases ho8.2 with ⟨-, hz⟩ | ⟨g8, c8, cur, rfl, -⟩
        · cases hz
        · exact ⟨g8, c8, rfl⟩
      have HB3 := aside (below_tr HB1.out hb3)
      have HO3 := aside (row_below hO.out HB3.out)
      have HS : Aside (∀ j v, (bcells (le8 (fnv0 g)))[j]? = some v → w3.cell? ((⟨g8, 0, none⟩ : Addr).add j) = some v) := fun j v hj => by
        have hjl : j < (bcells (le8 (fnv0 g))).length := (List.getElem?_eq_some_iff.1 hj).1
        rw [bcells_length, le8_length] at hjl
        rw [Addr.add_lit, Nat.zero_add, ho8.cellAt j (by omega)]; exact hj
      have h63 : 8 * k + 8 ≤ maxLen := by unfold maxLen; have := HKX.out; omega
      have hby : (8 * k + 8) * 1 ≤ 140737488355328 := by have := HKX.out; omega
      have H63 := aside h63
      have HLL := aside (show (bcells (le8 (fnv0 g))).length = 8 * 1 by rw [bcells_length, le8_length])
      clear ho8 hb3 h63 F3 F4
      go_wp2_with (at_builtin; refine wpList_append_where _ rfl _ _ 22 rfl 5 (.int .u8 0) 1 1 Try.underlying22 info5 rfl (by decide) u5 (8 * k) (bcells (tabk (pls R) N k)) rfl HO3.out _ 8 _ (bcells (le8 (fnv0 g))) rfl HLL.out HS.out (bcells_one _) H63.out hby (by decide) ?_; intro v' w4 ho hg hwh)
      have HB4 : Below w'.heap.size w' w4 := (hB.out.trans (HB3.out.mono hB.out.size)).grown hg (Nat.le_trans hB.out.size HB3.out.size) (fun j hj => hV.out j hj)
      have hrowb : bcells (tabk (pls R) N k) ++ bcells (le8 (fnv0 g)) = bcells (tabk (pls R) N (k + 1)) := by rw [HG.out]; simp [bcells]
      rw [hrowb] at ho
      go_roundw
      case rel =>
        refine ⟨k + 1, v', by have := HKX.out; omega, rfl, by have := HKX.out; rw [show (k + 1) * 64 = x + 64 by omega]; go_num, aside ho, aside (fun j hj => ?_), aside HB4⟩
        rcases hwh with ⟨e1, -⟩ | ⟨e1, -⟩
        · rw [e1] at hj; exact hV.out j hj
        · rw [e1] at hj
          have := HB3.out.size
          have := hB.out.size
          simp only [Option.some.injEq] at hj
          omega
      case measure => simp [intOf]; omega
    · have t1 : ¬ (((k * 64 : Nat) : Int) < (N : Int)) := by omega
      obtain rfl : k = (N + 63) / 64 := by omega
      go_wp2_with fail
      go_ret2
      refine ⟨_, rfl, ?_, hB.out⟩
      have := hO.out
      unfold tab
      rw [tabk_length]
      exact this

set_option maxRecDepth 20000 in
set_option maxHeartbeats 1000000 in
theorem refTable_long (F r nn N : Nat) (a : Option Addr) (c : Nat) (R : List RP) (w : World) (hF : RF w F r nn) (hR : RRep w r N a c R) (hN : 4194304 < N) :
    Calls Try.prog 12 #[.pointer (some ⟨F, 0, none⟩)] w fun e w' => e = .returned (.tuple #[.slice none 0 0, .int .i64 3]) ∧ w' = w := by
  have F1 := aside (fSizeRef_any F r N a c R w hF.c0 hR)
  have h4 : (4194304 : Int) < (N : Int) := by omega
  clear hF hR
  go_enter Try.func12, Try.ntmps12
  go_wp2_with fail
  refine F1.out.mono ?_
  rintro e w' ⟨rfl, rfl⟩
  go_wp2_with fail
  go_ret2
  exact ⟨rfl, rfl⟩

set_option maxRecDepth 20000 in
set_option maxHeartbeats 1000000 in
theorem table_long (hb t fb m b sz : Nat) (lv : Value) (L : List Piece) (w : World) (hY : Way w hb t fb m) (hF : Fil w m b) (hR : Rep w b sz lv L) (hsz : 4194304 < sz) :
    Calls Try.prog 11 #[.pointer (some ⟨hb, 0, none⟩)] w fun e w' => e = .returned (.tuple #[.slice none 0 0, .int .i64 3]) ∧ w' = w := by
  have hm1 := hY.size w (Below.refl _ _)
  have F1 := aside (file_any hb _ w hY.c5)
  have F2 := aside (fSize_any m b sz lv L w hF hR)
  have h4 : (4194304 : Int) < (sz : Int) := by omega
  clear hY hF hR
  go_enter Try.func11, Try.ntmps11
  go_wp2_with fail
  refine F1.out.mono ?_
  rintro e w' ⟨rfl, rfl⟩
  go_wp2_with fail
  refine F2.out.mono ?_
  rintro e w' ⟨rfl, rfl⟩
  go_wp2_with fail
  go_ret2
  exact ⟨rfl, rfl⟩

set_option maxRecDepth 20000 in
set_option maxHeartbeats 1000000 in
theorem like_any (h F nn : Nat) (y : Tw) (w : World) (hy : y.At w) (hF : RF w F y.r nn) :
    Calls Try.prog 15 #[.agg #[.pointer (some ⟨h, 0, none⟩), .pointer (some ⟨y.s, 0, none⟩), .pointer (some ⟨F, 0, none⟩)]] w fun e w' => e = .returned (.bool true) ∧ Below w.heap.size w w' := by
  obtain ⟨W, hW⟩ : ∃ W, W = w.alloc (.cells #[.pointer (some ⟨h, 0, none⟩), .pointer (some ⟨y.s, 0, none⟩), .pointer (some ⟨F, 0, none⟩)] 33) := ⟨_, rfl⟩
  have hB : Below w.heap.size w W := by rw [hW]; exact below_al w _
  have p1 : W.cell? ⟨w.heap.size, 1, none⟩ = some (.pointer (some ⟨y.s, 0, none⟩)) := by rw [hW]; go_simp
  have p2 : W.cell? ⟨w.heap.size, 2, none⟩ = some (.pointer (some ⟨F, 0, none⟩)) := by rw [hW]; go_simp
  have f0 := (hF.below hB).c0
  have q1 : ∀ d os, (ext W d os).cell? ⟨w.heap.size, 1, none⟩ = some (.pointer (some ⟨y.s, 0, none⟩)) := fun d os => ext_cell p1 d os
  have q2 : ∀ d os, (ext W d os).cell? ⟨w.heap.size, 2, none⟩ = some (.pointer (some ⟨F, 0, none⟩)) := fun d os => ext_cell p2 d os
  have q3 : ∀ d os, (ext W d os).cell? ⟨F, 0, none⟩ = some (.pointer (some ⟨y.r, 0, none⟩)) := fun d os => ext_cell f0 d os
  have S := aside (fun V (hV : Below W.heap.size W V) => sameBytes_any y.s y.N y.lv y.L y.r y.a y.c y.R V (Twain.below (Twain.below hy hB) hV))
  have HB := aside hB
  clear hy hF hB f0 p1 p2
  go_enter Try.func15, Try.ntmps15
  go_wp2_with fail
  rw [← hW]
  clear hW
  refine region_ext (by kernel_rfl) (by kernel_rfl) ?_
  repeat (any_goals (first
    | go_big_quiet_step ((go_at_call 35; exact calls_ext (S.out _ (below_ext _ _ _))))
    | quiet_step ((fail))))
  refine wpQuiet_nil ?_
  intro w1 hb1
  have HB1 := aside (below_tr HB.out hb1)
  clear hb1 q1 q2 q3
  go_wp2_with fail
  go_ret
  exact ⟨rfl, HB1.out⟩
end Go.Proofs.Ytoagjgcpgpjjeaa

namespace Go.Proofs.Ytoagjgcpgpjjeaa
open Go.RowKit
set_option linter.unusedVariables false
set_option linter.unusedSimpArgs false
attribute [local simp] lcells_nil readB_length bcells_length

/-- What both tables are, and the error beside them. -/
def Tabs (w : World) (v : Value) (e : Int) (l : List UInt8) : Prop := ∃ a c, v = .slice a l.length c ∧ BsAt w a l
theorem own_tel {w : World} {v : Value} {l : List UInt8} (h : w.ownsRow 0 5 1 v l.length (bcells l)) : ∃ a c, v = .slice a l.length c ∧ BsAt w a l := by
  rcases h.2 with ⟨rfl, hz⟩ | ⟨g, c, cur, rfl, -⟩
  · exact ⟨none, 0, by rw [hz], fun hl => absurd (List.length_eq_zero_iff.1 hz) hl⟩
  · exact ⟨some ⟨g, 0, none⟩, c, rfl, fun _ => ⟨_, rfl, fun j v hj => h.cells rfl j v hj⟩⟩

/-- The program's table: what is told. -/
theorem tableBoth (hb t fb m b sz : Nat) (lv : Value) (L : List Piece) (w : World) (hY : Way w hb t fb m) (hF : Fil w m b) (hR : Rep w b sz lv L) :
    Calls Try.prog 11 #[.pointer (some ⟨hb, 0, none⟩)] w fun e w' => ∃ a c, e = .returned (.tuple #[.slice a (if sz ≤ 4194304 then tab L sz else []).length c, .int .i64 (if sz ≤ 4194304 then 0 else 3)]) ∧ BsAt w' a (if sz ≤ 4194304 then tab L sz else []) ∧ Below w.heap.size w w' := by
  by_cases h : sz ≤ 4194304
  · simp only [if_pos h]
    refine (table_any hb t fb m b sz lv L w hY hF hR h).mono ?_
    rintro e w' ⟨v, rfl, ho, hb⟩
    obtain ⟨a, c, rfl, hbs⟩ := own_tel ho
    exact ⟨a, c, rfl, hbs, hb⟩
  · simp only [if_neg h]
    refine (table_long hb t fb m b sz lv L w hY hF hR (by omega)).mono ?_
    rintro e w' ⟨rfl, rfl⟩
    exact ⟨none, 0, rfl, fun h => absurd rfl h, Below.refl _ _⟩
theorem refTableBoth (F r nn N : Nat) (a : Option Addr) (c : Nat) (R : List RP) (w : World) (hF : RF w F r nn) (hR : RRep w r N a c R) :
    Calls Try.prog 12 #[.pointer (some ⟨F, 0, none⟩)] w fun e w' => ∃ a c, e = .returned (.tuple #[.slice a (if N ≤ 4194304 then tab (pls R) N else []).length c, .int .i64 (if N ≤ 4194304 then 0 else 3)]) ∧ BsAt w' a (if N ≤ 4194304 then tab (pls R) N else []) ∧ Below w.heap.size w w' := by
  by_cases h : N ≤ 4194304
  · simp only [if_pos h]
    refine (refTable_any F r nn N a c R w hF hR h).mono ?_
    rintro e w' ⟨v, rfl, ho, hb⟩
    obtain ⟨a, c, rfl, hbs⟩ := own_tel ho
    exact ⟨a, c, rfl, hbs, hb⟩
  · simp only [if_neg h]
    refine (refTable_long F r nn N a c R w hF hR (by omega)).mono ?_
    rintro e w' ⟨rfl, rfl⟩
    exact ⟨none, 0, rfl, fun h => absurd rfl h, Below.refl _ _⟩

set_option maxRecDepth 20000 in
set_option maxHeartbeats 4000000 in
theorem sumsTables_walk (ab : Option Addr) (lb : List UInt8) (cb : Nat) (f : Fm) (w : World) (hbs : BsAt w ab lb) (hlb : lb.length ≤ cb ∧ cb ≤ 140737488351232) (hf : f.At w) (hcan : f.can < 256) :
    Calls Try.prog 3 #[.slice ab lb.length cb, .agg f.cells] w fun e w' => e = .returned (.bool true) ∧ Below w.heap.size w w' := by
  obtain ⟨W, hW⟩ : ∃ W, W = (w.alloc (.cells f.cells 25)).alloc (.cells #[.slice f.a f.l.length f.c, .slice f.am f.ms.length f.cm, .int .u8 f.can, .slice ab lb.length cb, .slice none 0 0, .int .u8 0] 25) := ⟨_, rfl⟩
  have hB : Below w.heap.size w W := by rw [hW]; exact below_tr (below_al w _) (below_al _ _)
  have hm1 : W.heap[w.heap.size]? = some (.cells f.cells 25 (0, 0)) := by rw [hW]; exact heap_alloc_first w _ _ _ _
  have hm2 : W.heap[w.heap.size + 1]? = some (.cells #[.slice f.a f.l.length f.c, .slice f.am f.ms.length f.cm, .int .u8 f.can, .slice ab lb.length cb, .slice none 0 0, .int .u8 0] 25 (0, 0)) := by rw [hW]; exact heap_alloc2_new w _ _
  have hf2 : Fm.At ⟨ab, lb, cb, none, 0, [], 0⟩ W := ⟨hbs.below hB, hlb, ⟨fun h => absurd rfl h, by simp, by simp, by simp⟩⟩
  have HG := aside (great10_any (w.heap.size + 1) [f, ⟨ab, lb, cb, none, 0, [], 0⟩] W (fun g hg => by
    rcases List.mem_cons.1 hg with rfl | hg
    · exact hf.below hB
    · rw [List.mem_singleton] at hg; subst hg; exact hf2) (fun j g hg => by
    have hj := (List.getElem?_eq_some_iff.1 hg).1
    rcases (by simp at hj; omega : j = 0 ∨ j = 1) with rfl | rfl
    · obtain rfl : f = g := by simpa using hg
      exact ⟨by rw [cell_of_row W _ 0 _ _ _ hm2]; rfl, by rw [cell_of_row W _ 1 _ _ _ hm2]; rfl⟩
    · simp only [List.getElem?_cons_succ, List.getElem?_cons_zero, Option.some.injEq] at hg
      subst hg
      exact ⟨by rw [cell_of_row W _ 3 _ _ _ hm2]; rfl, by rw [cell_of_row W _ 4 _ _ _ hm2]; rfl⟩) (by simp) (by simp))
  have HK : Aside (∀ V, Below W.heap.size W V → V.cell? ⟨w.heap.size, 0, none⟩ = some (.slice f.a f.l.length f.c) ∧ V.cell? ⟨w.heap.size, 1, none⟩ = some (.slice f.am f.ms.length f.cm) ∧ V.cell? ⟨w.heap.size, 2, none⟩ = some (.int .u8 f.can)) := fun V hV => by
    have := (hV.block _ (Array.getElem?_eq_some_iff.1 hm1).1).trans hm1
    exact ⟨by rw [cell_of_row V _ 0 _ _ _ this]; rfl, by rw [cell_of_row V _ 1 _ _ _ this]; rfl, by rw [cell_of_row V _ 2 _ _ _ this]; rfl⟩
  have HF := aside (hf.below hB)
  have HBS := aside (hbs.below hB)
  have HB := aside hB
  have HWK := aside wakes10_any
  clear hf hB hm1 hm2 hbs hf2
  go_enter Try.func3, Try.ntmps3
  go_wp2_with fail
  rw [← hW]
  clear hW
  refine HG.out.mono ?_
  rintro e w1 ⟨⟨g, rfl, hg⟩, hb1⟩
  have HB1 := aside hb1
  cases g
  case true =>
    clear hg hb1
    go_wp2_with fail
    refine (HWK.out w1).mono ?_
    rintro e w2 ⟨rfl, hb⟩
    have HB2 := aside hb
    clear hb
    go_wp2
    go_ret
    exact ⟨rfl, below_tr (below_tr HB.out HB1.out) HB2.out⟩
  case false =>
    have htt : f.tot + lb.length ≤ 131072 := by have := hg rfl; simpa [tots, Fm.tot, lens] using this
    have htot : f.tot ≤ 131072 := by omega
    have hlb2 : lb.length ≤ 131072 := by omega
    obtain ⟨c0, c1, c2⟩ := HK.out w1 hb1
    have HM := aside (made10_any f w1 (HF.out.below hb1) htot hcan)
    have HBS1 := aside (HBS.out.below hb1)
    clear hg hb1 HG
    go_wp2_with fail
    refine HM.out.mono ?_
    rintro e w2 ⟨hb, t, fb, mm, F, nn, y, rfl, hWy, hFl, hyA, hRF, hb2⟩
    have HB2 := aside (below_tr (below_tr HB.out HB1.out) hb2)
    have HBS2 := aside (HBS1.out.below hb2)
    have HW2 := aside hWy
    have HFl := aside hFl
    have HYA := aside hyA
    have HRF := aside hRF
    clear hWy hFl hyA hRF hb2 HM c0 c1 c2 HB1 HBS1
    obtain ⟨tl, htl⟩ : ∃ tl, tl = (if y.N ≤ 4194304 then tab y.L y.N else []) := ⟨_, rfl⟩
    obtain ⟨er, her⟩ : ∃ er : Int, er = (if y.N ≤ 4194304 then 0 else 3) := ⟨_, rfl⟩
    have TB1 : Aside (∀ Z, Below w2.heap.size w2 Z → Calls Try.prog 11 #[.pointer (some ⟨hb, 0, none⟩)] Z fun e w' => ∃ a c, e = .returned (.tuple #[.slice a tl.length c, .int .i64 er]) ∧ BsAt w' a tl ∧ Below Z.heap.size Z w') := fun Z hZ => by
      have := tableBoth hb t fb mm y.s y.N y.lv y.L Z (HW2.out.below hZ).way (HFl.out.below hZ) (Twain.below HYA.out hZ).rep
      rwa [← htl, ← her] at this
    have TB2 : Aside (∀ Z, Below w2.heap.size w2 Z → Calls Try.prog 12 #[.pointer (some ⟨F, 0, none⟩)] Z fun e w' => ∃ a c, e = .returned (.tuple #[.slice a tl.length c, .int .i64 er]) ∧ BsAt w' a tl ∧ Below Z.heap.size Z w') := fun Z hZ => by
      have := refTableBoth F y.r nn y.N y.a y.c y.R Z (HRF.out.below hZ) (Twain.below HYA.out hZ).ref
      rwa [tab_ct HYA.out.same.symm, ← htl, ← her] at this
    have TB3 : Aside (∀ Z, Below w2.heap.size w2 Z → Calls Try.prog 15 #[.agg #[.pointer (some ⟨hb, 0, none⟩), .pointer (some ⟨y.s, 0, none⟩), .pointer (some ⟨F, 0, none⟩)]] Z fun e w' => e = .returned (.bool true) ∧ Below Z.heap.size Z w') := fun Z hZ => like_any hb F nn y Z (Twain.below HYA.out hZ) (HRF.out.below hZ)
    have hlt : tl.length ≤ 4611686018427387904 := by
      rw [htl]
      split
      · unfold tab; rw [tabk_length]; omega
      · simp
    clear htl her HW2 HFl HYA HRF
    have hA := below_al w2 (.cells #[.pointer (some ⟨hb, 0, none⟩), .pointer (some ⟨y.s, 0, none⟩), .pointer (some ⟨F, 0, none⟩)] 33)
    obtain ⟨V, hV⟩ : ∃ V, V = w2.alloc (.cells #[.pointer (some ⟨hb, 0, none⟩), .pointer (some ⟨y.s, 0, none⟩), .pointer (some ⟨F, 0, none⟩)] 33) := ⟨_, rfl⟩
    have hrow := heap_alloc_new w2 (.cells #[.pointer (some ⟨hb, 0, none⟩), .pointer (some ⟨y.s, 0, none⟩), .pointer (some ⟨F, 0, none⟩)] 33)
    rw [← hV] at hA hrow
    have HP : Aside (∀ Z, Below V.heap.size V Z → Z.cell? ⟨w2.heap.size, 0, none⟩ = some (.pointer (some ⟨hb, 0, none⟩)) ∧ Z.cell? ⟨w2.heap.size, 1, none⟩ = some (.pointer (some ⟨y.s, 0, none⟩)) ∧ Z.cell? ⟨w2.heap.size, 2, none⟩ = some (.pointer (some ⟨F, 0, none⟩))) := fun Z hZ => by
      have := (hZ.block _ (Array.getElem?_eq_some_iff.1 hrow).1).trans hrow
      exact ⟨by rw [cell_of_row Z _ 0 _ _ _ this]; rfl, by rw [cell_of_row Z _ 1 _ _ _ this]; rfl, by rw [cell_of_row Z _ 2 _ _ _ this]; rfl⟩
    have HAV := aside hA
    clear hA hrow
    have hA2 := below_al V (.cells #[] 5)
    have hes : V.heap.size = w2.heap.size + 1 := by rw [hV]; simp
    have hown := own_built (heap_alloc_new V (.cells #[] 5))
    have SR : SrcAt (V.alloc (.cells #[] 5)) (.slice ab lb.length cb) lb.length (bcells lb) := ⟨_, _, rfl, fun hp => (HBS2.out.below (below_tr HAV.out hA2)) (List.length_pos_iff.1 hp)⟩
    rw [hes] at hown
    rw [hV] at hown SR
    have HOWN := aside hown
    have HSR := aside SR
    have RM := aside (room_bytes (n := 0) (m := lb.length) (by omega))
    have hll := aside (show (bcells lb).length = lb.length * 1 by simp)
    have HA2 := aside hA2
    have HES := aside hes
    have HVE := aside hV
    clear hown SR hA2 hes hV
    go_wp2_with (at_builtin; refine wpList_append_any _ rfl _ _ 22 rfl 5 (.int .u8 0) 1 1 Try.underlying22 info5 rfl (by decide) (.slice (some ⟨w2.heap.size + 1, 0, none⟩) 0 0) 0 [] rfl HOWN.out _ lb.length (bcells lb) rfl hll.out HSR.out (bcells_one _) RM.out.1 RM.out.2 ?_)
    intro v3 w3 ho hu hv
    have hvn : v3.ownBlock ≠ none := by rcases hv with h | h <;> (rw [h]; simp [Value.ownBlock])
    obtain ⟨g3, c3, rfl, -⟩ := own_some ho hvn
    rw [← HVE.out] at hu
    have hes := HES.out
    have hb3 : Below V.heap.size V w3 := HA2.out.trans (hu.below (by simp) (fun q hq => by simp [Value.ownBlock] at hq; omega))
    have HBV3 := aside (below_tr HAV.out hb3)
    have HMINE := aside (bs_own ho)
    have HBS3 := aside (HBS2.out.below HBV3.out)
    have T1 := aside (TB1.out w3 HBV3.out)
    obtain ⟨p0, p1, p2⟩ := HP.out w3 hb3
    have HB3 := aside hb3
    clear ho hu hv hvn HSR HOWN RM hll HA2 hb3 HES hes HVE HBS2
    go_wp2_with fail
    refine T1.out.mono ?_
    rintro e w4 ⟨a4, c4, rfl, hb4s, hb4⟩
    have HX4 := aside hb4s
    have HBV4 := aside (below_tr HBV3.out hb4)
    have HB4 := aside (below_tr HB3.out hb4)
    have T2 := aside (TB2.out w4 HBV4.out)
    have HM4 := aside (HMINE.out.below hb4)
    have HBS4 := aside (HBS3.out.below hb4)
    obtain ⟨q0, q1, q2⟩ := HP.out w4 HB4.out
    clear hb4s hb4 T1 p0 p1 p2 HMINE HBS3 HBV3 HB3
    go_wp2_with fail
    refine T2.out.mono ?_
    rintro e w5 ⟨a5, c5, rfl, hb5s, hb5⟩
    have HX5 := aside (HX4.out.below hb5)
    have HY5 := aside hb5s
    have HBV5 := aside (below_tr HBV4.out hb5)
    have HB5 := aside (below_tr HB4.out hb5)
    have HM5 := aside (HM4.out.below hb5)
    have HBS5 := aside (HBS4.out.below hb5)
    obtain ⟨r0, r1, r2⟩ := HP.out w5 HB5.out
    clear hb5s hb5 T2 q0 q1 q2 HM4 HBS4 HBV4 HB4 HX4
    go_wp2_with fail
    refine (sum_any (some ⟨g3, 0, none⟩) lb c3 w5 HM5.out (by omega)).mono ?_
    rintro e w' ⟨rfl, rfl⟩
    have S2 := aside (sumRef_any ab lb cb w' HBS5.out (by omega))
    have z1 := str_all w' (some ⟨g3, 0, none⟩) lb c3 HM5.out
    have z2 := str_all w' ab lb cb HBS5.out
    have z3 := str_all w' a4 tl c4 HX5.out
    have z4 := str_all w' a5 tl c5 HY5.out
    have L1 := aside (TB3.out w' HBV5.out)
    have HBE := aside (below_tr HB2.out HBV5.out)
    generalize fnv0 lb = sm at *
    clear HX5 HY5 HM5 HBS5 TB1 TB2 TB3 HBV5 HB5 HB2
    go_wp2_with fail
    refine S2.out.mono ?_
    rintro e w' ⟨rfl, rfl⟩
    go_wp2_with fail
    refine L1.out.mono ?_
    rintro e w6 ⟨rfl, hb6⟩
    have HB6 := aside (below_tr HBE.out hb6)
    clear hb6
    go_wp2_with fail
    refine (HWK.out w6).mono ?_
    rintro e w7 ⟨rfl, hb7⟩
    have HB7 := aside hb7
    clear hb7
    go_wp2_with fail
    go_ret
    exact ⟨rfl, below_tr HB6.out HB7.out⟩
end Go.Proofs.Ytoagjgcpgpjjeaa
