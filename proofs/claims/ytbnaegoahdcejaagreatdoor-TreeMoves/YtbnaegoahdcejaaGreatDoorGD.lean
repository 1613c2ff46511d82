/- Files of memory that can all: New of any bytes, All, a handle's Size. A tree in memory: its entries, each with its node; what the calls of a node tell there. A tree in memory: the way up, how high things are, one entry more. maps.Clone, maps.Keys and slices.Sorted at a directory's map. What List tells of a directory of a tree: the names of what stands in it, rising. -/
import Derived.Test.YtbnaegoahdcejaaGreatDoorGC
import Derived.Test.YtbnaegoahdcejaaGreatDoorGA
import Derived.Test.YtbnaegoahdcejaaGreatDoorGB
import Derived.Test.YtbnaegoahdcejaaGreatDoorLay
namespace Go.Proofs.YtbnaegoahdcejaaGreatDoor
open Go.RowKit
open M (readB readB_length Rep Fil All15 Foot wpList_append_where wpList_min2)
attribute [local simp] M.lcells_nil M.readB_length bcells_length

/-- A handle that can all, over memory that holds l; whatever it reaches lies from lo on. -/
def Mf (lo : Nat) (w : World) (hb : Nat) (l : B) : Prop :=
  ∃ fb m b lv L, lo ≤ hb ∧ lo ≤ fb ∧ lo ≤ m ∧ (∀ k, Foot b lv L k → lo ≤ k) ∧ All15 w hb fb ⟨m, 0, none⟩ ∧ Fil w m b ∧ Rep w b l.length lv L ∧ readB L 0 l.length = l
/-- The types of what a leaf of a tree reaches. -/
abbrev LT : List TypeId := [172, 320, 231, 236, 323, 5, 91, 115, 200]
theorem Mf.ch {lo : Nat} {P : Obj → Prop} {w w' : World} {hb : Nat} {l : B} (h : Mf lo w hb l) (c : Ch lo P w w') (hP : ∀ T ∈ LT, ∀ cs f, ¬ P (.cells cs T f)) : Mf lo w' hb l := by
  obtain ⟨fb, m, b, lv, L, h1, h2, h3, h4, h5, h6, h7, h8⟩ := h
  refine ⟨fb, m, b, lv, L, h1, h2, h3, h4, ⟨c.keep h1 h5.han (hP _ (by simp [LT]) _ _), c.keep h2 h5.fil (hP _ (by simp [LT]) _ _)⟩, c.keep h3 h6 (hP _ (by simp [LT]) _ _), ⟨⟨c.keep (h4 b (.inl rfl)) h7.str.obj (hP _ (by simp [LT]) _ _), c.row h7.str.row (fun k hk => h4 k (.inr (.inl hk))) (hP _ (by simp [LT])), fun d hd => c.row (h7.str.data d hd) (fun k hk => h4 k (.inr (.inr ⟨d, hd, by simpa [M.Piece.dv, Value.ownBlock] using hk⟩))) (hP _ (by simp [LT])), h7.str.lne, h7.str.dne, h7.str.nd⟩, h7.inv⟩, h8⟩
theorem Mf.below {lo : Nat} {w w' : World} {hb : Nat} {l : B} (h : Mf lo w hb l) (c : Below w.heap.size w w') : Mf lo w' hb l := h.ch (P := fun _ => False) (Ch.of_below c) (fun _ _ _ _ h => h)

set_option maxHeartbeats 1000000 in
theorem putNone0 (b : Nat) (a : Option Addr) (c : Nat) (w : World) : Calls Tryz.prog 138 #[.pointer (some ⟨b, 0, none⟩), .int .i64 0, .slice a 0 c] w fun e w' => e = .returned (.int .i64 0) ∧ w' = w := by
  go_enter Tryz.func138, Tryz.ntmps138
  go_wp2
  go_ret
  exact ⟨rfl, rfl⟩
set_option maxHeartbeats 1000000 in
theorem newNone_any (a : Option Addr) (c : Nat) (w : World) (hc : c ≤ 9223372036854775807) :
    Calls Tryz.prog 115 #[.slice a 0 c] w fun e w' => e = .returned (.pointer (some ⟨w.heap.size, 0, none⟩)) ∧ w' = w.alloc (.cells #[.int .i64 0, .int .i64 0, .slice none 0 0] 236) := by
  have hcc : (0 : Int) ≤ (c : Int) := by omega
  go_enter Tryz.func115, Tryz.ntmps115
  go_wp2_with ((with_reducible refine wpList_min2 _ rfl _ _ _ rfl (0 : Int) 4194304 (0 : Int) ?_ ?_ (by decide) ?_); rfl; rfl)
  refine (putNone0 _ _ _ _).mono ?_
  rintro e w' ⟨rfl, rfl⟩
  go_wp2
  go_ret
  exact ⟨rfl, rfl⟩

set_option maxHeartbeats 1000000 in
theorem newW_any (src : Addr) (l : List UInt8) (c : Nat) (w : World) (h0 : 0 < l.length) (hlc : l.length ≤ c) (hc : c ≤ 9223372036854775807) (hsrc : ∀ j v, (bcells l)[j]? = some v → w.cell? (src.add j) = some v) :
    Calls Tryz.prog 115 #[.slice (some src) l.length c] w fun e w' => e = .returned (.pointer (some ⟨w.heap.size, 0, none⟩)) ∧ ∃ lv g cap, Rep w' w.heap.size (l.take 4194304).length lv [⟨0, g, cap, l.take 4194304⟩] ∧ Below w.heap.size w w' ∧ ∀ k, Foot w.heap.size lv [⟨0, g, cap, l.take 4194304⟩] k → w.heap.size ≤ k := by
  obtain ⟨m, hm⟩ : ∃ m, m = (l.take 4194304).length := ⟨_, rfl⟩
  have hm2 : m = min l.length 4194304 := by rw [hm, List.length_take]; omega
  have hmn : min (l.length : Int) 4194304 = (m : Int) := by omega
  have hA := below_al w (.cells #[.int .i64 0, .int .i64 0, .slice none 0 0] 236)
  have P1 := M.putEnd_any w.heap.size 0 (.slice none 0 0) [] 0 src (l.take 4194304) c (w.alloc (.cells #[.int .i64 0, .int .i64 0, .slice none 0 0] 236)) (M.rep_new w) (by simp) (by omega) (by omega) (by simp [M.heldOf]; omega)
    (fun j v hj => by
      have h2 : (bcells l)[j]? = some v := by
        have e : bcells (l.take 4194304) = (bcells l).take 4194304 := by simp [bcells, List.map_take]
        rw [e, List.getElem?_take] at hj
        split at hj
        · exact hj
        · cases hj
      exact (hA.cell (World.block_lt_of_cell? w _ (hsrc j v h2))).trans (hsrc j v h2))
  rw [← hm] at P1 ⊢
  have HP := aside P1
  have HMN := aside hmn
  have HA := aside hA
  have hmc : m ≤ c := by omega
  have hmi : (m : Int) ≤ (c : Int) := by omega
  clear P1 hmn hA hsrc hm hm2
  go_enter Tryz.func115, Tryz.ntmps115
  go_wp2_with ((with_reducible refine wpList_min2 _ rfl _ _ _ rfl (l.length : Int) 4194304 (m : Int) ?_ ?_ HMN.out ?_); rfl; rfl)
  refine HP.out.mono ?_
  rintro e w1 ⟨rfl, lv, g, cap, hR, hu, hg, hk⟩
  go_wp2
  go_ret
  refine ⟨rfl, lv, g, cap, ?_, ?_, ?_⟩
  · simpa using hR
  · refine HA.out.trans (hu.below (by simp) (fun k hk => ?_))
    rcases hk with e | e | ⟨d, hd, -⟩
    · omega
    · simp [Value.ownBlock] at e
    · simp at hd
  · intro k hk
    rw [World.size_alloc] at hg
    rcases hk with e | e | ⟨d, hd, e⟩
    · omega
    · rcases ‹lv.ownBlock = _ ∨ _› with e1 | ⟨j, e1, hj⟩
      · rw [e1] at e; simp [Value.ownBlock] at e
      · rw [e1] at e; injection e with e; rw [World.size_alloc] at hj; omega
    · rw [List.mem_singleton.1 hd] at e; simp only at e; omega

theorem byteAt_one (g cap : Nat) (l : B) (i : Nat) (h : i < l.length) : M.byteAt [⟨0, g, cap, l⟩] i = l[i] := by
  unfold M.byteAt
  rw [if_pos ⟨Nat.zero_le _, by simp [M.Piece.fin, h]⟩]
  simp [List.getD, h]
theorem readB_one (g cap : Nat) (l : B) : readB [⟨0, g, cap, l⟩] 0 l.length = l := by
  apply List.ext_getElem
  · simp
  · intro i h1 h2
    simp only [readB, List.getElem_map, List.getElem_range, Nat.zero_add]
    exact byteAt_one g cap l i h2

theorem spanNew_any (a : Option Addr) (l : B) (c : Nat) (w : World) (hl : l.length ≤ 4194304) (hlc : l.length ≤ c) (hc : c ≤ 9223372036854775807) (h : BsAt w a l) :
    Calls Tryz.prog 115 #[.slice a l.length c] w fun e w' => e = .returned (.pointer (some ⟨w.heap.size, 0, none⟩)) ∧ Below w.heap.size w w' ∧ ∃ lv L, Rep w' w.heap.size l.length lv L ∧ readB L 0 l.length = l ∧ ∀ k, Foot w.heap.size lv L k → w.heap.size ≤ k := by
  by_cases hn : l = []
  · subst hn
    refine (newNone_any a c w (by omega)).mono ?_
    rintro e w' ⟨rfl, rfl⟩
    exact ⟨rfl, below_al w _, _, [], M.rep_new w, rfl, fun k hk => by
      rcases hk with e | e | ⟨d, hd, -⟩
      · omega
      · simp [Value.ownBlock] at e
      · simp at hd⟩
  · obtain ⟨ad, rfl, hs⟩ := h hn
    refine (newW_any ad l c w (List.length_pos_iff.2 hn) hlc hc hs).mono ?_
    rintro e w' ⟨rfl, lv, g, cap, hR, hb, hf⟩
    rw [List.take_of_length_le hl] at hR hf
    exact ⟨rfl, hb, lv, _, hR, readB_one g cap l, hf⟩

set_option maxHeartbeats 1000000 in
theorem memNew_any (a : Option Addr) (l : B) (c : Nat) (w : World) (hl : l.length ≤ 4194304) (hlc : l.length ≤ c) (hc : c ≤ 9223372036854775807) (h : BsAt w a l) :
    Calls Tryz.prog 94 #[.slice a l.length c, .int .u8 15] w fun e w' => ∃ hb, e = .returned (.tuple #[Pt hb, .int .i64 0]) ∧ Mf w.heap.size w' hb l ∧ Below w.heap.size w w' := by
  have hn2 : ¬ (4194304 < (l.length : Int)) := by omega
  have HS := aside (spanNew_any a l c w hl hlc hc h)
  clear h
  go_enter Tryz.func94, Tryz.ntmps94
  go_wp2_with fail
  refine HS.out.mono ?_
  rintro e w1 ⟨rfl, hb1, lv, L, hR, hB, hF⟩
  have HB := aside hb1
  have HR := aside hR
  have HBb := aside hB
  have HF := aside hF
  clear hb1 hR hB hF
  go_wp2_with fail
  refine (M.of_all w.heap.size w1).mono ?_
  rintro e w2 ⟨hb, fb, m, rfl, k1, k2, k3, k4, k5, hb2⟩
  have HX : Aside (Mf w.heap.size w2 hb l) := ⟨fb, m, w.heap.size, lv, L, Nat.le_trans HB.out.size k1, Nat.le_trans HB.out.size k2, Nat.le_trans HB.out.size k3, HF.out, k4, k5, HR.out.below hb2, HBb.out⟩
  have HB2 := aside hb2
  clear hb2 k1 k2 k3 k4 k5
  go_wp2_with fail
  go_ret2
  exact ⟨hb, rfl, HX.out, below_tr HB.out HB2.out⟩

theorem readB_part {L : List M.Piece} {l : B} (h : readB L 0 l.length = l) (x k : Nat) (hx : x + k ≤ l.length) : readB L x k = (l.drop x).take k := by
  apply List.ext_getElem
  · simp; omega
  · intro i h1 h2
    simp only [readB, List.getElem_map, List.getElem_range, List.getElem_take, List.getElem_drop]
    have h3 : i < k := by simpa using h1
    have h4 : x + i < (readB L 0 l.length).length := by simp; omega
    have h5 : (readB L 0 l.length)[x + i]'h4 = l[x + i]'(by omega) := by simp only [h]
    rw [← h5]
    simp [readB]
theorem bc_cells {w : World} {b : Nat} {l : B} {f : Nat × Nat} (h : w.heap[b]? = some (.cells (bcells l).toArray 5 f)) : ∀ j v, (bcells l)[j]? = some v → w.cell? ((⟨b, 0, none⟩ : Addr).add j) = some v := fun j v hj => by
  rw [Addr.add_lit, Nat.zero_add, cell_of_row w b j _ _ _ h]; simpa using hj
theorem bc_app (l : B) (k n : Nat) : bcells (l.take k) ++ bcells ((l.drop k).take n) = bcells (l.take (k + n)) := by
  rw [List.take_add]; simp [bcells]

set_option maxRecDepth 20000 in
set_option maxHeartbeats 2000000 in
theorem mread_any (fb m b : Nat) (lv : Value) (L : List M.Piece) (l : B) (w : World) (hc0 : w.cell? ⟨fb, 0, none⟩ = some (M.I ⟨m, 0, none⟩)) (hF : Fil w m b) (hR : Rep w b l.length lv L) (hl : l.length ≤ 4194304) (hr : readB L 0 l.length = l) :
    Calls Tryz.prog 66 #[.iface 318 (Pt fb), .int .i64 l.length] w fun e w' => ∃ a c, e = .returned (.tuple #[.slice a l.length c, .int .i64 0]) ∧ w'.ownsRow 0 5 1 (.slice a l.length c) l.length (bcells l) ∧ (∀ k, (Value.slice a l.length c).ownBlock = some k → w.heap.size ≤ k) ∧ Below w.heap.size w w' := by
  have AF := aside hF
  have AR := aside hR
  have AB := aside hr
  have AC := aside hc0
  obtain ⟨sz, hsz⟩ : ∃ sz, sz = l.length := ⟨_, rfl⟩
  have ASz := aside hsz
  rw [← hsz] at hl ⊢
  clear hF hR hr hc0 hsz
  go_enter Tryz.func66, Tryz.ntmps66
  go_wp2_with fail
  go_loopg [6, 7, 8, 9] sz (fun g s6 _ _ _ wx => ∃ (k : Nat) (a : Option Addr) (c : Nat), k + g = sz ∧ s6 = .slice a k c ∧ Below w.heap.size w wx ∧ wx.ownsRow 0 5 1 (.slice a k c) k (bcells (l.take k)) ∧ ∀ j, (Value.slice a k c).ownBlock = some j → w.heap.size ≤ j)
  case atStart => exact ⟨0, none, 0, by omega, rfl, Below.refl _ _, World.ownsRow_nil _ _ _ _, fun j hj => by simp [Value.ownBlock] at hj⟩
  case round =>
    obtain ⟨k, a, c, hkg, rfl, hbl, hrow, hown⟩ := hrel
    have ABl := aside hbl
    have ARow := aside hrow
    have AOwn := aside hown
    clear hbl hrow hown
    by_cases hk : k < sz
    · have hk2 : (k : Int) < (sz : Int) := by omega
      obtain ⟨n, hn⟩ : ∃ n, n = min (sz - k) 65536 := ⟨_, rfl⟩
      have hsub : IntKind.i64.wrap ((sz : Int) - (k : Int)) = ((sz - k : Nat) : Int) := by rw [wrap_small _ (by omega) (by omega)]; omega
      obtain ⟨d, hd⟩ : ∃ d : Nat, d = sz - k := ⟨_, rfl⟩
      rw [← hd] at hsub hn
      have HM : Aside (min (d : Int) 65536 = (n : Int)) := by show min (d : Int) 65536 = (n : Int); omega
      have hm := M.meth15_ReadAt wr fb ⟨m, 0, none⟩ ((ABl.out.cell (World.block_lt_of_cell? w _ AC.out)).trans AC.out)
      have hRk : Rep wr b sz lv L := by rw [ASz.out]; exact AR.out.below ABl.out
      have AR1 := aside (M.fRead_any m b sz lv L k n wr (AF.out.below ABl.out) hRk hk (by omega) (by omega))
      have hn0 : 0 < n := by omega
      have hnk : k + n ≤ sz := by omega
      have hmk : n = min n (min 65536 (sz - k)) := by omega
      have AMK := aside hmk
      clear hmk hRk
      clear hd hn
      go_wp2_with ((with_reducible refine wpList_min2 _ rfl _ _ _ rfl (d : Int) 65536 (n : Int) ?_ ?_ HM.out ?_); rfl; rfl)
      refine AR1.out.mono ?_
      rintro e w1 ⟨k', hk', rfl, hnew, hb1⟩
      obtain rfl : n = k' := AMK.out.trans hk'.symm
      have hpart : readB L k n = (l.drop k).take n := readB_part AB.out k n (by rw [← ASz.out]; exact hnk)
      rw [hpart] at hnew
      have AB1 := aside hb1
      have HS := aside (bc_cells hnew)
      have HLL : Aside ((bcells ((l.drop k).take n)).length = n * 1) := by show (bcells ((l.drop k).take n)).length = n * 1; rw [bcells_length, List.length_take, List.length_drop, ← ASz.out]; omega
      have HRow1 : Aside (w1.ownsRow 0 5 1 (.slice a k c) k (bcells (l.take k))) := row_below ARow.out AB1.out
      have H63 : Aside (k + n ≤ maxLen) := by show k + n ≤ maxLen; unfold maxLen; omega
      have hby : (k + n) * 1 ≤ 140737488355328 := by omega
      have HM2 : Aside (min (n : Int) (n : Int) = (n : Int)) := by show min (n : Int) (n : Int) = (n : Int); omega
      clear hnew hb1 hk' hpart AMK
      go_wp2_with (first
        | ((with_reducible refine wpList_min2 _ rfl _ _ _ rfl (n : Int) (n : Int) (n : Int) ?_ ?_ HM2.out ?_); rfl; rfl)
        | (at_builtin; refine wpList_append_where _ rfl _ _ 48 rfl 5 (.int .u8 0) 1 1 Tryz.underlying48 info5 rfl (by decide) (.slice a k c) k (bcells (l.take k)) rfl HRow1.out _ n _ (bcells ((l.drop k).take n)) rfl HLL.out HS.out (bcells_one _) H63.out hby hn0 ?_; intro v' w2 ho hg hwh))
      rw [bc_app] at ho
      obtain ⟨a2, c2, rfl, -⟩ := row_form ho
      have hb2 : Below w.heap.size w w2 := (ABl.out.trans (AB1.out.mono ABl.out.size)).grown hg (Nat.le_trans ABl.out.size AB1.out.size) (fun j hj => AOwn.out j hj)
      have hown2 : ∀ j, (Value.slice a2 (k + n) c2).ownBlock = some j → w.heap.size ≤ j := fun j hj => by
        rcases hwh with ⟨e1, -⟩ | ⟨e1, -⟩
        · exact AOwn.out j (e1 ▸ hj)
        · rw [e1] at hj; injection hj with hj
          have := ABl.out.size; have := AB1.out.size; omega
      have AO := aside ho
      have AB2 := aside hb2
      have AW2 := aside hown2
      have hnn : ¬ ((n : Int) < (n : Int)) := by omega
      clear ho hb2 hown2 hg hwh
      go_wp2_with fail
      go_roundg (sz - (k + n))
      case measure => omega
      case rel => exact ⟨k + n, a2, c2, by omega, rfl, AB2.out, AO.out, AW2.out⟩
    · have hk2 : ¬ (k : Int) < (sz : Int) := by omega
      obtain rfl : k = sz := by omega
      go_wp2_with fail
      go_ret2
      refine ⟨a, c, rfl, ?_, AOwn.out, ABl.out⟩
      have := ARow.out
      rwa [List.take_of_length_le (by rw [← ASz.out]; exact Nat.le_refl _)] at this

set_option maxRecDepth 20000 in
set_option maxHeartbeats 1000000 in
theorem hfile_any (hb : Nat) (f : Value) (w : World) (hf : w.cell? ⟨hb, 5, none⟩ = some f) : Calls Tryz.prog 65 #[Pt hb] w fun e w' => e = .returned f ∧ w' = w := by
  go_enter Tryz.func65, Tryz.ntmps65
  go_wp2
  go_ret
  exact ⟨rfl, rfl⟩
set_option maxRecDepth 20000 in
set_option maxHeartbeats 1000000 in
/-- memory.All. -/
theorem mAll_any (lo hb : Nat) (l : B) (w : World) (h : Mf lo w hb l) (hl : l.length ≤ 4194304) :
    Calls Tryz.prog 31 #[Pt hb] w fun e w' => ∃ a c, e = .returned (.tuple #[.slice a l.length c, .int .i64 0]) ∧ w'.ownsRow 0 5 1 (.slice a l.length c) l.length (bcells l) ∧ (∀ k, (Value.slice a l.length c).ownBlock = some k → w.heap.size ≤ k) ∧ Below w.heap.size w w' := by
  obtain ⟨fb, m, b, lv, L, -, -, -, -, h5, h6, h7, h8⟩ := h
  have c5 := (M.han_cells h5.han).2.2.2.2.2
  have hc0 : w.cell? ⟨fb, 0, none⟩ = some (M.I ⟨m, 0, none⟩) := by rw [cell_of_row w fb _ _ _ _ h5.fil]; rfl
  have hm := M.meth15_Size w fb ⟨m, 0, none⟩ hc0
  have F1 := aside (hfile_any hb _ w c5)
  have F2 := aside (M.fSize_any m b l.length lv L w h6 h7)
  have F3 := aside (mread_any fb m b lv L l w hc0 h6 h7 hl h8)
  have h2 : ¬ ((4194304 : Int) < (l.length : Int)) := by omega
  have h3 : ¬ (4194304 < l.length) := by omega
  clear h5 h6 h7 h8 c5 hc0
  go_enter Tryz.func31, Tryz.ntmps31
  go_wp2_with fail
  refine F1.out.mono ?_
  rintro e w' ⟨rfl, rfl⟩
  go_wp2_with fail
  refine F2.out.mono ?_
  rintro e w' ⟨rfl, rfl⟩
  go_wp2_with fail
  refine F3.out.mono ?_
  rintro e w1 ⟨a, c, rfl, h4, h5, h6⟩
  go_wp2_with fail
  go_ret2
  exact ⟨a, c, rfl, h4, h5, h6⟩
end Go.Proofs.YtbnaegoahdcejaaGreatDoor

namespace Go.Proofs.YtbnaegoahdcejaaGreatDoor
open Go.RowKit Go.ChangeMaps

theorem any_no {l : B} : ∀ {cs : B}, ¬ (0 ≤ Lib.indexAny l cs) → ∀ c ∈ l, c ∉ cs := by
  induction l with
  | nil => intro cs _ c hc; simp at hc
  | cons b l ih =>
    intro cs h c hc
    unfold Lib.indexAny at h
    by_cases hb : cs.contains b
    · rw [if_pos hb] at h; omega
    · rw [if_neg hb] at h
      have hl : ¬ (0 ≤ Lib.indexAny l cs) := by
        intro h2
        have hne : (Lib.indexAny l cs == -1) = false := by rw [beq_eq_false_iff_ne]; omega
        rw [hne] at h
        simp only [Bool.false_eq_true, ↓reduceIte] at h
        omega
      rcases List.mem_cons.1 hc with rfl | hc
      · intro hm; exact hb (by simpa using hm)
      · exact ih hl c hc
theorem nok {n : B} (h : nameOk (ba n) = true) : n ≠ [] ∧ n.length ≤ 64 ∧ (47 : UInt8) ∉ n := by
  unfold nameOk at h
  simp only [Bool.and_eq_true, Bool.not_eq_true', decide_eq_true_eq, decide_eq_false_iff_not] at h
  obtain ⟨⟨⟨⟨h1, h2⟩, -⟩, -⟩, h5⟩ := h
  rw [Lib.toList_data, ba_list] at h1
  rw [ba_size] at h2
  rw [ba_list] at h5
  refine ⟨fun e => by simp [e] at h1, h2, fun hm => any_no h5 47 hm (by simp)⟩

/-- What is no directory, at its node. -/
def Lf (lo : Nat) (w : World) (e : En) : Prop :=
  lo ≤ e.nb ∧ e.x.length ≤ 4194304 ∧ ((e.k = 0 ∧ ∃ fb hb, lo ≤ fb ∧ Fl w e.nb fb hb ∧ Mf lo w hb e.x) ∨ (e.k = 2 ∧ ∃ lb, lo ≤ lb ∧ Lk w e.nb lb (ba e.x)) ∨ (e.k = 3 ∧ e.x = [] ∧ ∃ k, Nd w e.nb 111 k) ∨ (e.k = 4 ∧ e.x = [] ∧ ∃ k, Nd w e.nb 85 k))
def Saf (P : Obj → Prop) : Prop := ∀ T ∈ LT, ∀ cs f, ¬ P (.cells cs T f)
theorem saf_tob : Saf Tob := fun T hT cs f => Tob.no (by
  simp only [LT, List.mem_cons, List.not_mem_nil, or_false] at hT
  rcases hT with rfl | rfl | rfl | rfl | rfl | rfl | rfl | rfl | rfl <;> decide) cs f
theorem Nd.ch {lo : Nat} {P : Obj → Prop} {w w' : World} {nb k : Nat} {t : TypeId} (h : Nd w nb t k) (c : Ch lo P w w') (hl : lo ≤ nb) (hP : Saf P) : Nd w' nb t k := c.keep hl h (hP _ (by simp [LT]) _ _)
theorem Lf.ch {lo : Nat} {P : Obj → Prop} {w w' : World} {e : En} (h : Lf lo w e) (c : Ch lo P w w') (hP : Saf P) : Lf lo w' e := by
  obtain ⟨h1, h2, h⟩ := h
  refine ⟨h1, h2, ?_⟩
  rcases h with ⟨hk, fb, hb, h3, h4, h5⟩ | ⟨hk, lb, h3, h4⟩ | ⟨hk, hx, k, h3⟩ | ⟨hk, hx, k, h3⟩
  · exact .inl ⟨hk, fb, hb, h3, ⟨h4.nod.ch c h1 hP, c.keep h3 h4.fil (hP _ (by simp [LT]) _ _)⟩, h5.ch c hP⟩
  · exact .inr (.inl ⟨hk, lb, h3, ⟨h4.nod.ch c h1 hP, c.keep h3 h4.lnk (hP _ (by simp [LT]) _ _)⟩⟩)
  · exact .inr (.inr (.inl ⟨hk, hx, k, h3.ch c h1 hP⟩))
  · exact .inr (.inr (.inr ⟨hk, hx, k, h3.ch c h1 hP⟩))
theorem Lf.lo {lo l2 : Nat} {w : World} {e : En} (h : Lf lo w e) (hl : l2 ≤ lo) : Lf l2 w e := by
  obtain ⟨h1, h2, h⟩ := h
  refine ⟨Nat.le_trans hl h1, h2, ?_⟩
  rcases h with ⟨hk, fb, hb, h3, h4, h5⟩ | ⟨hk, lb, h3, h4⟩ | h | h
  · obtain ⟨fb', m, b, lv, L, g1, g2, g3, g4, g5⟩ := h5
    exact .inl ⟨hk, fb, hb, Nat.le_trans hl h3, h4, fb', m, b, lv, L, Nat.le_trans hl g1, Nat.le_trans hl g2, Nat.le_trans hl g3, fun k hk => Nat.le_trans hl (g4 k hk), g5⟩
  · exact .inr (.inl ⟨hk, lb, Nat.le_trans hl h3, h4⟩)
  · exact .inr (.inr (.inl h))
  · exact .inr (.inr (.inr h))
theorem Lf.nd {lo : Nat} {w : World} {e : En} (h : Lf lo w e) : ∃ t k, Nd w e.nb t k ∧ (t = 109 ∨ t = 85 ∨ t = 111 ∨ t = 110) := by
  obtain ⟨h1, h2, h⟩ := h
  rcases h with ⟨hk, fb, hb, h3, h4, h5⟩ | ⟨hk, lb, h3, h4⟩ | ⟨hk, hx, k, h3⟩ | ⟨hk, hx, k, h3⟩
  · exact ⟨_, _, h4.nod, .inl rfl⟩
  · exact ⟨_, _, h4.nod, .inr (.inr (.inr rfl))⟩
  · exact ⟨_, _, h3, .inr (.inr (.inl rfl))⟩
  · exact ⟨_, _, h3, .inr (.inl rfl)⟩
theorem Lf.kind {lo : Nat} {w : World} {e : En} (h : Lf lo w e) : Calls Tryz.prog 29 #[Pt e.nb] w fun r w' => r = .returned (.int .i8 (e.k : Int)) ∧ w' = w := by
  obtain ⟨h1, h2, h⟩ := h
  rcases h with ⟨hk, fb, hb, h3, h4, h5⟩ | ⟨hk, lb, h3, h4⟩ | ⟨hk, hx, k, h3⟩ | ⟨hk, hx, k, h3⟩
  · rw [hk]; exact kind_file _ _ w h4.nod
  · rw [hk]; exact kind_link _ _ w h4.nod
  · rw [hk]; exact kind_mount _ _ w h3
  · rw [hk]; exact kind_white _ _ w h3

/-- Where a directory stands. -/
def UpOf (S : List En) (d : En) (up : Value) : Prop := (d.p = [] ∧ up = .pointer none) ∨ (d.p ≠ [] ∧ ∃ c ∈ S, c.k = 1 ∧ c.p = d.p.dropLast ∧ up = Pt c.db)
/-- What a directory's map holds. -/
def Kids (S : List En) (p : List B) (L : List KV) : Prop := ∀ n v, lk L (ba n) = some v ↔ ∃ c ∈ S, c.p = p ++ [n] ∧ v = Pt c.nb
/-- A tree in memory. -/
structure Tr (lo : Nat) (w : World) (S : List En) : Prop where
  one : (S.map En.p).Nodup
  root : ∃ r ∈ S, r.p = [] ∧ r.k = 1
  par : ∀ e ∈ S, e.p ≠ [] → ∃ d ∈ S, d.p = e.p.dropLast ∧ d.k = 1
  nam : ∀ e ∈ S, ∀ n ∈ e.p, nameOk (ba n) = true
  dep : ∀ e ∈ S, e.p.length ≤ 64
  few : S.length ≤ 100000
  nbs : ∀ d ∈ S, ∀ c ∈ S, d.nb = c.nb → d = c
  dbs : ∀ d ∈ S, ∀ c ∈ S, d.k = 1 → c.k = 1 → d.db = c.db ∨ d.mb = c.mb → d = c
  dir : ∀ d ∈ S, d.k = 1 → lo ≤ d.nb ∧ lo ≤ d.db ∧ lo ≤ d.mb ∧ d.x = [] ∧ ∃ up L, Dr w d.nb d.db d.mb up L ∧ UpOf S d up ∧ Kids S d.p L
  lef : ∀ e ∈ S, e.k ≠ 1 → Lf lo w e
theorem Tr.closed {lo : Nat} {w : World} {S : List En} (h : Tr lo w S) : Closed S := fun e he hp => by obtain ⟨d, h1, h2, -⟩ := h.par e he hp; exact ⟨d, h1, h2⟩
theorem Tr.nostroke {lo : Nat} {w : World} {S : List En} (h : Tr lo w S) {e : En} (he : e ∈ S) : nostroke e.p := fun n hn => (nok (h.nam e he n hn)).2.2
theorem Tr.ch {lo : Nat} {P : Obj → Prop} {w w' : World} {S : List En} (h : Tr lo w S) (c : Ch lo P w w') (hP : Saf P) (hD : ∀ cs f, ¬ P (.cells cs 95 f)) (hM : ∀ es c, ¬ P (.map es c)) : Tr lo w' S := by
  refine ⟨h.one, h.root, h.par, h.nam, h.dep, h.few, h.nbs, h.dbs, fun d hd hk => ?_, fun e he hk => (h.lef e he hk).ch c hP⟩
  obtain ⟨h1, h2, h3, h4, up, L, h5, h6, h7⟩ := h.dir d hd hk
  obtain ⟨es, cl, m1, m2⟩ := h5.map
  exact ⟨h1, h2, h3, h4, up, L, ⟨h5.nod.ch c h1 hP, c.keep h2 h5.dir (hD _ _), es, cl, c.keep h3 m1 (hM _ _), m2⟩, h6, h7⟩
theorem Tr.below {lo : Nat} {w w' : World} {S : List En} (h : Tr lo w S) (c : Below w.heap.size w w') : Tr lo w' S := h.ch (P := fun _ => False) (Ch.of_below c) (fun _ _ _ _ h => h) (fun _ _ h => h) (fun _ _ h => h)
theorem Tr.lo {lo l2 : Nat} {w : World} {S : List En} (h : Tr lo w S) (hl : l2 ≤ lo) : Tr l2 w S := by
  refine ⟨h.one, h.root, h.par, h.nam, h.dep, h.few, h.nbs, h.dbs, fun d hd hk => ?_, fun e he hk => (h.lef e he hk).lo hl⟩
  obtain ⟨h1, h2, h3, h4⟩ := h.dir d hd hk
  exact ⟨Nat.le_trans hl h1, Nat.le_trans hl h2, Nat.le_trans hl h3, h4⟩
/-- Entries are one where their paths are. -/
theorem one_p {S : List En} (h : (S.map En.p).Nodup) {a b : En} (ha : a ∈ S) (hb : b ∈ S) (e : a.p = b.p) : a = b := by
  have h1 : S.Pairwise (fun a b => a.p ≠ b.p) := List.pairwise_map.1 h
  induction S with
  | nil => simp at ha
  | cons x S ih =>
    have h2 := List.pairwise_cons.1 h1
    have h3 : (S.map En.p).Nodup := (List.nodup_cons.1 (by simpa using h)).2
    rcases List.mem_cons.1 ha with rfl | ha'
    · rcases List.mem_cons.1 hb with rfl | hb
      · rfl
      · exact absurd e (h2.1 b hb)
    · clear ha
      rcases List.mem_cons.1 hb with rfl | hb
      · exact absurd e.symm (h2.1 a ‹a ∈ S›)
      · exact ih h3 ‹a ∈ S› hb h2.2

theorem Tr.kind {lo : Nat} {w : World} {S : List En} (h : Tr lo w S) {e : En} (he : e ∈ S) : Calls Tryz.prog 29 #[Pt e.nb] w fun r w' => r = .returned (.int .i8 (e.k : Int)) ∧ w' = w := by
  by_cases hk : e.k = 1
  · obtain ⟨-, -, -, -, up, L, h5, -, -⟩ := h.dir e he hk
    rw [hk]; exact kind_dir _ _ w h5.nod
  · exact (h.lef e he hk).kind
theorem Tr.nd {lo : Nat} {w : World} {S : List En} (h : Tr lo w S) {e : En} (he : e ∈ S) : ∃ t k, Nd w e.nb t k := by
  by_cases hk : e.k = 1
  · obtain ⟨-, -, -, -, up, L, h5, -, -⟩ := h.dir e he hk
    exact ⟨_, _, h5.nod⟩
  · obtain ⟨t, k, h1, -⟩ := (h.lef e he hk).nd
    exact ⟨t, k, h1⟩
theorem Tr.get_yes {lo : Nat} {w : World} {S : List En} (h : Tr lo w S) {d c : En} (hd : d ∈ S) (hk : d.k = 1) (hc : c ∈ S) {n : B} (hp : c.p = d.p ++ [n]) :
    Calls Tryz.prog 28 #[Pt d.nb, .string (ba n)] w fun r w' => r = .returned (.tuple #[Pt c.nb, .int .i64 0]) ∧ w' = w := by
  obtain ⟨-, -, -, -, up, L, h5, -, h7⟩ := h.dir d hd hk
  exact Go.Proofs.YtbnaegoahdcejaaGreatDoor.get_yes _ _ _ _ _ _ _ w h5 ((h7 n (Pt c.nb)).2 ⟨c, hc, hp, rfl⟩)
theorem Tr.get_no {lo : Nat} {w : World} {S : List En} (h : Tr lo w S) {d : En} (hd : d ∈ S) (hk : d.k = 1) {n : B} (hp : ∀ c ∈ S, c.p ≠ d.p ++ [n]) :
    Calls Tryz.prog 28 #[Pt d.nb, .string (ba n)] w fun r w' => r = .returned (.tuple #[.pointer none, .int .i64 192]) ∧ w' = w := by
  obtain ⟨-, -, -, -, up, L, h5, -, h7⟩ := h.dir d hd hk
  refine Go.Proofs.YtbnaegoahdcejaaGreatDoor.get_no _ _ _ _ _ _ w h5 ?_
  cases e : lk L (ba n) with
  | none => rfl
  | some v => obtain ⟨c, hc, hcp, -⟩ := (h7 n v).1 e; exact absurd hcp (hp c hc)
set_option maxRecDepth 20000 in
set_option maxHeartbeats 400000 in
theorem get_other (nb k : Nat) (t : TypeId) (name : ByteArray) (w : World) (h : Nd w nb t k) (ht : t = 109 ∨ t = 85 ∨ t = 111 ∨ t = 110) : Calls Tryz.prog 28 #[Pt nb, .string name] w fun e w' => e = .returned (.tuple #[.pointer none, .int .i64 193]) ∧ w' = w := by
  go_enter Tryz.func28, Tryz.ntmps28
  go_wp2_with fail
  refine (directory_other nb k t w h ht).mono ?_
  rintro e w' ⟨rfl, rfl⟩
  go_wp2
  go_ret2
  exact ⟨rfl, rfl⟩
theorem Tr.get_leaf {lo : Nat} {w : World} {S : List En} (h : Tr lo w S) {d : En} (hd : d ∈ S) (hk : d.k ≠ 1) (n : ByteArray) :
    Calls Tryz.prog 28 #[Pt d.nb, .string n] w fun r w' => r = .returned (.tuple #[.pointer none, .int .i64 193]) ∧ w' = w := by
  obtain ⟨t, k, h1, h2⟩ := (h.lef d hd hk).nd
  exact get_other _ _ _ _ w h1 h2
/-- The names of a directory's map are its kids', whatever the order. -/
theorem kids_perm {S : List En} {p : List B} {es : Array MapEntry} {cl : Nat} {L : List KV} (hE : Ents es cl L) (hK : Kids S p L) : (L.map fun q => q.1.data.toList).Nodup ∧ ∀ n, n ∈ (L.map fun q => q.1.data.toList) ↔ ∃ e ∈ S, e.p = p ++ [n] := by
  constructor
  · have h1 := hE.one
    have h2 : L.Pairwise (fun a b => a.1 ≠ b.1) := List.pairwise_map.1 h1
    refine List.pairwise_map.2 (h2.imp fun {a b} hab e => hab ?_)
    rw [← ba_of a.1, ← ba_of b.1, e]
  · intro n
    constructor
    · intro hm
      obtain ⟨q, hq, rfl⟩ := List.mem_map.1 hm
      have : ∃ v, lk L (ba q.1.data.toList) = some v := by
        rw [ba_of]
        cases e : lk L q.1 with
        | some v => exact ⟨v, rfl⟩
        | none => exact absurd rfl (lk_none_mem e q hq)
      obtain ⟨v, hv⟩ := this
      obtain ⟨c, hc, hp, -⟩ := (hK _ v).1 hv
      exact ⟨c, hc, hp⟩
    · rintro ⟨c, hc, hp⟩
      have := lk_mem ((hK n (Pt c.nb)).2 ⟨c, hc, hp, rfl⟩)
      exact List.mem_map.2 ⟨_, this, by simp [ba]⟩
theorem kids_len {S : List En} {p : List B} {es : Array MapEntry} {cl : Nat} {L : List KV} (hE : Ents es cl L) (hK : Kids S p L) (ho : (S.map En.p).Nodup) : L.length = (kidU S p).length := by
  obtain ⟨h1, h2⟩ := kids_perm hE hK
  have h3 : (L.map fun q => q.1.data.toList).Perm ((kidU S p).map En.nm) := by
    refine (List.perm_ext_iff_of_nodup h1 (kidU_nodup ho p)).2 fun n => ?_
    rw [h2 n, List.mem_map]
    constructor
    · rintro ⟨e, he, hp⟩
      exact ⟨e, mem_kidU.2 ⟨he, by rw [En.nm_of hp]; exact hp⟩, En.nm_of hp⟩
    · rintro ⟨e, he, rfl⟩
      exact ⟨e, (mem_kidU.1 he).1, (mem_kidU.1 he).2⟩
  have := h3.length_eq
  simpa using this
end Go.Proofs.YtbnaegoahdcejaaGreatDoor

namespace Go.Proofs.YtbnaegoahdcejaaGreatDoor
open Go.RowKit Go.ChangeMaps

/-- How high what stands at p is. -/
def hgt (S : List En) (p : List B) : Nat := S.foldr (fun e a => if p.isPrefixOf e.p then max (e.p.length - p.length) a else a) 0
theorem hgt_le {S : List En} {p : List B} {e : En} (he : e ∈ S) (hp : p <+: e.p) : e.p.length ≤ p.length + hgt S p := by
  induction S with
  | nil => simp at he
  | cons a S ih =>
    unfold hgt
    rw [List.foldr_cons]
    rcases List.mem_cons.1 he with rfl | he
    · rw [if_pos (List.isPrefixOf_iff_prefix.2 hp)]; omega
    · have := ih he
      unfold hgt at this
      split <;> omega
theorem hgt_is (S : List En) (p : List B) : hgt S p = 0 ∨ ∃ e ∈ S, p <+: e.p ∧ e.p.length = p.length + hgt S p := by
  induction S with
  | nil => exact .inl rfl
  | cons a S ih =>
    have hc : hgt (a :: S) p = if p.isPrefixOf a.p then max (a.p.length - p.length) (hgt S p) else hgt S p := rfl
    rw [hc]
    by_cases hp : p.isPrefixOf a.p
    · rw [if_pos hp]
      have hp' := List.isPrefixOf_iff_prefix.1 hp
      have hl := hp'.length_le
      by_cases hm : hgt S p ≤ a.p.length - p.length
      · exact .inr ⟨a, by simp, hp', by omega⟩
      · rw [Nat.max_eq_right (by omega)]
        rcases ih with h0 | ⟨e, he, h1, h2⟩
        · omega
        · exact .inr ⟨e, by simp [he], h1, h2⟩
    · rw [if_neg hp]
      rcases ih with h0 | ⟨e, he, h1, h2⟩
      · exact .inl h0
      · exact .inr ⟨e, by simp [he], h1, h2⟩
theorem hgt_eq {S : List En} {p : List B} {h : Nat} (h1 : ∀ e ∈ S, p <+: e.p → e.p.length ≤ p.length + h) (h2 : h = 0 ∨ ∃ e ∈ S, p <+: e.p ∧ e.p.length = p.length + h) : h = hgt S p := by
  apply Nat.le_antisymm
  · rcases h2 with rfl | ⟨e, he, hp, hl⟩
    · exact Nat.zero_le _
    · have := hgt_le he hp; omega
  · rcases hgt_is S p with h0 | ⟨e, he, hp, hl⟩
    · omega
    · have := h1 e he hp; omega
theorem pre_drop {p q : List B} (h : p <+: q) (hn : p ≠ q) : p <+: q.dropLast := by
  obtain ⟨r, rfl⟩ := h
  have hr : r ≠ [] := fun e => hn (by simp [e])
  rw [List.dropLast_append_of_ne_nil hr]
  exact List.prefix_append _ _
/-- What stands on the way to an entry. -/
theorem Tr.anc {lo : Nat} {w : World} {S : List En} (h : Tr lo w S) {p : List B} : ∀ n (x : En), x ∈ S → x.p.length = p.length + n → p <+: x.p → ∃ c ∈ S, c.p = p ∧ (n ≠ 0 → c.k = 1) := by
  intro n
  induction n with
  | zero =>
    intro x hx hl hp
    exact ⟨x, hx, (hp.eq_of_length (by omega)).symm, fun h => absurd rfl h⟩
  | succ n ih =>
    intro x hx hl hp
    have hne : x.p ≠ [] := fun e => by rw [e] at hl; simp at hl
    obtain ⟨d, hd, hdp, hdk⟩ := h.par x hx hne
    have hpd : p <+: d.p := by rw [hdp]; exact pre_drop hp (fun e => by rw [← e] at hl; omega)
    have hdl : d.p.length = p.length + n := by rw [hdp, List.length_dropLast]; omega
    obtain ⟨c, hc, hcp, hck⟩ := ih d hd hdl hpd
    refine ⟨c, hc, hcp, fun _ => ?_⟩
    by_cases hn : n = 0
    · subst hn
      have : d.p = c.p := by rw [hcp]; exact (hpd.eq_of_length (by omega)).symm
      rw [← one_p h.one hd hc this]; exact hdk
    · exact hck hn
theorem Tr.way {lo : Nat} {w : World} {S : List En} (h : Tr lo w S) : ∀ n (d : En), d.p.length = n → d ∈ S → d.k = 1 →
    ∃ up L l, Dr w d.nb d.db d.mb up L ∧ Kids S d.p L ∧ UpOf S d up ∧ Up w up l ∧ l.length = n ∧ (∀ x ∈ l, ∃ c ∈ S, c.k = 1 ∧ x = c.db ∧ c.p <+: d.p ∧ c.p ≠ d.p) ∧ (∀ c ∈ S, c.k = 1 → c.p <+: d.p → c.p ≠ d.p → c.db ∈ l) := by
  intro n
  induction n with
  | zero =>
    intro d hl hd hk
    have hp := List.eq_nil_of_length_eq_zero hl
    obtain ⟨-, -, -, -, up, L, h5, h6, h7⟩ := h.dir d hd hk
    rcases h6 with ⟨-, rfl⟩ | ⟨h0, -⟩
    · exact ⟨_, L, [], h5, h7, .inl ⟨hp, rfl⟩, Up.nil, rfl, fun x hx => by simp at hx, fun c _ _ hc hn => absurd (by rw [hp] at hc ⊢; exact List.prefix_nil.1 hc) hn⟩
    · exact absurd hp h0
  | succ n ih =>
    intro d hl hd hk
    obtain ⟨-, -, -, -, up, L, h5, h6, h7⟩ := h.dir d hd hk
    have h6' := h6
    rcases h6 with ⟨h0, -⟩ | ⟨h0, c, hc, hck, hcp, rfl⟩
    · rw [h0] at hl; simp at hl
    · obtain ⟨up', L', l, g1, g2, g3, g4, g5, g6, g7⟩ := ih c (by rw [hcp, List.length_dropLast]; omega) hc hck
      have hpre : c.p <+: d.p := by rw [hcp]; exact List.dropLast_prefix _
      have hcn : c.p ≠ d.p := fun e => by have := congrArg List.length e; rw [hcp, List.length_dropLast] at this; omega
      refine ⟨_, L, c.db :: l, h5, h7, h6', Up.dir g1 g4, by simp [g5], fun x hx => ?_, fun e he hek hep hen => ?_⟩
      · rcases List.mem_cons.1 hx with rfl | hx
        · exact ⟨c, hc, hck, rfl, hpre, hcn⟩
        · obtain ⟨y, hy, h1, h2, h3, h4⟩ := g6 x hx
          refine ⟨y, hy, h1, h2, h3.trans hpre, fun e => ?_⟩
          have := h3.length_le
          rw [e, hcp, List.length_dropLast] at this
          omega
      · by_cases hec : e.p = c.p
        · rw [one_p h.one he hc hec]; simp
        · exact List.mem_cons_of_mem _ (g7 e he hek (by rw [hcp]; exact pre_drop hep hen) hec)
theorem lk_of_mem {L : List KV} (hn : (L.map (·.1)).Nodup) {q : KV} (hq : q ∈ L) : lk L q.1 = some q.2 := by
  induction L with
  | nil => simp at hq
  | cons a L ih =>
    have h2 := List.nodup_cons.1 (show (a.1 :: L.map (·.1)).Nodup from hn)
    unfold lk
    rcases List.mem_cons.1 hq with rfl | hq
    · rw [if_pos rfl]
    · rw [if_neg (fun e : q.1 = a.1 => h2.1 (e ▸ List.mem_map.2 ⟨q, hq, rfl⟩))]
      exact ih h2.2 hq
theorem Kids.of_mem {S : List En} {p : List B} {es : Array MapEntry} {cl : Nat} {L : List KV} (hK : Kids S p L) (hE : Ents es cl L) {q : KV} (hq : q ∈ L) : ∃ c ∈ S, c.p = p ++ [q.1.data.toList] ∧ q.2 = Pt c.nb :=
  (hK q.1.data.toList q.2).1 (by rw [ba_of]; exact lk_of_mem hE.one hq)
theorem top_is (f : Value → Nat) : ∀ L : List KV, top f L = 0 ∨ ∃ q ∈ L, top f L = f q.2 + 1
  | [] => .inl rfl
  | q :: L => by
    have e : top f (q :: L) = max (f q.2 + 1) (top f L) := rfl
    rw [e]
    by_cases h : top f L ≤ f q.2 + 1
    · exact .inr ⟨q, by simp, by omega⟩
    · rcases top_is f L with h0 | ⟨x, hx, h1⟩
      · omega
      · exact .inr ⟨x, by simp [hx], by omega⟩
theorem Tr.hgt64 {lo : Nat} {w : World} {S : List En} (h : Tr lo w S) (p : List B) : hgt S p ≤ 64 := by
  rcases hgt_is S p with h0 | ⟨e, he, -, hl⟩
  · omega
  · have := h.dep e he; omega
theorem Tr.ht {lo : Nat} {w : World} {S : List En} (h : Tr lo w S) : ∀ n (e : En), e ∈ S → 64 ≤ e.p.length + n → Ht w (Pt e.nb) (hgt S e.p) := by
  intro n
  induction n with
  | zero =>
    intro e he hn
    have hz : hgt S e.p = 0 := by
      rcases hgt_is S e.p with h0 | ⟨x, hx, -, hl⟩
      · exact h0
      · have := h.dep x hx; omega
    rw [hz]
    by_cases hk : e.k = 1
    · obtain ⟨-, -, -, -, up, L, h5, -, h7⟩ := h.dir e he hk
      obtain ⟨es, cl, -, hE⟩ := h5.map
      have hL : L = [] := by
        cases L with
        | nil => rfl
        | cons q L =>
          obtain ⟨c, hc, hcp, -⟩ := h7.of_mem hE (q := q) (by simp)
          have := h.dep c hc
          rw [hcp, List.length_append] at this
          simp at this
          omega
      subst hL
      exact ht_dir _ _ _ _ [] (fun _ => 0) w h5 (fun p hp => by simp at hp)
    · obtain ⟨t, k, h1, h2⟩ := (h.lef e he hk).nd
      exact ht_other _ _ _ w h1 h2
  | succ n ih =>
    intro e he hn
    by_cases hk : e.k = 1
    · obtain ⟨-, -, -, -, up, L, h5, -, h7⟩ := h.dir e he hk
      obtain ⟨es, cl, -, hE⟩ := h5.map
      obtain ⟨f, hf⟩ : ∃ f : Value → Nat, ∀ c ∈ S, f (Pt c.nb) = hgt S c.p := by
        refine ⟨fun v => open Classical in if hx : ∃ c ∈ S, v = Pt c.nb then hgt S hx.choose.p else 0, fun c hc => ?_⟩
        have hx : ∃ d ∈ S, Pt c.nb = Pt d.nb := ⟨c, hc, rfl⟩
        simp only [dif_pos hx]
        obtain ⟨h1, h2⟩ := hx.choose_spec
        have h3 : hx.choose.nb = c.nb := by injection h2 with h2; injection h2 with h2; injection h2 with h2; exact h2.symm
        rw [h.nbs _ h1 c hc h3]
      have hT := ht_dir _ _ _ _ L f w h5 (fun q hq => by
        obtain ⟨c, hc, hcp, hv⟩ := h7.of_mem hE hq
        rw [hv, hf c hc]
        exact ⟨ih c hc (by rw [hcp, List.length_append]; simp; omega), by have := h.hgt64 c.p; omega⟩)
      have : top f L = hgt S e.p := by
        refine hgt_eq (fun x hx hp => ?_) ?_
        · obtain ⟨r, hr⟩ := hp
          cases r with
          | nil => rw [← hr]; simp
          | cons m r =>
            obtain ⟨c, hc, hcp, -⟩ := h.anc (p := e.p ++ [m]) r.length x hx (by rw [← hr]; simp; omega) ⟨r, by rw [← hr]; simp⟩
            have h1 := lk_mem ((h7 m (Pt c.nb)).2 ⟨c, hc, hcp, rfl⟩)
            have h2 := le_top (f := f) h1
            rw [hf c hc] at h2
            have h3 := hgt_le hx (p := c.p) ⟨r, by rw [hcp, ← hr]; simp⟩
            have h4 : c.p.length = e.p.length + 1 := by rw [hcp]; simp
            omega
        · rcases top_is f L with h0 | ⟨q, hq, hq2⟩
          · exact .inl h0
          · obtain ⟨c, hc, hcp, hv⟩ := h7.of_mem hE hq
            rw [hv, hf c hc] at hq2
            have h4 : c.p.length = e.p.length + 1 := by rw [hcp]; simp
            rcases hgt_is S c.p with h0 | ⟨x, hx, h1, h2⟩
            · exact .inr ⟨c, hc, ⟨_, hcp.symm⟩, by omega⟩
            · exact .inr ⟨x, hx, List.IsPrefix.trans ⟨_, hcp.symm⟩ h1, by omega⟩
      rw [← this]
      exact hT
    · obtain ⟨t, k, h1, h2⟩ := (h.lef e he hk).nd
      have hz : hgt S e.p = 0 := by
        rcases hgt_is S e.p with h0 | ⟨x, hx, hp, hl⟩
        · exact h0
        · by_cases h0 : hgt S e.p = 0
          · exact h0
          · obtain ⟨c, hc, hcp, hck⟩ := h.anc _ x hx hl hp
            exact absurd (one_p h.one hc he hcp ▸ hck h0) hk
      rw [hz]
      exact ht_other _ _ _ w h1 h2
theorem lk_app {L : List KV} {q : KV} {s : ByteArray} : lk (L ++ [q]) s = match lk L s with | some v => some v | none => if s = q.1 then some q.2 else none := by
  induction L with
  | nil => simp [lk]
  | cons a L ih =>
    simp only [List.cons_append, lk]
    by_cases h : s = a.1
    · simp [h]
    · simp only [if_neg h, ih]
theorem snoc_inj {p q : List B} {a b : B} (h : p ++ [a] = q ++ [b]) : p = q ∧ a = b := by
  have := List.append_inj' h rfl
  exact ⟨this.1, by simpa using this.2⟩
theorem UpOf.mono {S : List En} {d e : En} {up : Value} (h : UpOf S d up) : UpOf (S ++ [e]) d up := by
  rcases h with h | ⟨h0, c, hc, h1⟩
  · exact .inl h
  · exact .inr ⟨h0, c, by simp [hc], h1⟩
/-- One entry more. -/
theorem Tr.add {lo : Nat} {w w' : World} {S : List En} (h : Tr lo w S) {d e : En} {n : B} (hd : d ∈ S) (hk : d.k = 1) (he : e.p = d.p ++ [n]) (hn : nameOk (ba n) = true) (hdep : e.p.length ≤ 64) (hfew : S.length + 1 ≤ 100000)
    (hnew : ∀ c ∈ S, c.p ≠ e.p) (hnb : ∀ c ∈ S, c.nb ≠ e.nb) (hdb : e.k = 1 → ∀ c ∈ S, c.k = 1 → c.db ≠ e.db ∧ c.mb ≠ e.mb) (hLf : e.k ≠ 1 → Lf lo w' e)
    (hDe : e.k = 1 → lo ≤ e.nb ∧ lo ≤ e.db ∧ lo ≤ e.mb ∧ e.x = [] ∧ Dr w' e.nb e.db e.mb (Pt d.db) [])
    (hDd : ∃ up L, Kids S d.p L ∧ UpOf S d up ∧ Dr w' d.nb d.db d.mb up (L ++ [(ba n, Pt e.nb)]))
    (hoth : ∀ c ∈ S, c.k = 1 → c ≠ d → ∀ up L, Dr w c.nb c.db c.mb up L → Dr w' c.nb c.db c.mb up L) (hlf : ∀ c ∈ S, c.k ≠ 1 → Lf lo w' c) : Tr lo w' (S ++ [e]) := by
  have hpd : ∀ c : En, ∀ m, e.p = c.p ++ [m] → c.p = d.p ∧ m = n := fun c m hc => by
    rw [he] at hc
    have := snoc_inj hc
    exact ⟨this.1.symm, this.2.symm⟩
  refine ⟨?_, ?_, ?_, ?_, ?_, by simpa using hfew, ?_, ?_, ?_, ?_⟩
  · rw [List.map_append]
    refine List.nodup_append.2 ⟨h.one, by simp, fun a ha b hb e1 => ?_⟩
    obtain ⟨c, hc, rfl⟩ := List.mem_map.1 ha
    simp only [List.map_cons, List.map_nil, List.mem_singleton] at hb
    exact hnew c hc (e1.trans hb)
  · obtain ⟨r, hr, h1⟩ := h.root
    exact ⟨r, by simp [hr], h1⟩
  · intro x hx hp
    rcases List.mem_append.1 hx with hx | hx
    · obtain ⟨y, hy, h1⟩ := h.par x hx hp
      exact ⟨y, by simp [hy], h1⟩
    · rw [List.mem_singleton.1 hx]
      exact ⟨d, by simp [hd], by rw [he]; simp, hk⟩
  · intro x hx m hm
    rcases List.mem_append.1 hx with hx | hx
    · exact h.nam x hx m hm
    · rw [List.mem_singleton.1 hx, he] at hm
      rcases List.mem_append.1 hm with hm | hm
      · exact h.nam d hd m hm
      · rw [List.mem_singleton.1 hm]; exact hn
  · intro x hx
    rcases List.mem_append.1 hx with hx | hx
    · exact h.dep x hx
    · rw [List.mem_singleton.1 hx]; exact hdep
  · intro a ha b hb hab
    rcases List.mem_append.1 ha with ha | ha
    · rcases List.mem_append.1 hb with hb | hb
      · exact h.nbs a ha b hb hab
      · rw [List.mem_singleton.1 hb] at hab; exact absurd hab (hnb a ha)
    · rcases List.mem_append.1 hb with hb | hb
      · rw [List.mem_singleton.1 ha] at hab; exact absurd hab.symm (hnb b hb)
      · rw [List.mem_singleton.1 ha, List.mem_singleton.1 hb]
  · intro a ha b hb ka kb hab
    rcases List.mem_append.1 ha with ha | ha
    · rcases List.mem_append.1 hb with hb | hb
      · exact h.dbs a ha b hb ka kb hab
      · rw [List.mem_singleton.1 hb] at hab kb
        have := hdb kb a ha ka
        rcases hab with e1 | e1
        · exact absurd e1 this.1
        · exact absurd e1 this.2
    · rcases List.mem_append.1 hb with hb | hb
      · rw [List.mem_singleton.1 ha] at hab ka
        have := hdb ka b hb kb
        rcases hab with e1 | e1
        · exact absurd e1.symm this.1
        · exact absurd e1.symm this.2
      · rw [List.mem_singleton.1 ha, List.mem_singleton.1 hb]
  · intro x hx xk
    rcases List.mem_append.1 hx with hx | hx
    · obtain ⟨g1, g2, g3, g4, up, L, g5, g6, g7⟩ := h.dir x hx xk
      refine ⟨g1, g2, g3, g4, ?_⟩
      by_cases hxd : x = d
      · subst hxd
        obtain ⟨up', L', k1, k2, k3⟩ := hDd
        refine ⟨up', _, k3, k2.mono, fun m v => ?_⟩
        rw [lk_app]
        cases e1 : lk L' (ba m) with
        | some u =>
          obtain ⟨c, hc, hcp, hv⟩ := (k1 m u).1 e1
          simp only [Option.some.injEq]
          constructor
          · rintro rfl
            exact ⟨c, by simp [hc], hcp, hv⟩
          · rintro ⟨c2, hc2, hcp2, rfl⟩
            rcases List.mem_append.1 hc2 with hc2 | hc2
            · rw [hv, one_p h.one hc hc2 (by rw [hcp, hcp2])]
            · rw [List.mem_singleton.1 hc2] at hcp2
              exact absurd (by rw [hcp, ← hcp2]) (hnew c hc)
        | none =>
          have hno : ∀ c ∈ S, c.p ≠ x.p ++ [m] := fun c hc hcp => by
            have := (k1 m (Pt c.nb)).2 ⟨c, hc, hcp, rfl⟩
            rw [e1] at this
            cases this
          by_cases hm : ba m = ba n
          · have hm' := ba_inj hm
            simp only [if_pos hm, Option.some.injEq]
            constructor
            · rintro rfl
              exact ⟨e, by simp, by rw [he, hm'], rfl⟩
            · rintro ⟨c2, hc2, hcp2, rfl⟩
              rcases List.mem_append.1 hc2 with hc2 | hc2
              · exact absurd hcp2 (hno c2 hc2)
              · rw [List.mem_singleton.1 hc2]
          · simp only [if_neg hm]
            constructor
            · intro hv; cases hv
            · rintro ⟨c2, hc2, hcp2, rfl⟩
              rcases List.mem_append.1 hc2 with hc2 | hc2
              · exact absurd hcp2 (hno c2 hc2)
              · rw [List.mem_singleton.1 hc2] at hcp2
                exact absurd (by rw [(hpd x m hcp2).2]) hm
      · refine ⟨up, L, hoth x hx xk hxd up L g5, g6.mono, fun m v => (g7 m v).trans ?_⟩
        constructor
        · rintro ⟨c, hc, h1⟩
          exact ⟨c, by simp [hc], h1⟩
        · rintro ⟨c, hc, h1, h2⟩
          rcases List.mem_append.1 hc with hc | hc
          · exact ⟨c, hc, h1, h2⟩
          · rw [List.mem_singleton.1 hc] at h1
            exact absurd (one_p h.one hx hd (hpd x m h1).1) hxd
    · rw [List.mem_singleton.1 hx] at xk ⊢
      obtain ⟨g1, g2, g3, g4, g5⟩ := hDe xk
      refine ⟨g1, g2, g3, g4, _, [], g5, .inr ⟨by rw [he]; simp, d, by simp [hd], hk, by rw [he]; simp, rfl⟩, fun m v => ⟨fun hv => by simp [lk] at hv, ?_⟩⟩
      rintro ⟨c, hc, h1, -⟩
      rcases List.mem_append.1 hc with hc | hc
      · obtain ⟨y, hy, hyp, -⟩ := h.par c hc (by rw [h1]; simp)
        rw [h1, List.dropLast_concat] at hyp
        exact absurd hyp (hnew y hy)
      · rw [List.mem_singleton.1 hc] at h1
        have := congrArg List.length h1
        simp at this
  · intro x hx xk
    rcases List.mem_append.1 hx with hx | hx
    · exact hlf x hx xk
    · rw [List.mem_singleton.1 hx] at xk ⊢
      exact hLf xk
end Go.Proofs.YtbnaegoahdcejaaGreatDoor

namespace Go.Proofs.YtbnaegoahdcejaaGreatDoor
open Go.RowKit Go.Maps Go.Sort Go.Shelf
open Go.WideElems (Fit rd rg rg_of)

theorem keys_any (mb : Option Nat) (W : World) : Calls Tryz.prog 105 #[.map mb] W fun e w' => e = .returned (.func (.func 122) #[] #[.pointer (some ⟨W.heap.size, 0, none⟩)]) ∧ w' = W.alloc (.cells #[.map mb] 93) :=
  (callsIn_wide (n := 5)).1 (AnyZ.keys_in laysKeys Fence.wide 5 trivial rfl mb W)

theorem sortsAt (m : Nat) : AnyZ.SortsIn Tryz.prog laysSorted_ren Fence.wide m :=
  ⟨fun blk off cap ss W hH hblk hsz => callsIn_wide.2 (AnyM.slices_Sort_string laysSort blk off cap ss W hH hblk hsz),
   fun p cap W => callsIn_wide.2 (AnyM.slices_Sort_string_none laysSort p cap W)⟩

set_option maxHeartbeats 1000000 in
theorem sorted_of {H : Type} (b nn : Nat) (D0 : DataW H) (R : Value → Option (DataW H × List MemPlace)) (w : World) (hown : w.ownsMap Tryz.prog 9 R b nn D0) (hmax : Maps.size D0 ≤ maxLen) (hbytes : Maps.size D0 * 16 ≤ 140737488355328) :
    Calls Tryz.prog 104 #[.func (.func 122) #[] #[.pointer (some ⟨w.heap.size, 0, none⟩)]] (w.alloc (.cells #[.map (some b)] 93)) fun e w' => ∃ (v : Value) (ss : List (List UInt8)), e = .returned v ∧ ss.Perm (strKeys D0) ∧
      w'.ownsRow (w.alloc (.cells #[.map (some b)] 93)).heap.size 9 1 v ss.length ((ss.mergeSort (fun x y => decide (x ≤ y))).map encStr) ∧ (v = .slice none 0 0 ↔ ss = []) ∧ Below (w.alloc (.cells #[.map (some b)] 93)).heap.size (w.alloc (.cells #[.map (some b)] 93)) w' := by
  have hbl := hown.lt
  have hseq : SeqGives Fence.wide 2 Tryz.prog 122 #[.pointer (some ⟨w.heap.size, 0, none⟩)] encStr (fun ss => ss.Perm (strKeys D0)) (Maps.size D0) (w.alloc (.cells #[.map (some b)] 93)) :=
    AnyZ.keys_gives (ρ := laysKeys_ren) { laysKeys with } Fence.wide _ trivial rfl (by omega) w.heap.size b nn D0 _ (by simp) (by simp) (by
      obtain ⟨es, clock, hb, Ft, hs, hD⟩ := hown
      exact ⟨es, clock, (Below.heap_alloc _ _ b hbl).trans hb, Ft, hs, hD⟩)
  exact (callsIn_wide (n := 5)).1 (AnyZ.sorted_in laysSorted Fence.wide 5 trivial trivial trivial trivial rfl (by omega) (sortsAt _) (enters_of Tryz.func121 (by kernel_rfl) rfl) 122 #[.pointer (some ⟨w.heap.size, 0, none⟩)] trivial (enters_of Tryz.func122 (by kernel_rfl) rfl) _ _ hmax hbytes _ hseq)

abbrev R0 : Value → Option (DataW Unit × List MemPlace) := fun _ => some (.nil, [])
theorem ents_key {es : Array MapEntry} {clock : Nat} {L : List KV} (h : Ents es clock L) {x : MapEntry} (hx : x ∈ es.toList) : ∃ p ∈ L, x.key = .string p.1 ∧ x.val = p.2 := by
  have : (x.key, x.val) ∈ L.map (fun p => (Value.string p.1, p.2)) := by rw [← h.kv]; exact List.mem_map.2 ⟨x, hx, rfl⟩
  obtain ⟨p, hp, e⟩ := List.mem_map.1 this
  simp only [Prod.mk.injEq] at e
  exact ⟨p, hp, e.1.symm, e.2.symm⟩
theorem rd_str {x : MapEntry} {s : ByteArray} (h : x.key = .string s) (hs : s.size ≤ maxLen) : rd (H := Unit) Tryz.prog 9 R0 x = some (.string s.data.toList, .nil) := by
  have := WideMaps.keyOf_string_mk (P := Tryz.prog) (k := 9) Tryz.underlying9 hs
  simp [WideElems.rd, h, this]
theorem owns_of {w : World} {mb : Nat} {es : Array MapEntry} {clock : Nat} {L : List KV} (hm : w.heap[mb]? = some (.map es clock)) (h : Ents es clock L) (hl : L.length ≤ maxLen) :
    ∃ D0 : DataW Unit, w.ownsMap Tryz.prog 9 R0 mb L.length D0 ∧ Maps.size D0 = L.length ∧ (strKeys D0).Perm (L.map fun p => p.1.data.toList) := by
  have hF : Fit Tryz.prog 9 R0 es clock := ⟨by rw [h.size]; exact hl, (MapKept.stamped_iff es clock).2 ⟨h.old, h.nod, by
      have h1 : (es.toList.map (fun e => (e.key, e.val))).map (·.1) = L.map (fun p => Value.string p.1) := by rw [h.kv, List.map_map]; rfl
      have h2 : es.toList.map (·.key) = L.map (fun p => Value.string p.1) := by rw [← h1, List.map_map]; rfl
      have h3 : (L.map (fun p => Value.string p.1)).Nodup := by
        have : L.map (fun p => Value.string p.1) = (L.map (·.1)).map Value.string := by rw [List.map_map]; rfl
        rw [this]
        exact List.pairwise_map.2 (h.one.imp (fun {a b} hab e => hab (by injection e)))
      rw [← h2] at h3
      exact List.pairwise_map.1 h3⟩, fun x hx => by
      obtain ⟨p, hp, hk, -⟩ := ents_key h hx
      exact ⟨_, rd_str hk (h.len p hp)⟩⟩
  refine ⟨_, ⟨es, clock, hm, hF, by rw [h.size]; exact Nat.le_refl _, rfl⟩, ?_, ?_⟩
  · rw [Maps.size_eq, (WideShapes.sorted_perm _).length_eq, List.length_map, Array.length_toList, h.size]
  · have hp := (WideShapes.sorted_perm (es.toList.map (rg Tryz.prog 9 R0))).map (fun p : Lit × DataW Unit => strOf p.1)
    refine hp.trans ?_
    rw [List.map_map]
    have h1 : (es.toList.map (fun e => (e.key, e.val))).map (fun q => match q.1 with | Value.string s => s.data.toList | _ => []) = L.map (fun p => p.1.data.toList) := by rw [h.kv, List.map_map]; rfl
    rw [← h1, List.map_map]
    have h2 : es.toList.map ((fun p : Lit × DataW Unit => strOf p.1) ∘ rg Tryz.prog 9 R0) = es.toList.map ((fun q : Value × Value => match q.1 with | Value.string s => s.data.toList | _ => []) ∘ fun e : MapEntry => (e.key, e.val)) := by
      refine List.map_congr_left fun x hx => ?_
      obtain ⟨p, hp, hk, -⟩ := ents_key h hx
      simp only [Function.comp, rg_of (rd_str hk (h.len p hp)), hk, strOf]
    rw [h2]
end Go.Proofs.YtbnaegoahdcejaaGreatDoor

namespace Go.Proofs.YtbnaegoahdcejaaGreatDoor
open Go.RowKit Go.Maps Go.Shelf

abbrev opSize : Value := .agg #[.int .i8 0, .int .i64 0, .int .i64 0, .slice none 0 0]
abbrev toldN (n : Int) : Value := .agg #[.int .i64 0, .int .i64 n, .int .i64 0, .slice none 0 0]
set_option maxRecDepth 20000 in
set_option maxHeartbeats 2000000 in
theorem do_size (lo hb : Nat) (l : B) (w : World) (h : Mf lo w hb l) : Calls Tryz.prog 85 #[Pt hb, opSize] w fun e w' => e = .returned (toldN (l.length : Int)) ∧ Below w.heap.size w w' := by
  obtain ⟨W, hW⟩ : ∃ W, W = (w.alloc (.cells #[.int .i8 0, .int .i64 0, .int .i64 0, .slice none 0 0] 155)).alloc (.cells #[.int .i64 0, .int .i64 0, .int .i64 0, .slice none 0 0] 152) := ⟨_, rfl⟩
  have hB : Below w.heap.size w W := by rw [hW]; exact below_tr (below_al w _) (below_al _ _)
  have hT : W.heap[w.heap.size + 1]? = some (.cells #[.int .i64 0, .int .i64 0, .int .i64 0, .slice none 0 0] 152 (0, 0)) := by rw [hW]; exact heap_alloc2_new w _ _
  have HSZ := aside (show W.heap.size = w.heap.size + 2 by rw [hW]; simp)
  have o0 : W.cell? ⟨w.heap.size, 0, none⟩ = some (.int .i8 0) := by rw [hW]; go_simp
  obtain ⟨fb, m, b, lv, L, -, -, -, -, h5, h6, h7, h8⟩ := h.below hB
  have c5 := (M.han_cells h5.han).2.2.2.2.2
  have hc0 : W.cell? ⟨fb, 0, none⟩ = some (M.I ⟨m, 0, none⟩) := by rw [cell_of_row W fb _ _ _ _ h5.fil]; rfl
  have hm := M.meth15_Size W fb ⟨m, 0, none⟩ hc0
  have F1 := aside (hfile_any hb _ W c5)
  have F2 := aside (M.fSize_any m b l.length lv L W h6 h7)
  have HB := aside hB
  have HT := aside hT
  clear h hB hT h5 h6 h7 h8 c5 hc0
  go_enter Tryz.func85, Tryz.ntmps85
  go_wp2_with fail
  rw [← hW]
  refine F1.out.mono ?_
  rintro e w' ⟨rfl, rfl⟩
  clear hW
  go_wp2_with fail
  refine F2.out.mono ?_
  rintro e w1 ⟨rfl, rfl⟩
  go_wp2_with ((with_reducible refine wpList_store_row rfl 152 _ _ rfl (w.heap.size + 1) #[.int .i64 0, .int .i64 (l.length : Int), .int .i64 0, .slice none 0 0] ?_ ?_ 152 _ HT.out ?_ ?_ ?_ ?_); kernel_rfl; kernel_rfl; kernel_rfl; kernel_rfl; kernel_rfl)
  refine bodyPost_ret (results_cell_row rfl _ _ (w.heap.size + 1) 152 _ (0, 0) _ rfl (setRow_heap w1 _ _ _ _ _ HT.out) Tryz.underlying152 rfl (by kernel_rfl)) rfl ?_
  have uR : Upd (fun k => k = w.heap.size + 1) w1 (w1.setRow (w.heap.size + 1) #[.int .i64 0, .int .i64 (l.length : Int), .int .i64 0, .slice none 0 0]) := ⟨rfl, rfl, rfl, by simp, fun k _ hk => setRow_other w1 _ k _ hk⟩
  exact ⟨rfl, HB.out.trans (uR.below HB.out.size (fun k hk => by omega))⟩

theorem meth_sizeF (b : Nat) (w : World) : (method 462 109 (Pt b) "mantle/node.size").run Tryz.prog w = .ok (226, Pt b) w := by kernel_rfl
theorem meth_sizeD (b : Nat) (w : World) : (method 462 92 (Pt b) "mantle/node.size").run Tryz.prog w = .ok (225, Pt b) w := by kernel_rfl
theorem meth_sizeL (b : Nat) (w : World) : (method 462 110 (Pt b) "mantle/node.size").run Tryz.prog w = .ok (227, Pt b) w := by kernel_rfl
theorem meth_sizeM (b : Nat) (w : World) : (method 462 111 (Pt b) "mantle/node.size").run Tryz.prog w = .ok (228, Pt b) w := by kernel_rfl
theorem meth_sizeW (b : Nat) (w : World) : (method 462 85 (Pt b) "mantle/node.size").run Tryz.prog w = .ok (223, Pt b) w := by kernel_rfl
set_option maxRecDepth 20000 in
theorem sizeF_any (m fb hb lo : Nat) (l : B) (w : World) (h : Fl w m fb hb) (hH : Mf lo w hb l) : Calls Tryz.prog 226 #[Pt fb] w fun e w' => e = .returned (.int .i64 (l.length : Int)) ∧ Below w.heap.size w w' := by
  have hc := h.cell
  have AD := aside (do_size lo hb l w hH)
  have hfd : ∀ w, (Instr.field 152 (toldN (l.length : Int)) 1).run Tryz.prog w = .ok (.int .i64 (l.length : Int)) w := fun w => by kernel_rfl
  clear h hH
  go_enter Tryz.func226, Tryz.ntmps226
  go_wp2_with fail
  refine AD.out.mono ?_
  rintro e w' ⟨rfl, h2⟩
  go_wp2_with fail
  go_ret
  exact ⟨rfl, h2⟩
set_option maxRecDepth 20000 in
theorem sizeD_any (m d b : Nat) (up : Value) (XL : List KV) (w : World) (h : Dr w m d b up XL) (hx : XL.length ≤ 1000000) : Calls Tryz.prog 225 #[Pt d] w fun e w' => e = .returned (.int .i64 (XL.length : Int)) ∧ w' = w := by
  have c2 := h.c2
  obtain ⟨es, c, hm, hE⟩ := h.map
  have hlen := fun ty => len_map hm hE ty
  have hw : IntKind.i64.wrap (XL.length : Int) = (XL.length : Int) := wrap_small _ (by omega) (by omega)
  clear h hm hE
  go_enter Tryz.func225, Tryz.ntmps225
  go_wp2
  go_ret
  exact ⟨rfl, rfl⟩
set_option maxRecDepth 20000 in
theorem sizeL_any (m lb : Nat) (s : ByteArray) (w : World) (h : Lk w m lb s) (hx : s.size ≤ 1000000000) : Calls Tryz.prog 227 #[Pt lb] w fun e w' => e = .returned (.int .i64 (s.size : Int)) ∧ w' = w := by
  have c2 := h.cell
  have hw : IntKind.i64.wrap (s.size : Int) = (s.size : Int) := wrap_small _ (by omega) (by omega)
  clear h
  go_enter Tryz.func227, Tryz.ntmps227
  go_wp2
  go_ret
  exact ⟨rfl, rfl⟩
set_option maxRecDepth 20000 in
theorem sizeM_any (b : Nat) (w : World) : Calls Tryz.prog 228 #[Pt b] w fun e w' => e = .returned (.int .i64 0) ∧ w' = w := by
  go_enter Tryz.func228, Tryz.ntmps228
  go_wp2
  go_ret
  exact ⟨rfl, rfl⟩
set_option maxRecDepth 20000 in
theorem sizeW_any (b : Nat) (w : World) : Calls Tryz.prog 223 #[Pt b] w fun e w' => e = .returned (.int .i64 0) ∧ w' = w := by
  go_enter Tryz.func223, Tryz.ntmps223
  go_wp2
  go_ret
  exact ⟨rfl, rfl⟩

theorem infoE : (Tryz.prog.info? 150).map (fun i => (i.zero, i.size, i.bytes)) = some (some (.agg #[.string ⟨#[]⟩, .int .i8 0, .int .i64 0]), 3, 32) := by kernel_rfl
theorem make_any (n : Nat) (w : World) (hn : n ≤ 1000000) : ∃ W, (Instr.makeSlice 146 (.int .i64 0) (.int .i64 (n : Int))).run Tryz.prog w = .ok (.slice (some ⟨w.heap.size, 0, none⟩) 0 n) W ∧ W.ownsRow 0 150 3 (.slice (some ⟨w.heap.size, 0, none⟩) 0 n) 0 [] ∧ Below w.heap.size w W ∧ w.heap.size < W.heap.size := by
  obtain ⟨i, hi, hz, hs, hb⟩ := info_parts infoE
  have hr := run_make (P := Tryz.prog) w 146 150 i _ Tryz.underlying146 hi hz .i64 .i64 0 (n : Int) (by omega) (by omega) (by rw [hb]; omega) (by omega)
  refine ⟨_, hr, World.ownsRow_made w _ n (Nat.zero_le _) (by unfold maxLen; omega) (by rw [size_madeCells, hs]; simp), below_al w _, by simp⟩
theorem app_ent (W : World) (s7 : Value) (i : Nat) (xs : List Value) (hown : W.ownsRow 0 150 3 s7 i xs) (x : ByteArray) (y z : Int) (hi : i ≤ 1000000) :
    ∃ a c w', (Builtin.append_ #[146, 146] 146 #[s7, .slice (some ⟨W.heap.size, 0, none⟩) 1 1]).run Tryz.prog (W.alloc (.cells #[.string x, .int .i8 y, .int .i64 z] 150)) = .ok (.slice a (i + 1) c) w' ∧ w'.ownsRow 0 150 3 (.slice a (i + 1) c) (i + 1) (xs ++ [.string x, .int .i8 y, .int .i64 z]) ∧
      Upd (fun k => s7.ownBlock = some k) W w' ∧ ∀ k, (Value.slice a (i + 1) c).ownBlock = some k → s7.ownBlock = some k ∨ W.heap.size ≤ k := by
  have hB := below_al W (.cells #[.string x, .int .i8 y, .int .i64 z] 150)
  obtain ⟨v', w', hr, ho, hg, hwh⟩ := run_append_where (P := Tryz.prog) (W.alloc (.cells #[.string x, .int .i8 y, .int .i64 z] 150)) 146 146 150 _ 3 32 Tryz.underlying146 infoE rfl (by decide) s7 i xs (row_below hown hB) ⟨W.heap.size, 0, none⟩ 1 1 [.string x, .int .i8 y, .int .i64 z] rfl (fun j u hj => by
      match j, hj with
      | 0, hj => simp at hj; subst hj; go_simp
      | 1, hj => simp at hj; subst hj; go_simp
      | 2, hj => simp at hj; subst hj; go_simp
      | (j + 3), hj => simp at hj) (fun u hu => by
      simp only [List.mem_cons, List.not_mem_nil, or_false] at hu
      rcases hu with rfl | rfl | rfl <;> rfl) (by unfold maxLen; omega) (by omega) (by omega)
  obtain ⟨a, c, rfl, -⟩ := own_slice ho
  refine ⟨a, c, w', hr, ho, (Upd.of_below hB).trans (Upd.of_grown hg (fun k hk => hk)) (fun _ _ h => h), fun k hk => ?_⟩
  rcases hwh with ⟨e, -⟩ | ⟨e, -⟩
  · exact .inl (by rw [← e]; exact hk)
  · rw [e] at hk
    simp only [World.size_alloc, Option.some.injEq] at hk
    exact .inr (by omega)
theorem wp_append_at {P : Program} {op : Oper} {a : Act} {w : World} {K : Act → World → Prop} {Q : Exit → Act → World → Prop} (s x : Operand) (t : TypeId) (ho : op.op = .call { callee := .builtin .append, args := #[s, x], argTypes := #[t, t] })
    (v xv v' : Value) (w' : World) (hs : a.eval s = v) (hx : a.eval x = xv) (hr : (Builtin.append_ #[t, t] op.type #[v, xv]).run P w = .ok v' w') (h : K (a.put op.dst v') w') : op.wp P a w K Q := by
  unfold Oper.wp execOp
  simp only [ho, resolve, invoke, builtin, Sem.run_bind, Sem.run_pure, Result.andThen_ok, List.map_toArray, List.map_cons, List.map_nil, hs, hx, hr]
  exact h
abbrev ent (sz : En → Int) (e : En) : List Value := [.string (ba e.nm), .int .i8 (e.k : Int), .int .i64 (sz e)]
/-- Where List stands behind i names. -/
structure Lg (w W : World) (cl : Nat) (es : Array MapEntry) (clock : Nat) (sv : Value) (ks : List En) (sz : En → Int) (s7 : Value) (i : Nat) : Prop where
  bel : Below w.heap.size w W
  map : W.heap[cl]? = some (.map es clock)
  str : W.ownsRow 0 9 1 sv ks.length (ks.map fun e => .string (ba e.nm))
  row : W.ownsRow 0 150 3 s7 i ((ks.take i).flatMap (ent sz))
  rb : ∀ k, s7.ownBlock = some k → w.heap.size ≤ k
theorem Lg.below {w W W' : World} {cl : Nat} {es : Array MapEntry} {clock : Nat} {sv : Value} {ks : List En} {sz : En → Int} {s7 : Value} {i : Nat} (h : Lg w W cl es clock sv ks sz s7 i) (u : Below W.heap.size W W') : Lg w W' cl es clock sv ks sz s7 i :=
  ⟨h.bel.trans (u.mono h.bel.size), (u.block _ (Array.getElem?_eq_some_iff.1 h.map).1).trans h.map, row_below h.str u, row_below h.row u, h.rb⟩
theorem row_apart {w : World} {e1 e2 : TypeId} {s1 s2 n1 n2 k : Nat} {v1 v2 : Value} {x1 x2 : List Value} (h1 : w.ownsRow 0 e1 s1 v1 n1 x1) (h2 : w.ownsRow 0 e2 s2 v2 n2 x2) (hne : e1 ≠ e2) (hk : v1.ownBlock = some k) : v2.ownBlock ≠ some k := fun hk2 => by
  rcases h1.2 with ⟨rfl, -⟩ | ⟨g, cap, cur, rfl, -, hh, -⟩
  · simp [Value.ownBlock] at hk
  · rcases h2.2 with ⟨rfl, -⟩ | ⟨g2, cap2, cur2, rfl, -, hh2, -⟩
    · simp [Value.ownBlock] at hk2
    · simp only [Value.ownBlock, Option.some.injEq] at hk hk2
      subst hk; subst hk2
      rw [hh] at hh2
      injection hh2 with e
      injection e with _ e _
      exact hne e
theorem row_nomap {w : World} {e : TypeId} {s n k : Nat} {v : Value} {xs : List Value} {es : Array MapEntry} {c : Nat} (h : w.ownsRow 0 e s v n xs) (hk : v.ownBlock = some k) (hm : w.heap[k]? = some (.map es c)) : False := by
  rcases h.2 with ⟨rfl, -⟩ | ⟨g, cap, cur, rfl, -, hh, -⟩
  · simp [Value.ownBlock] at hk
  · simp only [Value.ownBlock, Option.some.injEq] at hk
    subst hk
    rw [hh] at hm
    cases hm
theorem round_end {w W : World} {cl : Nat} {es : Array MapEntry} {clock : Nat} {sv : Value} {ks : List En} {sz : En → Int} {s7 : Value} {i m : Nat} {c : Value} {x : En} {K N : Int} (h : Lg w W cl es clock sv ks sz s7 i) (hmw : m < w.heap.size) (hc : W.cell? ⟨m, 0, none⟩ = some c) (ht : ks.take (i + 1) = ks.take i ++ [x]) (hK : (x.k : Int) = K) (hN : sz x = N) (hi : i ≤ 1000000) :
    ∃ a7 c7 w7, W.cell? ⟨m, 0, none⟩ = some c ∧ (Builtin.append_ #[146, 146] 146 #[s7, .slice (some ⟨W.heap.size, 0, none⟩) 1 1]).run Tryz.prog (W.alloc (.cells #[.string (ba x.nm), .int .i8 K, .int .i64 N] 150)) = .ok (.slice a7 (i + 1) c7) w7 ∧ w7.cell? ⟨m, 0, none⟩ = some c ∧ Aside (Lg w w7 cl es clock sv ks sz (.slice a7 (i + 1) c7) (i + 1)) := by
  have hws := h.bel.size
  obtain ⟨a7, c7, w7, hr7, ho7, hu7, hb7⟩ := app_ent W s7 i _ h.row (ba x.nm) K N hi
  have hclW := (Array.getElem?_eq_some_iff.1 h.map).1
  refine ⟨a7, c7, w7, hc, hr7, (World.cell?_of_block (hu7.block m (by omega) (fun e => by have := h.rb m e; omega))).trans hc, ⟨?_, ?_, ?_, ?_, ?_⟩⟩
  · exact h.bel.trans (hu7.below hws (fun k hk => h.rb k hk))
  · exact (hu7.block _ hclW (fun e => row_nomap h.row e h.map)).trans h.map
  · exact hu7.row h.str (fun k hk e => row_apart h.row h.str (by decide) e hk)
  · rw [ht, List.flatMap_append]
    simpa [ent, hK, hN] using ho7
  · intro k hk
    rcases hb7 k hk with e | e
    · exact h.rb k e
    · omega

set_option maxRecDepth 20000 in
set_option maxHeartbeats 8000000 in
theorem Tr.list {lo : Nat} {w : World} {S : List En} (h : Tr lo w S) {d : En} (hd : d ∈ S) (hdk : d.k = 1) :
    Calls Tryz.prog 84 #[Pt d.nb] w fun e w' => ∃ v sz, e = .returned (.tuple #[v, .int .i64 0]) ∧ w'.ownsRow 0 150 3 v (kidE S d.p).length ((kidE S d.p).flatMap (ent sz)) ∧ Below w.heap.size w w' := by
  obtain ⟨-, -, -, -, up, L, hDr, -, hK⟩ := h.dir d hd hdk
  obtain ⟨es, clock, hm, hE⟩ := hDr.map
  obtain ⟨sz, hsz⟩ : ∃ sz : En → Int, sz = fun e => if e.k = 1 then ((kidU S e.p).length : Int) else (e.x.length : Int) := ⟨_, rfl⟩
  have hn := hDr.nod
  have c2 := hDr.c2
  have hKl := kids_len hE hK h.one
  have hfew := h.few
  have hle : L.length ≤ 1000000 := by rw [hKl]; have := (List.filter_sublist (p := fun e => decide (e.p ≠ [] ∧ e.p.dropLast = d.p)) (l := S)).length_le; unfold kidU; omega
  obtain ⟨db, hdb⟩ : ∃ db, db = d.db := ⟨_, rfl⟩
  obtain ⟨mb, hmb⟩ : ∃ mb, mb = d.mb := ⟨_, rfl⟩
  obtain ⟨nb, hnb⟩ : ∃ nb, nb = d.nb := ⟨_, rfl⟩
  rw [← hdb, ← hnb] at hn
  rw [← hdb, ← hmb] at c2
  rw [← hmb] at hm
  rw [← hnb]
  have AT := aside h
  have AKi := aside hK
  have AE := aside hE
  have AM := aside hm
  have ASz := aside hsz
  clear hK hE hm hDr h hsz hKl hfew hdb hmb hnb hdk hd
  go_enter Tryz.func84, Tryz.ntmps84
  go_wp2_with fail
  refine (directory_dir nb db _ hn).mono ?_
  rintro e w' ⟨rfl, rfl⟩
  go_wp2_with fail
  refine (AnyW.maps_Clone (ρ := laysClone_ren) laysClone mb es clock w' AM.out).mono ?_
  rintro e w1 ⟨rfl, hw1⟩
  have hm1 : w1.heap[w'.heap.size]? = some (.map es clock) := by rw [hw1]; exact heap_alloc_new w' _
  have hB1 : Below w'.heap.size w' w1 := by rw [hw1]; exact below_al w' _
  have hlen := fun ty => len_map hm1 AE.out ty
  clear hw1
  obtain ⟨w2, hmk, hown2, hB2, hlt2⟩ := make_any L.length w1 hle
  have hm2 : w2.heap[w'.heap.size]? = some (.map es clock) := (hB2.block _ (Array.getElem?_eq_some_iff.1 hm1).1).trans hm1
  obtain ⟨D0, hD, hDs, hDk⟩ := owns_of hm2 AE.out (by unfold maxLen; omega)
  have AS := aside (sorted_of w'.heap.size L.length D0 R0 w2 hD (by rw [hDs]; unfold maxLen; omega) (by rw [hDs]; omega))
  have ADk := aside hDk
  have AB2 := aside hB2
  have AO2 := aside hown2
  have AM2 := aside hm2
  have AB1 := aside hB1
  have hmlt := (Array.getElem?_eq_some_iff.1 hm1).1
  clear hm1 hm2 hD hDk hB2 hown2 hB1
  go_wp2_with fail
  refine (keys_any _ _).mono ?_
  rintro e w3 ⟨rfl, rfl⟩
  go_wp2_with fail
  refine AS.out.mono ?_
  rintro e w4 ⟨v, ss, rfl, hperm, hrow, -, hb4⟩
  obtain ⟨ks, hks⟩ : ∃ ks, ks = kidE S d.p := ⟨_, rfl⟩
  have hnm : ss.mergeSort (fun x y => decide (x ≤ y)) = ks.map En.nm := by
    obtain ⟨k1, k2⟩ := kids_perm AE.out AKi.out
    have hp := hperm.trans ADk.out
    rw [hks]
    exact kid_names AT.out.one d.p ((hp.nodup_iff).2 k1) (fun n => (hp.mem_iff).trans (k2 n))
  have AKs := aside hks
  have hlen4 : ss.length = ks.length := by
    have := congrArg List.length hnm
    rw [List.length_mergeSort, List.length_map] at this
    exact this
  have hnl : ks.length ≤ 1000000 := by rw [← hlen4, (hperm.trans ADk.out).length_eq, List.length_map]; exact hle
  rw [hnm, hlen4] at hrow
  have hrow0 : w4.ownsRow 0 9 1 v ks.length ((ks.map En.nm).map encStr) := by
    refine ⟨hrow.1, ?_⟩
    rcases hrow.2 with h | ⟨g, cap, cur, e, hg, r⟩
    · exact .inl h
    · exact .inr ⟨g, cap, cur, e, Nat.zero_le _, r⟩
  have henc : (ks.map En.nm).map encStr = ks.map fun e => Value.string (ba e.nm) := by
    rw [List.map_map]
    exact List.map_congr_left fun x _ => by simp [Function.comp, encStr, ba]
  rw [henc] at hrow0
  obtain ⟨va, vc, rfl, hvc⟩ := own_slice hrow0
  have hB4 : Below w'.heap.size w' w4 := (AB1.out.trans (AB2.out.mono AB1.out.size)).trans (((below_al w2 _).mono (by have := AB1.out.size; have := AB2.out.size; omega)).trans (hb4.mono (by rw [World.size_alloc]; have := AB1.out.size; have := AB2.out.size; omega)))
  have hm4 : w4.heap[w'.heap.size]? = some (.map es clock) := by
    rw [hb4.block _ (by rw [World.size_alloc]; omega), (below_al w2 _).block _ (by omega)]
    exact AM2.out
  have hrow4 : w4.ownsRow 0 150 3 (.slice (some ⟨w1.heap.size, 0, none⟩) 0 L.length) 0 [] := row_below (row_below AO2.out (below_al w2 _)) hb4
  have AL : Aside (Lg w' w4 w'.heap.size es clock (.slice va ks.length vc) ks sz (.slice (some ⟨w1.heap.size, 0, none⟩) 0 L.length) 0) := ⟨hB4, hm4, hrow0, by simpa using hrow4, fun k hk => by
      simp only [Value.ownBlock, Option.some.injEq] at hk
      subst hk
      exact Nat.le_of_lt hmlt⟩
  clear hB4 hm4 hrow4 hrow hrow0 hb4 AO2 AS hnm hks hlen4
  go_wp2_with fail
  go_loopg [7, 9, 10, 31] ks.length (fun g s7 _ _ s31 wx => ∃ i : Nat, i + g = ks.length ∧ s31 = .int .i64 (i : Int) ∧ Lg w' wx w'.heap.size es clock (.slice va ks.length vc) ks sz s7 i)
  case atStart => exact ⟨0, by omega, rfl, AL.out⟩
  case round =>
    obtain ⟨i, hig, rfl, hL⟩ := hrel
    cases gk with
    | zero =>
      obtain rfl : i = ks.length := by omega
      have hi : ¬ ((ks.length : Nat) : Int) < (ks.length : Int) := by omega
      obtain ⟨sa, sc, rfl, -⟩ := own_slice hL.row
      have AG := aside hL
      clear hL
      go_wp2_with fail
      go_ret2
      have := AG.out.row
      rw [List.take_length] at this
      exact ⟨_, rfl, ⟨sz, by rw [← AKs.out]; exact this⟩, AG.out.bel⟩
    | succ g =>
      have hi : (i : Int) < (ks.length : Int) := by omega
      have hi2 : i < ks.length := by omega
      obtain ⟨sa, sc, rfl, -⟩ := own_slice hL.row
      obtain ⟨x, hxi⟩ : ∃ x, ks[i]'hi2 = x := ⟨_, rfl⟩
      have hstr : (ks.map fun e => Value.string (ba e.nm))[i]? = some (.string (ba x.nm)) := by rw [List.getElem?_map, List.getElem?_eq_getElem hi2, hxi]; rfl
      obtain ⟨gs, rfl⟩ : ∃ gs, va = some ⟨gs, 0, none⟩ := by
        rcases hL.str.2 with ⟨-, h0⟩ | ⟨gs, cap, cur, e, -⟩
        · omega
        · injection e with e1; exact ⟨gs, e1⟩
      have hcs : wr.cell? ⟨gs, i, none⟩ = some (.string (ba x.nm)) := by
        have := hL.str.cells rfl i _ hstr
        simpa [Addr.add_lit] using this
      have hxm : x ∈ kidE S d.p := by rw [← AKs.out, ← hxi]; exact List.getElem_mem hi2
      obtain ⟨hxS, hxp⟩ := mem_kidE.1 hxm
      have hv := (AKi.out x.nm (Pt x.nb)).2 ⟨x, hxS, hxp, rfl⟩
      have hlo := look_yes hL.map AE.out hv false
      simp only [Bool.false_eq_true, ↓reduceIte] at hlo
      have htk : ks.take (i + 1) = ks.take i ++ [x] := by rw [List.take_add_one, List.getElem?_eq_getElem hi2, hxi]; rfl
      have AG := aside hL
      have ATk := aside htk
      have hT := AT.out.below hL.bel
      have hmw : x.nb < w'.heap.size := by obtain ⟨t, k, hn⟩ := AT.out.nd hxS; exact hn.lt
      have hszx := congrFun ASz.out x
      obtain ⟨nm, hnm⟩ : ∃ nm, nm = ba x.nm := ⟨_, rfl⟩
      obtain ⟨m, hme⟩ : ∃ m, m = x.nb := ⟨_, rfl⟩
      rw [← hnm] at hcs hlo
      rw [← hme] at hlo hmw
      have AHn := aside hnm
      have AHm := aside hme
      have hXc : x.k = 1 ∨ x.k ≠ 1 := Decidable.em _
      clear hL hstr htk hv hxi hnm hme
      go_wp2_with fail
      rcases hXc with hk | hk
      · obtain ⟨-, -, -, -, xup, XL, hXD, -, hXK⟩ := hT.dir x hxS hk
        obtain ⟨xes, xcl, xm, xE⟩ := hXD.map
        have hxl := kids_len xE hXK hT.one
        have hxl2 : XL.length ≤ 1000000 := by rw [hxl]; have := hT.few; have := (List.filter_sublist (p := fun e => decide (e.p ≠ [] ∧ e.p.dropLast = x.p)) (l := S)).length_le; unfold kidU; omega
        rw [hk, ← hxl] at hszx
        simp only [↓reduceIte] at hszx
        obtain ⟨fbx, hfbx⟩ : ∃ f, f = x.db := ⟨_, rfl⟩
        rw [← AHm.out, ← hfbx] at hXD
        clear hT hXK xE xm hxl hfbx
        have hcm := hXD.nod.cell
        have hmd := hXD.nod
        have hms := fun w => meth_sizeD fbx w
        have AK1 : Aside (∀ W, Below wr.heap.size wr W → Calls Tryz.prog 29 #[Pt m] W fun e w' => e = .returned (.int .i8 1) ∧ w' = W) := fun W hW => kind_dir m fbx W (hmd.below hW)
        have AK2 : Aside (∀ W, Below wr.heap.size wr W → Calls Tryz.prog 225 #[Pt fbx] W fun e w6 => e = .returned (.int .i64 (XL.length : Int)) ∧ ∃ a7 c7 w7, w6.cell? ⟨m, 0, none⟩ = some (.iface 92 (Pt fbx)) ∧ (Builtin.append_ #[146, 146] 146 #[.slice sa i sc, .slice (some ⟨w6.heap.size, 0, none⟩) 1 1]).run Tryz.prog (w6.alloc (.cells #[.string nm, .int .i8 1, .int .i64 (XL.length : Int)] 150)) = .ok (.slice a7 (i + 1) c7) w7 ∧
            w7.cell? ⟨m, 0, none⟩ = some (.iface 92 (Pt fbx)) ∧ Aside (Lg w' w7 w'.heap.size es clock (.slice (some ⟨gs, 0, none⟩) ks.length vc) ks sz (.slice a7 (i + 1) c7) (i + 1))) := fun W hW => by
          refine (sizeD_any m fbx _ xup XL W (hXD.below hW) hxl2).mono ?_
          rintro e w6 ⟨rfl, hw6⟩
          have u6 : Below wr.heap.size wr w6 := (hw6 ▸ hW)
          have hre := round_end (AG.out.below u6) hmw ((u6.cell (World.block_lt_of_cell? wr _ hcm)).trans hcm) ATk.out (show (x.k : Int) = (1 : Int) by simp [hk]) hszx (by omega)
          rw [← AHn.out] at hre
          exact ⟨rfl, hre⟩
        clear hszx
        go_region_held3 (fun w' => w'.cell? ⟨m, 0, none⟩ = some (.iface 92 (Pt fbx))) (go_keep) (first
          | (go_at_call 29; with_reducible refine (AK1.out _ (below_dr _)).mono ?_; rintro e w5 ⟨rfl, rfl⟩)
          | (go_at_call 225; with_reducible refine (AK2.out _ (below_dr _)).mono ?_; rintro e w6 ⟨rfl, a7, c7, w7, k6, hr7, k7, hL7⟩)
          | (rw [if_pos (by rfl)]; refine wp_append_at (Operand.tmp 38) (Operand.tmp 48) 146 rfl (.slice sa i sc) _ _ _ rfl rfl hr7 ?_))
        have hwi : IntKind.i64.wrap ((i : Int) + 1) = ((i + 1 : Nat) : Int) := by rw [wrap_small _ (by omega) (by omega)]; simp
        clear hr7 k6 k7 AK1 AK2
        go_wp2_with fail
        go_roundg g
        case measure => omega
        case rel => exact ⟨i + 1, by omega, by first | rfl | simp, hL7.out⟩
      · have hLf := hT.lef x hxS hk
        rw [if_neg hk] at hszx
        obtain ⟨-, hxlen, hLf⟩ := hLf
        rw [← AHm.out] at hLf
        clear hT
        rcases hLf with ⟨hk2, fbx, hb, -, hF, hMf⟩ | ⟨hk2, fbx, -, hF⟩ | ⟨hk2, hx0, fbx, hF⟩ | ⟨hk2, hx0, fbx, hF⟩
        · have hcm := hF.nod.cell
          have hmd := hF.nod
          have hms := fun w => meth_sizeF fbx w
          have AK1 : Aside (∀ W, Below wr.heap.size wr W → Calls Tryz.prog 29 #[Pt m] W fun e w' => e = .returned (.int .i8 0) ∧ w' = W) := fun W hW => kind_file m fbx W (hmd.below hW)
          have AK2 : Aside (∀ W, Below wr.heap.size wr W → Calls Tryz.prog 226 #[Pt fbx] W fun e w6 => e = .returned (.int .i64 (x.x.length : Int)) ∧ ∃ a7 c7 w7, w6.cell? ⟨m, 0, none⟩ = some (.iface 109 (Pt fbx)) ∧ (Builtin.append_ #[146, 146] 146 #[.slice sa i sc, .slice (some ⟨w6.heap.size, 0, none⟩) 1 1]).run Tryz.prog (w6.alloc (.cells #[.string nm, .int .i8 0, .int .i64 (x.x.length : Int)] 150)) = .ok (.slice a7 (i + 1) c7) w7 ∧
              w7.cell? ⟨m, 0, none⟩ = some (.iface 109 (Pt fbx)) ∧ Aside (Lg w' w7 w'.heap.size es clock (.slice (some ⟨gs, 0, none⟩) ks.length vc) ks sz (.slice a7 (i + 1) c7) (i + 1))) := fun W hW => by
            refine (sizeF_any m fbx hb lo x.x W (hF.below hW) (hMf.below hW)).mono ?_
            rintro e w6 ⟨rfl, hw6⟩
            have u6 : Below wr.heap.size wr w6 := below_tr hW hw6
            have hre := round_end (AG.out.below u6) hmw ((u6.cell (World.block_lt_of_cell? wr _ hcm)).trans hcm) ATk.out (show (x.k : Int) = (0 : Int) by simp [hk2]) hszx (by omega)
            rw [← AHn.out] at hre
            exact ⟨rfl, hre⟩
          clear hszx
          go_region_held3 (fun w' => w'.cell? ⟨m, 0, none⟩ = some (.iface 109 (Pt fbx))) (go_keep) (first
            | (go_at_call 29; with_reducible refine (AK1.out _ (below_dr _)).mono ?_; rintro e w5 ⟨rfl, rfl⟩)
            | (go_at_call 226; with_reducible refine (AK2.out _ (below_dr _)).mono ?_; rintro e w6 ⟨rfl, a7, c7, w7, k6, hr7, k7, hL7⟩)
            | (rw [if_pos (by rfl)]; refine wp_append_at (Operand.tmp 38) (Operand.tmp 48) 146 rfl (.slice sa i sc) _ _ _ rfl rfl hr7 ?_))
          have hwi : IntKind.i64.wrap ((i : Int) + 1) = ((i + 1 : Nat) : Int) := by rw [wrap_small _ (by omega) (by omega)]; simp
          clear hr7 k6 k7 AK1 AK2
          go_wp2_with fail
          go_roundg g
          case measure => omega
          case rel => exact ⟨i + 1, by omega, by first | rfl | simp, hL7.out⟩
        · have hsz2 : ((ba x.x).size : Int) = (x.x.length : Int) := by rw [ba_size]
          obtain ⟨q, hq⟩ : ∃ q, q = ba x.x := ⟨_, rfl⟩
          have hq1 : q.size ≤ 1000000000 := by rw [hq, ba_size]; omega
          rw [← hq] at hF hsz2
          rw [← hsz2] at hszx
          have hFb : ∀ W, Below wr.heap.size wr W → Lk W m fbx q := fun W hW => ⟨hF.nod.below hW, (hW.block _ (Array.getElem?_eq_some_iff.1 hF.lnk).1).trans hF.lnk⟩
          clear hq hsz2
          have hcm := hF.nod.cell
          have hmd := hF.nod
          have hms := fun w => meth_sizeL fbx w
          have AK1 : Aside (∀ W, Below wr.heap.size wr W → Calls Tryz.prog 29 #[Pt m] W fun e w' => e = .returned (.int .i8 2) ∧ w' = W) := fun W hW => kind_link m fbx W (hmd.below hW)
          have AK2 : Aside (∀ W, Below wr.heap.size wr W → Calls Tryz.prog 227 #[Pt fbx] W fun e w6 => e = .returned (.int .i64 (q.size : Int)) ∧ ∃ a7 c7 w7, w6.cell? ⟨m, 0, none⟩ = some (.iface 110 (Pt fbx)) ∧ (Builtin.append_ #[146, 146] 146 #[.slice sa i sc, .slice (some ⟨w6.heap.size, 0, none⟩) 1 1]).run Tryz.prog (w6.alloc (.cells #[.string nm, .int .i8 2, .int .i64 (q.size : Int)] 150)) = .ok (.slice a7 (i + 1) c7) w7 ∧
              w7.cell? ⟨m, 0, none⟩ = some (.iface 110 (Pt fbx)) ∧ Aside (Lg w' w7 w'.heap.size es clock (.slice (some ⟨gs, 0, none⟩) ks.length vc) ks sz (.slice a7 (i + 1) c7) (i + 1))) := fun W hW => by
            refine (sizeL_any m fbx q W (hFb W hW) hq1).mono ?_
            rintro e w6 ⟨rfl, hw6⟩
            have u6 : Below wr.heap.size wr w6 := (hw6 ▸ hW)
            have hre := round_end (AG.out.below u6) hmw ((u6.cell (World.block_lt_of_cell? wr _ hcm)).trans hcm) ATk.out (show (x.k : Int) = (2 : Int) by simp [hk2]) hszx (by omega)
            rw [← AHn.out] at hre
            exact ⟨rfl, hre⟩
          clear hszx
          go_region_held3 (fun w' => w'.cell? ⟨m, 0, none⟩ = some (.iface 110 (Pt fbx))) (go_keep) (first
            | (go_at_call 29; with_reducible refine (AK1.out _ (below_dr _)).mono ?_; rintro e w5 ⟨rfl, rfl⟩)
            | (go_at_call 227; with_reducible refine (AK2.out _ (below_dr _)).mono ?_; rintro e w6 ⟨rfl, a7, c7, w7, k6, hr7, k7, hL7⟩)
            | (rw [if_pos (by rfl)]; refine wp_append_at (Operand.tmp 38) (Operand.tmp 48) 146 rfl (.slice sa i sc) _ _ _ rfl rfl hr7 ?_))
          have hwi : IntKind.i64.wrap ((i : Int) + 1) = ((i + 1 : Nat) : Int) := by rw [wrap_small _ (by omega) (by omega)]; simp
          clear hr7 k6 k7 AK1 AK2
          go_wp2_with fail
          go_roundg g
          case measure => omega
          case rel => exact ⟨i + 1, by omega, by first | rfl | simp, hL7.out⟩
        · rw [hx0] at hszx
          simp only [List.length_nil, Int.natCast_zero] at hszx
          have hcm := hF.cell
          have hmd := hF
          have hms := fun w => meth_sizeM fbx w
          have AK1 : Aside (∀ W, Below wr.heap.size wr W → Calls Tryz.prog 29 #[Pt m] W fun e w' => e = .returned (.int .i8 3) ∧ w' = W) := fun W hW => kind_mount m fbx W (hmd.below hW)
          have AK2 : Aside (∀ W, Below wr.heap.size wr W → Calls Tryz.prog 228 #[Pt fbx] W fun e w6 => e = .returned (.int .i64 0) ∧ ∃ a7 c7 w7, w6.cell? ⟨m, 0, none⟩ = some (.iface 111 (Pt fbx)) ∧ (Builtin.append_ #[146, 146] 146 #[.slice sa i sc, .slice (some ⟨w6.heap.size, 0, none⟩) 1 1]).run Tryz.prog (w6.alloc (.cells #[.string nm, .int .i8 3, .int .i64 0] 150)) = .ok (.slice a7 (i + 1) c7) w7 ∧
              w7.cell? ⟨m, 0, none⟩ = some (.iface 111 (Pt fbx)) ∧ Aside (Lg w' w7 w'.heap.size es clock (.slice (some ⟨gs, 0, none⟩) ks.length vc) ks sz (.slice a7 (i + 1) c7) (i + 1))) := fun W hW => by
            refine (sizeM_any fbx W).mono ?_
            rintro e w6 ⟨rfl, hw6⟩
            have u6 : Below wr.heap.size wr w6 := (hw6 ▸ hW)
            have hre := round_end (AG.out.below u6) hmw ((u6.cell (World.block_lt_of_cell? wr _ hcm)).trans hcm) ATk.out (show (x.k : Int) = (3 : Int) by simp [hk2]) hszx (by omega)
            rw [← AHn.out] at hre
            exact ⟨rfl, hre⟩
          clear hszx
          go_region_held3 (fun w' => w'.cell? ⟨m, 0, none⟩ = some (.iface 111 (Pt fbx))) (go_keep) (first
            | (go_at_call 29; with_reducible refine (AK1.out _ (below_dr _)).mono ?_; rintro e w5 ⟨rfl, rfl⟩)
            | (go_at_call 228; with_reducible refine (AK2.out _ (below_dr _)).mono ?_; rintro e w6 ⟨rfl, a7, c7, w7, k6, hr7, k7, hL7⟩)
            | (rw [if_pos (by rfl)]; refine wp_append_at (Operand.tmp 38) (Operand.tmp 48) 146 rfl (.slice sa i sc) _ _ _ rfl rfl hr7 ?_))
          have hwi : IntKind.i64.wrap ((i : Int) + 1) = ((i + 1 : Nat) : Int) := by rw [wrap_small _ (by omega) (by omega)]; simp
          clear hr7 k6 k7 AK1 AK2
          go_wp2_with fail
          go_roundg g
          case measure => omega
          case rel => exact ⟨i + 1, by omega, by first | rfl | simp, hL7.out⟩
        · rw [hx0] at hszx
          simp only [List.length_nil, Int.natCast_zero] at hszx
          have hcm := hF.cell
          have hmd := hF
          have hms := fun w => meth_sizeW fbx w
          have AK1 : Aside (∀ W, Below wr.heap.size wr W → Calls Tryz.prog 29 #[Pt m] W fun e w' => e = .returned (.int .i8 4) ∧ w' = W) := fun W hW => kind_white m fbx W (hmd.below hW)
          have AK2 : Aside (∀ W, Below wr.heap.size wr W → Calls Tryz.prog 223 #[Pt fbx] W fun e w6 => e = .returned (.int .i64 0) ∧ ∃ a7 c7 w7, w6.cell? ⟨m, 0, none⟩ = some (.iface 85 (Pt fbx)) ∧ (Builtin.append_ #[146, 146] 146 #[.slice sa i sc, .slice (some ⟨w6.heap.size, 0, none⟩) 1 1]).run Tryz.prog (w6.alloc (.cells #[.string nm, .int .i8 4, .int .i64 0] 150)) = .ok (.slice a7 (i + 1) c7) w7 ∧
              w7.cell? ⟨m, 0, none⟩ = some (.iface 85 (Pt fbx)) ∧ Aside (Lg w' w7 w'.heap.size es clock (.slice (some ⟨gs, 0, none⟩) ks.length vc) ks sz (.slice a7 (i + 1) c7) (i + 1))) := fun W hW => by
            refine (sizeW_any fbx W).mono ?_
            rintro e w6 ⟨rfl, hw6⟩
            have u6 : Below wr.heap.size wr w6 := (hw6 ▸ hW)
            have hre := round_end (AG.out.below u6) hmw ((u6.cell (World.block_lt_of_cell? wr _ hcm)).trans hcm) ATk.out (show (x.k : Int) = (4 : Int) by simp [hk2]) hszx (by omega)
            rw [← AHn.out] at hre
            exact ⟨rfl, hre⟩
          clear hszx
          go_region_held3 (fun w' => w'.cell? ⟨m, 0, none⟩ = some (.iface 85 (Pt fbx))) (go_keep) (first
            | (go_at_call 29; with_reducible refine (AK1.out _ (below_dr _)).mono ?_; rintro e w5 ⟨rfl, rfl⟩)
            | (go_at_call 223; with_reducible refine (AK2.out _ (below_dr _)).mono ?_; rintro e w6 ⟨rfl, a7, c7, w7, k6, hr7, k7, hL7⟩)
            | (rw [if_pos (by rfl)]; refine wp_append_at (Operand.tmp 38) (Operand.tmp 48) 146 rfl (.slice sa i sc) _ _ _ rfl rfl hr7 ?_))
          have hwi : IntKind.i64.wrap ((i : Int) + 1) = ((i + 1 : Nat) : Int) := by rw [wrap_small _ (by omega) (by omega)]; simp
          clear hr7 k6 k7 AK1 AK2
          go_wp2_with fail
          go_roundg g
          case measure => omega
          case rel => exact ⟨i + 1, by omega, by first | rfl | simp, hL7.out⟩
end Go.Proofs.YtbnaegoahdcejaaGreatDoor
