/- Spoil: a list that was copied is written over. Spoil, walked. TreeMakes' walk. -/
import Derived.Test.YtbnaegoahdcejaaGreatDoorGX
import Derived.Test.YtbnaegoahdcejaaGreatDoorGH
namespace Go.Proofs.YtbnaegoahdcejaaGreatDoor
open Go.RowKit Go.ChangeMaps

theorem elemBs : Tryz.prog.underlying 48 = some (.slice (Tryz.prog.elem 48)) := by kernel_rfl
theorem sizeBs (w : World) : (Go.sizeOf (Tryz.prog.elem 48)).run Tryz.prog w = .ok 1 w := by kernel_rfl
/-- list[:j], up to the room that it has. -/
theorem slice_up (a : Option Addr) (n c j : Nat) (hj : j ≤ c) : ∀ W, (Instr.slice 22 (.slice a n c) none (some (.int .i64 (j : Int))) none).run Tryz.prog W = .ok (.slice a j c) W := by
  intro W
  rw [run_slice_h W 22 a n c elemI .i64 _ (by omega) (by omega), sizeE]
  simp only [Result.andThen, sliced, Int.toNat_natCast, Nat.sub_zero, Nat.zero_mul]
  congr 2
  split
  · rfl
  · cases a with
    | none => rfl
    | some x => simp [Addr.add]
theorem slice_upB (a : Option Addr) (n c j : Nat) (hj : j ≤ c) : ∀ W, (Instr.slice 48 (.slice a n c) none (some (.int .i64 (j : Int))) none).run Tryz.prog W = .ok (.slice a j c) W := by
  intro W
  rw [run_slice_h W 48 a n c elemBs .i64 _ (by omega) (by omega), sizeBs]
  simp only [Result.andThen, sliced, Int.toNat_natCast, Nat.sub_zero, Nat.zero_mul]
  congr 2
  split
  · rfl
  · cases a with
    | none => rfl
    | some x => simp [Addr.add]
/-- Where Spoil stands: from the i-th item on the list is as it was, from the j-th on the bytes are. -/
structure Spl (V wx : World) (g : Nat) (cs : List Im) (gs : List Nat) (i j : Nat) : Prop where
  upd : Upd (fun k => k = g ∨ k ∈ gs) V wx
  row : ∃ cur, wx.heap[g]? = some (.cells cur 51 (0, 0)) ∧ ∀ (q : Nat) (m : Im), i ≤ q → cs[q]? = some m → cur[q * 3]? = some (.string m.p) ∧ cur[q * 3 + 1]? = some (.int .i8 m.k) ∧ cur[q * 3 + 2]? = some (.slice m.a m.x.length m.c)
  dat : ∀ (q : Nat) (m : Im) (k : Nat), j ≤ q → cs[q]? = some m → gs[q]? = some k → Cpy wx m k
theorem CopP.spl {w w' : World} {ms : List Im} {g c2 : Nat} {cs : List Im} {gs : List Nat} (h : CopP w w' ms g c2 cs gs) {V : World} (b : Below w'.heap.size w' V) : Spl V V g cs gs 0 0 := by
  have hr := row_below h.row b
  have hc := h.cps.below b
  obtain ⟨cur, h1⟩ := row_tw hr (g := g) rfl
  refine ⟨Upd.refl _ _, ⟨cur, h1, fun q m _ hq => ?_⟩, fun q m k _ h2 h3 => (hc.cpy q m k h2 h3).1⟩
  have hc2 : ∀ (j : Nat) (v : Value), (ims cs)[j]? = some v → cur[j]? = some v := fun j v hj => by
    have := hr.cells (g := g) rfl j v (by rw [List.getElem?_append_left (List.getElem?_eq_some_iff.1 hj).1]; exact hj)
    rw [Addr.add_lit, Nat.zero_add, cell_of_row V g j _ _ _ h1] at this
    exact this
  obtain ⟨q0, q1, q2⟩ := ims_at hq
  exact ⟨hc2 _ _ q0, hc2 _ _ q1, hc2 _ _ q2⟩
theorem Spl.below {V wx wy : World} {g : Nat} {cs : List Im} {gs : List Nat} {i j : Nat} (h : Spl V wx g cs gs i j) (b : Below wx.heap.size wx wy) : Spl V wy g cs gs i j := by
  obtain ⟨cur, h1, h2⟩ := h.row
  refine ⟨h.upd.trans (Upd.of_below b) (fun _ _ h => h), ⟨cur, (b.block g (Array.getElem?_eq_some_iff.1 h1).1).trans h1, h2⟩, fun q m k hq h3 h4 => ?_⟩
  have hC := h.dat q m k hq h3 h4
  obtain ⟨c2, h5, -⟩ := hC.blk
  exact hC.keep (b.block k (Array.getElem?_eq_some_iff.1 h5).1)
theorem Spl.cells {V wx : World} {g : Nat} {cs : List Im} {gs : List Nat} {i j : Nat} (h : Spl V wx g cs gs i j) {m : Im} (hm : cs[i]? = some m) : wx.cell? ⟨g, i * 3, none⟩ = some (.string m.p) ∧ wx.cell? ⟨g, i * 3 + 1, none⟩ = some (.int .i8 m.k) ∧ wx.cell? ⟨g, i * 3 + 2, none⟩ = some (.slice m.a m.x.length m.c) := by
  obtain ⟨cur, h1, h2⟩ := h.row
  obtain ⟨a0, a1, a2⟩ := h2 i m (Nat.le_refl _) hm
  exact ⟨by rw [cell_of_row wx g _ _ _ _ h1]; exact a0, by rw [cell_of_row wx g _ _ _ _ h1]; exact a1, by rw [cell_of_row wx g _ _ _ _ h1]; exact a2⟩
theorem Cpy.sign {W : World} {m : Im} {g : Nat} (h : Cpy W m g) : W.cell? ⟨g, m.x.length, none⟩ = some (.int .u8 165) := by
  obtain ⟨cur, h1, h2⟩ := h.blk
  rw [cell_of_row W g _ _ _ _ h1]
  have h3 : (cur.toList.take (m.x.length + 1))[m.x.length]? = some (.int .u8 165) := by
    rw [h2, show bcells (m.x ++ [165]) = bcells m.x ++ bcells [165] by simp [bcells], List.getElem?_append_right (by rw [bcells_length]; exact Nat.le_refl _), bcells_length, Nat.sub_self]
    rfl
  rw [List.getElem?_take, if_pos (by omega)] at h3
  simpa using h3
/-- Bytes that may be written over. -/
def Wri (W : World) (g n : Nat) : Prop := ∃ cur, W.heap[g]? = some (.cells cur 5 (0, 0)) ∧ n ≤ cur.size
theorem Cpy.wri {W : World} {m : Im} {g : Nat} (h : Cpy W m g) : Wri W g m.x.length := by
  obtain ⟨cur, h1, h2⟩ := h.blk
  refine ⟨cur, h1, ?_⟩
  have := congrArg List.length h2
  rw [List.length_take, bcells_length, Array.length_toList, List.length_append, List.length_singleton] at this
  omega
/-- One byte of the i-th is written over. -/
theorem Spl.byte {V wx : World} {g : Nat} {cs : List Im} {gs : List Nat} {i : Nat} (h : Spl V wx g cs gs i (i + 1)) (hd : gs.Pairwise (· < ·)) {k : Nat} (hk : gs[i]? = some k) {n j : Nat} (hW : Wri wx k n) (hj : j < n) (v : Value) :
    (∃ u, wx.cell? ⟨k, j, none⟩ = some u) ∧ wx.frozen? ⟨k, j, none⟩ = false ∧ Aside (Spl V (wx.setCell ⟨k, j, none⟩ v) g cs gs i (i + 1) ∧ Wri (wx.setCell ⟨k, j, none⟩ v) k n) := by
  obtain ⟨cur, h1, h2⟩ := hW
  obtain ⟨cr, h3, h4⟩ := h.row
  refine ⟨⟨cur[j]'(by omega), by rw [cell_of_row wx k j _ _ _ h1, Array.getElem?_eq_getElem]⟩, frozen_of_row wx k j _ _ h1, ⟨h.upd.trans (Upd.setCell (F := fun q => q = k) (p := ⟨k, j, none⟩) rfl v) (fun q _ hq => .inr (by rw [hq]; exact List.mem_of_getElem? hk)), ⟨cr, set_far h3 (scr_ne h1 h3 (by decide)), h4⟩, fun q m kq hq h5 h6 => ?_⟩, ⟨_, set_same h1, by rw [Array.size_setIfInBounds]; exact h2⟩⟩
  have hC := h.dat q m kq hq h5 h6
  obtain ⟨c2, h7, -⟩ := hC.blk
  refine hC.keep ((set_far h7 (fun e => ?_)).trans h7.symm)
  have hil := (List.getElem?_eq_some_iff.1 hk).1
  have hql := (List.getElem?_eq_some_iff.1 h6).1
  have hp := List.pairwise_iff_getElem.1 hd i q hil hql (by omega)
  rw [(List.getElem?_eq_some_iff.1 hk).2, (List.getElem?_eq_some_iff.1 h6).2] at hp
  omega
/-- The i-th item is written over. -/
theorem Spl.item {V wx wy : World} {g : Nat} {cs : List Im} {gs : List Nat} {i : Nat} (h : Spl V wx g cs gs i (i + 1)) (hu : Upd (fun k => k = g) wx wy) (hr : ∀ cur, wx.heap[g]? = some (.cells cur 51 (0, 0)) → ∃ cur2, wy.heap[g]? = some (.cells cur2 51 (0, 0)) ∧ ∀ j, (i + 1) * 3 ≤ j → cur2[j]? = cur[j]?) : Spl V wy g cs gs (i + 1) (i + 1) := by
  obtain ⟨cr, h3, h4⟩ := h.row
  obtain ⟨c2, h5, h6⟩ := hr cr h3
  refine ⟨h.upd.trans hu (fun k _ hk => .inl hk), ⟨c2, h5, fun q m hq hm => ?_⟩, fun q m k hq h7 h8 => ?_⟩
  · obtain ⟨a0, a1, a2⟩ := h4 q m (by omega) hm
    exact ⟨by rw [h6 _ (by omega)]; exact a0, by rw [h6 _ (by omega)]; exact a1, by rw [h6 _ (by omega)]; exact a2⟩
  · have hC := h.dat q m k hq h7 h8
    obtain ⟨c3, h9, -⟩ := hC.blk
    refine hC.keep (hu.block k (Array.getElem?_eq_some_iff.1 h9).1 (fun e => ?_))
    rw [e, h3] at h9
    injection h9 with h9
    injection h9 with _ h9 _
    exact absurd h9 (by decide)
theorem Spl.item3 {V wx : World} {g : Nat} {cs : List Im} {gs : List Nat} {i : Nat} (h : Spl V wx g cs gs i (i + 1)) (v0 v1 v2 : Value) : Spl V (((wx.setCell ⟨g, i * 3, none⟩ v0).setCell ⟨g, i * 3 + 1, none⟩ v1).setCell ⟨g, i * 3 + 2, none⟩ v2) g cs gs (i + 1) (i + 1) := by
  refine h.item ?_ (fun cur hc => ⟨_, set_same (set_same (set_same hc)), fun j hj => ?_⟩)
  · exact ((Upd.setCell (F := fun k => k = g) (p := ⟨g, i * 3, none⟩) rfl _).trans (Upd.setCell (F := fun k => k = g) (p := ⟨g, i * 3 + 1, none⟩) rfl _) (fun _ _ h => h)).trans (Upd.setCell (F := fun k => k = g) (p := ⟨g, i * 3 + 2, none⟩) rfl _) (fun _ _ h => h)
  · rw [Array.getElem?_setIfInBounds_ne (by omega), Array.getElem?_setIfInBounds_ne (by omega), Array.getElem?_setIfInBounds_ne (by omega)]
end Go.Proofs.YtbnaegoahdcejaaGreatDoor

namespace Go.Proofs.YtbnaegoahdcejaaGreatDoor
open Go.RowKit Go.ChangeMaps

set_option maxRecDepth 20000 in
set_option maxHeartbeats 8000000 in
theorem spoil_any {w w' V : World} {a : Option Addr} {ms : List Im} {n c g c2 : Nat} {cs : List Im} {gs : List Nat} (hn : n = ms.length) (hnl : n ≤ 100000) (hI : Inp w a ms) (hB : ∀ m ∈ ms, m.x.length ≤ 1000000) (h : CopP w w' ms g c2 cs gs) (b : Below w'.heap.size w' V) :
    Calls Tryz.prog 13 #[.slice (some ⟨g, 0, none⟩) n c2, .slice a n c] V fun e W => e = .returned (.bool true) ∧ Upd (fun k => k = g ∨ k ∈ gs) V W := by
  have hIV := hI.below (h.bel.trans (b.mono h.bel.size))
  have hS0 := h.spl b
  have hcl : cs.length = n := by have := congrArg List.length h.its; simp at this; omega
  have hIm : Inp V (some ⟨g, 0, none⟩) cs := by
    refine ⟨fun _ => ⟨g, 0, rfl, fun j v hj => ?_⟩, fun m hm => ?_⟩
    · have := (row_below h.row b).cells (g := g) rfl j v (by rw [List.getElem?_append_left (List.getElem?_eq_some_iff.1 hj).1]; exact hj)
      simpa [Addr.add_lit] using this
    · obtain ⟨q, hq⟩ := List.getElem?_of_mem hm
      have hql : q < gs.length := by rw [h.cps.len]; exact (List.getElem?_eq_some_iff.1 hq).1
      obtain ⟨hC, hl⟩ := (h.cps.below b).cpy q m _ hq (List.getElem?_eq_getElem hql)
      have hd := hC.dat (lo := 0) (Nat.zero_le _)
      exact ⟨hd.bs, hd.cap, hd.top⟩
  have hroom : V.cell? ⟨g, n * 3, none⟩ = some (.string ⟨#[114, 111, 111, 109]⟩) := by
    have := (row_below h.row b).cells (g := g) rfl (n * 3) (.string ⟨#[114, 111, 111, 109]⟩) (by
      rw [List.getElem?_append_right (by rw [ims_length, hcl]; exact Nat.le_refl _), ims_length, hcl, Nat.sub_self]
      rfl)
    rwa [Addr.add_lit, Nat.zero_add] at this
  have hcap := h.cap
  rw [← hn] at hcap
  have sh : ∀ W, (Instr.slice 22 (.slice (some ⟨g, 0, none⟩) n c2) none (some (.int .i64 ((n : Int) + 1))) none).run Tryz.prog W = .ok (.slice (some ⟨g, 0, none⟩) (n + 1) c2) W := slice_up (some ⟨g, 0, none⟩) n c2 (n + 1) hcap
  have ASI := aside (sameItems_eq (some ⟨g, 0, none⟩) a cs ms n c2 c V hcl.symm (by omega) hIm hIV h.its)
  have AIV := aside hIV
  have AS0 := aside hS0
  have Acl := aside hcl
  have AN := aside hn
  have AB := aside hB
  have Adis := aside h.cps.dis
  have Alen := aside h.cps.len
  have Aits := aside h.its
  have hw1 : IntKind.i64.wrap ((n : Int) + 1) = ((n + 1 : Nat) : Int) := by rw [wrap_small _ (by omega) (by omega)]; simp
  have hg0 : g < V.heap.size := World.block_lt_of_cell? V _ hroom
  have hn0 : (0 : Int) ≤ (n : Int) := by omega
  have hn1 : (n : Int) < ((n + 1 : Nat) : Int) := by omega
  have hn2 : n < n + 1 := by omega
  have AIx : Aside (∀ wx, Upd (fun k => k = g ∨ k ∈ gs) V wx → Inp wx a ms) := fun wx hu => by
    have hbV : Below w.heap.size w V := h.bel.trans (b.mono h.bel.size)
    refine hI.below (hbV.trans (hu.below hbV.size (fun k hk => ?_)))
    rcases hk with rfl | hk
    · exact h.ge
    · obtain ⟨q, hq⟩ := List.getElem?_of_mem hk
      have hql : q < cs.length := by rw [← h.cps.len]; exact (List.getElem?_eq_some_iff.1 hq).1
      exact (h.cps.cpy q _ k (List.getElem?_eq_getElem hql) hq).2
  clear hI hB h b hIV hS0 hcl hIm hn hcap
  go_enter Tryz.func13, Tryz.ntmps13
  go_wp2_with fail
  refine ASI.out.mono ?_
  rintro e w1 ⟨rfl, hb1⟩
  have hroom1 : w1.cell? ⟨g, n * 3, none⟩ = some (.string ⟨#[114, 111, 111, 109]⟩) := (hb1.cell (p := ⟨g, n * 3, none⟩) hg0).trans hroom
  have AS1 := aside (AS0.out.below hb1)
  have Ab1 := aside hb1
  clear hb1 ASI hroom
  go_wp2_with fail
  go_loopg [5, 6, 7] n (fun q s5 s6 _ wx => ∃ i : Nat, i + q = n ∧ s5 = .bool true ∧ s6 = .int .i64 (i : Int) ∧ Spl V wx g cs gs i i)
  case atStart => exact ⟨0, by omega, rfl, rfl, AS1.out⟩
  case round =>
    obtain ⟨i, hiq, rfl, rfl, hS⟩ := hrel
    have AS := aside hS
    clear hS
    cases gk with
    | zero =>
      obtain rfl : i = n := by omega
      have hi : ¬ ((i : Nat) : Int) < (i : Int) := by omega
      go_wp2_with fail
      go_ret
      exact ⟨rfl, AS.out.upd⟩
    | succ gk0 =>
      have hi : (i : Int) < (n : Int) := by omega
      have hi0 : (0 : Int) ≤ (i : Int) := by omega
      have hwi : IntKind.i64.wrap ((i : Int) + 1) = ((i + 1 : Nat) : Int) := by rw [wrap_small _ (by omega) (by omega)]; simp
      obtain ⟨m, hmi⟩ : ∃ m, cs[i]? = some m := ⟨_, List.getElem?_eq_getElem (by rw [Acl.out]; omega)⟩
      obtain ⟨m2, hmi2⟩ : ∃ m, ms[i]? = some m := ⟨_, List.getElem?_eq_getElem (by rw [← AN.out]; omega)⟩
      obtain ⟨k, hki⟩ : ∃ k, gs[i]? = some k := ⟨_, List.getElem?_eq_getElem (by rw [Alen.out, Acl.out]; omega)⟩
      have hit : m.it = m2.it := by
        have h1 := congrArg (fun l : List It => l[i]?) Aits.out
        simpa only [List.getElem?_map, hmi, hmi2, Option.map_some, Option.some.injEq] using h1
      unfold Im.it at hit
      simp only [Prod.mk.injEq] at hit
      have hC := AS.out.dat i m k (Nat.le_refl _) hmi hki
      obtain ⟨-, -, a2⟩ := AS.out.cells hmi
      obtain ⟨gl, ol, rfl, -, -, l2⟩ := (AIx.out wr AS.out.upd).at hmi2
      rw [← hit.2.2] at l2
      have hsg := hC.sign
      have hcp := hC.cap
      rw [hC.at_] at a2
      have hxm : m.x.length ≤ 1000000 := by rw [hit.2.2]; exact AB.out m2 (List.mem_of_getElem? hmi2)
      have AW := aside hC.wri
      have Ami := aside hmi
      have Aki := aside hki
      have AS2 : Aside (Spl V wr g cs gs i (i + 1)) := ⟨AS.out.upd, AS.out.row, fun q m' k' hq h1 h2 => AS.out.dat q m' k' (by omega) h1 h2⟩
      have Aat := aside hC.at_
      obtain ⟨xl, hxl⟩ : ∃ xl, xl = m.x.length := ⟨_, rfl⟩
      rw [← hxl] at a2 l2 hsg hcp hxm AW
      have Axl := aside hxl
      have shb : ∀ W, (Instr.slice 48 (.slice (some ⟨k, 0, none⟩) xl m.c) none (some (.int .i64 ((xl : Int) + 1))) none).run Tryz.prog W = .ok (.slice (some ⟨k, 0, none⟩) (xl + 1) m.c) W := slice_upB (some ⟨k, 0, none⟩) xl m.c (xl + 1) hcp
      have hwx : IntKind.i64.wrap ((xl : Int) + 1) = ((xl + 1 : Nat) : Int) := by rw [wrap_small _ (by omega) (by omega)]; simp
      have hx0 : (0 : Int) ≤ (xl : Int) := by omega
      have hx1 : (xl : Int) < ((xl + 1 : Nat) : Int) := by omega
      have hx2 : xl < xl + 1 := by omega
      clear hit hC hmi hmi2 hki hxl
      go_wp2_with fail
      go_quiet (fail)
      go_wp2_with fail
      have Abq := aside (below_drn wr nq)
      go_loopg [7] xl (fun q s7 wx => ∃ j : Nat, j + q = xl ∧ s7 = .int .i64 (j : Int) ∧ Spl V wx g cs gs i (i + 1) ∧ Wri wx k xl)
      case atStart =>
        refine ⟨0, by omega, rfl, AS2.out.below Abq.out, ?_⟩
        obtain ⟨cur, h1, h2⟩ := AW.out
        exact ⟨cur, (Abq.out.block k (Array.getElem?_eq_some_iff.1 h1).1).trans h1, h2⟩
      case round =>
        rename World => wj
        obtain ⟨j, hjq, rfl, hSj, hWj⟩ := hrel
        obtain ⟨b0, b1, b2⟩ := hSj.cells Ami.out
        rw [Aat.out, ← Axl.out] at b2
        have ASj := aside hSj
        have AWj := aside hWj
        cases gk with
        | zero =>
          obtain rfl : j = xl := by omega
          have hj : ¬ (j : Int) < (j : Int) := by omega
          obtain ⟨cur, hcur, -⟩ := hSj.row
          have f0 := frozen_of_row wj g (i * 3) _ _ hcur
          have f1 := frozen_of_row wj g (i * 3 + 1) _ _ hcur
          have f2 := frozen_of_row wj g (i * 3 + 2) _ _ hcur
          have hfin := aside (hSj.item3 (.string ⟨#[115, 112, 111, 105, 108, 116]⟩) (.int .i8 77) (.slice none 0 0))
          clear hSj hWj hcur
          go_wp2_with fail
          go_roundg gk0
          case measure => omega
          case rel => exact ⟨i + 1, by omega, rfl, by first | rfl | simp, hfin.out⟩
        | succ g3 =>
          have hj : (j : Int) < (xl : Int) := by omega
          have hj0 : (0 : Int) ≤ (j : Int) := by omega
          have hwj : IntKind.i64.wrap ((j : Int) + 1) = ((j + 1 : Nat) : Int) := by rw [wrap_small _ (by omega) (by omega)]; simp
          obtain ⟨⟨o1, ho1⟩, hf1, hS1⟩ := hSj.byte Adis.out Aki.out hWj (j := j) (by omega) (.int .u8 122)
          clear hSj hWj b0 b1
          go_wp2_with fail
          go_roundg g3
          case measure => omega
          case rel => exact ⟨j + 1, by omega, by first | rfl | simp, hS1.out.1, hS1.out.2⟩
end Go.Proofs.YtbnaegoahdcejaaGreatDoor

namespace Go.Proofs.YtbnaegoahdcejaaGreatDoor
open Go.RowKit Go.ChangeMaps

theorem bulk_mem {ms : List Im} {m : Im} (h : m ∈ ms) : m.p.size + m.x.length ≤ bulk ms := by
  unfold bulk
  induction ms with
  | nil => simp at h
  | cons y l ih =>
    rw [List.map_cons, List.sum_cons]
    rcases List.mem_cons.1 h with rfl | h
    · omega
    · have := ih h; omega
theorem CopP.inp {w w' : World} {ms : List Im} {g c2 : Nat} {cs : List Im} {gs : List Nat} (h : CopP w w' ms g c2 cs gs) : Inp w' (some ⟨g, 0, none⟩) cs := by
  refine ⟨fun _ => ⟨g, 0, rfl, fun j v hj => ?_⟩, fun m hm => ?_⟩
  · have := h.row.cells (g := g) rfl j v (by rw [List.getElem?_append_left (List.getElem?_eq_some_iff.1 hj).1]; exact hj)
    simpa [Addr.add_lit] using this
  · obtain ⟨q, hq⟩ := List.getElem?_of_mem hm
    have hql : q < gs.length := by rw [h.cps.len]; exact (List.getElem?_eq_some_iff.1 hq).1
    obtain ⟨hC, hl⟩ := h.cps.cpy q m _ hq (List.getElem?_eq_getElem hql)
    have hd := hC.dat (lo := 0) (Nat.zero_le _)
    exact ⟨hd.bs, hd.cap, hd.top⟩
theorem CopP.lt {w w' : World} {ms : List Im} {g c2 : Nat} {cs : List Im} {gs : List Nat} (h : CopP w w' ms g c2 cs gs) : ∀ k, k = g ∨ k ∈ gs → w.heap.size ≤ k ∧ k < w'.heap.size := by
  rintro k (rfl | hk)
  · obtain ⟨cur, h1⟩ := row_tw h.row (g := k) rfl
    exact ⟨h.ge, (Array.getElem?_eq_some_iff.1 h1).1⟩
  · obtain ⟨q, hq⟩ := List.getElem?_of_mem hk
    have hql : q < cs.length := by rw [← h.cps.len]; exact (List.getElem?_eq_some_iff.1 hq).1
    exact ⟨(h.cps.cpy q _ k (List.getElem?_eq_getElem hql) hq).2, h.cps.top k hk⟩
theorem namD_of {its : List It} (h : ∀ i ∈ its, Fine i) (hx : ∀ i ∈ its, i.2.2.length ≤ 4194304) : NamD ([root0] ++ its.map peE) := fun e he => by
  rcases List.mem_append.1 he with he | he
  · rw [List.mem_singleton.1 he]
    exact ⟨by simp [root0], ⟨by simp [root0], fun _ => rfl⟩, fun n hn => by simp [root0] at hn⟩
  · obtain ⟨i, hi, rfl⟩ := List.mem_map.1 he
    obtain ⟨f1, f2, f3, f4, f5, f6⟩ := h i hi
    refine ⟨?_, ⟨hx i hi, fun hk => f4 ?_⟩, fun n hn => f6 n hn⟩
    · show (spl i.1.data.toList).length ≤ 64
      rw [spl_len]; omega
    · have : i.2.1.toNat = 1 := hk
      omega
theorem tr_kept {lo : Nat} {w w' : World} {S : List En} {F : Nat → Prop} (h : Tr lo w S) (hu : Upd F w w') (hF : ∀ k, F k → k < lo) : Tr lo w' S :=
  h.ch (P := fun _ => False) (Ch.of_upd hu (fun k hl _ hk => absurd (hF k hk) (by omega))) (fun _ _ _ _ h => h) (fun _ _ h => h) (fun _ _ h => h)
set_option maxRecDepth 20000 in
set_option maxHeartbeats 8000000 in
theorem treeMakes_walk (a : Option Addr) (ms : List Im) (n c : Nat) (w : World) (hn : n = ms.length) (hnl : n ≤ 140737488351232) (hI : Inp w a ms) (hF : Fits ms) (hM : Mxl w) : Calls Tryz.prog 3 #[.slice a n c] w fun e w' => e = .returned (.bool true) ∧ Below w.heap.size w w' := by
  have AI := aside hI
  have AM := aside hM
  have AN := aside hn
  have AG := aside (great_any a ms n c w hn hnl hI hF)
  clear hI hM hn hF
  go_enter Tryz.func3, Tryz.ntmps3
  go_wp2_with fail
  refine AG.out.mono ?_
  rintro e w1 ⟨hb1, q, rfl, hq⟩
  have AB1 := aside hb1
  clear AG hb1
  cases q with
  | true =>
    clear hq
    go_wp2_with fail
    refine (wakes19_any _ (AM.out.below AB1.out AM.out.lt)).mono ?_
    rintro e w2 ⟨rfl, hb2⟩
    have AB2 := aside hb2
    clear hb2
    go_wp2_with fail
    go_ret
    exact ⟨rfl, below_tr AB1.out AB2.out⟩
  | false =>
    obtain ⟨hq1, hq2⟩ := hq rfl
    have hn200 : n ≤ 200 := by rw [AN.out]; exact hq1
    have AL : Aside (∀ m ∈ ms, m.p.size ≤ 1000000 ∧ m.x.length ≤ 1000000) := fun m hm => by have := bulk_mem hm; omega
    have hI1 := AI.out.below AB1.out
    have ACp := aside (copied_any a ms n c w1 AN.out (by omega) hI1 (fun m hm => (AL.out m hm).2))
    have AI1 := aside hI1
    have AM1 := aside (AM.out.below AB1.out AM.out.lt)
    clear hq hq1 hq2 hI1
    go_wp2_with fail
    refine ACp.out.mono ?_
    rintro e w2 ⟨g, c2, cs, gs, rfl, hC⟩
    have AC := aside hC
    have hcl : cs.length = n := by have := congrArg List.length hC.its; simp at this; have := AN.out; omega
    have AM2 := aside (AM1.out.below hC.bel AM1.out.lt)
    have AK := aside (tmake_any (some ⟨g, 0, none⟩) cs n c2 w2 hcl.symm (by omega) hC.inp AM2.out)
    clear hC hcl ACp
    go_wp2_with fail
    refine AK.out.mono ?_
    rintro e w3 hP
    obtain ⟨cc, ci, T, hmk, hb3, h3⟩ := MakeP.told hP
    rw [AC.out.its] at hmk h3
    have Amk := aside hmk
    have Ab3 := aside hb3
    have ASp := aside (spoil_any (c := c) AN.out (by omega) AI1.out (fun m hm => (AL.out m hm).2) AC.out hb3)
    have hres : ∃ u : Value, e = .returned (.tuple #[u, .int .i64 cc, .int .i64 (ci : Int)]) ∧ ((cc ≠ 0 ∧ u = .pointer none) ∨ (cc = 0 ∧ ci = 0 ∧ ∃ S r, Tr w2.heap.size w3 S ∧ Told9 S r (ms.map Im.it) ∧ u = Pt r.nb)) := by
      rcases h3 with ⟨h0, rfl⟩ | ⟨h0, S, r, h1, h2, rfl⟩
      · exact ⟨_, rfl, .inl ⟨h0, rfl⟩⟩
      · have hci : ci = 0 := by
          subst h0
          exact (mkT_ok _ _ _ _ _ hmk).2.1
        subst h0; subst hci
        exact ⟨_, rfl, .inr ⟨rfl, rfl, S, r, h1, h2, rfl⟩⟩
    obtain ⟨u, rfl, hu⟩ := hres
    have Au := aside hu
    clear AK hP hmk hb3 h3 hu
    go_wp2_with fail
    refine ASp.out.mono ?_
    rintro e w4 ⟨rfl, hu4⟩
    have hlt := AC.out.lt
    have hb14 : Below w1.heap.size w1 w4 := (AC.out.bel.trans (Ab3.out.mono AC.out.bel.size)).trans (hu4.below (by have := AC.out.bel.size; have := Ab3.out.size; omega) (fun k hk => (hlt k hk).1))
    have AB4 := aside (below_tr AB1.out hb14)
    have Au4 := aside hu4
    have AI4 := aside (AI1.out.below hb14)
    have ARM := aside (rmake_any a ms n c w4 AN.out (by omega) AI4.out AL.out)
    have AM4 := aside (AM1.out.below hb14 AM1.out.lt)
    have Alt := aside hlt
    clear hu4 hlt hb14 ASp
    go_wp2_with fail
    refine ARM.out.mono ?_
    rintro e w5 hRP
    obtain ⟨cc2, ci2, T2, hmk2, hb5, h5⟩ := hRP
    have hsame := Amk.out.symm.trans hmk2
    simp only [Prod.mk.injEq] at hsame
    obtain ⟨rfl, rfl, rfl⟩ := hsame
    have AB5 := aside (below_tr AB4.out hb5)
    have AM5 := aside (AM4.out.below hb5 AM4.out.lt)
    have hfin : ∃ (v : Value) (ic : Int) (L : List It) (k1 k2 k3 : Int) (b : Bool), e = .returned (.tuple #[v, .int .i64 cc, .int .i64 (ci : Int)]) ∧ Pair w5 u v ic L k1 k2 k3 ∧ ((u = .pointer none ∧ v = .pointer none ∧ b = true) ∨ (b = false ∧ ∃ x y, u = Pt x ∧ v = Pt y)) := by
      rcases Au.out with ⟨h0, rfl⟩ | ⟨h0, h00, S, r, hT, hTo, rfl⟩
      · rcases h5 with ⟨-, rfl⟩ | ⟨h6, -⟩
        · exact ⟨_, 1, [], 0, 0, 1, true, rfl, pair_nil w5, .inl ⟨rfl, rfl, rfl⟩⟩
        · exact absurd h6 h0
      · rcases h5 with ⟨h6, -⟩ | ⟨-, rb, hD, rfl⟩
        · exact absurd h0 h6
        · subst h0; subst h00
          obtain ⟨j1, -, j3⟩ := mkT_ok _ _ _ _ _ Amk.out
          have hTr5 : Tr w2.heap.size w5 S := (tr_kept hT Au4.out (fun k hk => (Alt.out k hk).2)).below hb5
          have hND : NamD T := by
            rw [j1]
            refine namD_of j3 (fun i hi => ?_)
            obtain ⟨m, hm, rfl⟩ := List.mem_map.1 hi
            have := (AL.out m hm).2
            show m.x.length ≤ 4194304
            omega
          have hSE : SamE S T := SamE.of_pe (by rw [hTo.pes, j1]; rfl)
          obtain ⟨ic, L, k1, k2, k3, hP⟩ := pair_tree (d := root0) hTr5 hD.tr hND hSE hTo.rin hTo.rk hTo.rp (by rw [j1]; simp) rfl rfl
          exact ⟨_, ic, L, k1, k2, k3, false, rfl, hP, .inr ⟨rfl, _, _, rfl, rfl⟩⟩
    obtain ⟨v, ic, L, k1, k2, k3, b, rfl, hPr, hnil⟩ := hfin
    have ALk := aside (like_any hPr)
    clear hPr h5 hb5 hmk2 ARM
    rcases hnil with ⟨rfl, rfl, -⟩ | ⟨-, x, y, rfl, rfl⟩
    · go_wp2_with fail
      refine ALk.out.mono ?_
      rintro e w6 ⟨rfl, hb6⟩
      have AB6 := aside (below_tr AB5.out hb6)
      have AM6 := aside (AM5.out.below hb6 AM5.out.lt)
      clear hb6 ALk
      go_wp2_with fail
      refine (wakes19_any _ AM6.out).mono ?_
      rintro e w7 ⟨rfl, hb7⟩
      have AB7 := aside (below_tr AB6.out hb7)
      clear hb7
      go_wp2_with fail
      go_ret
      exact ⟨rfl, AB7.out⟩
    · go_wp2_with fail
      refine ALk.out.mono ?_
      rintro e w6 ⟨rfl, hb6⟩
      have AB6 := aside (below_tr AB5.out hb6)
      have AM6 := aside (AM5.out.below hb6 AM5.out.lt)
      clear hb6 ALk
      go_wp2_with fail
      refine (wakes19_any _ AM6.out).mono ?_
      rintro e w7 ⟨rfl, hb7⟩
      have AB7 := aside (below_tr AB6.out hb7)
      clear hb7
      go_wp2_with fail
      go_ret
      exact ⟨rfl, AB7.out⟩
end Go.Proofs.YtbnaegoahdcejaaGreatDoor
