/- A walk in memory: where it stands, what it keeps, how it goes on. -/
import Derived.Test.YtknjclekfmmfeaaDoorPgr
import Derived.Test.YtknjclekfmmfeaaDoorPsp
namespace Go.Proofs.YtknjclekfmmfeaaDoor
open Go.RowKit Go.ChangeMaps Go.Shelf

/-- Parts that can be read. -/
def StAt (w : World) (lv : Value) (l : List B) : Prop :=
  ∃ a c, lv = .slice a l.length c ∧ l.length ≤ c ∧ (l ≠ [] → ∃ g o cs, a = some ⟨g, o, none⟩ ∧ w.heap[g]? = some (.cells cs 9 (0, 0)) ∧ ∀ j x, l[j]? = some x → cs[o + j]? = some (enS x))
theorem StAt.keep {w w' : World} {lv : Value} {l : List B} (h : StAt w lv l) (hk : ∀ (g : Nat) (cs : Array Value), w.heap[g]? = some (Obj.cells cs 9 (0, 0)) → w'.heap[g]? = w.heap[g]?) : StAt w' lv l := by
  obtain ⟨a, c, e, hc, h⟩ := h
  refine ⟨a, c, e, hc, fun hl => ?_⟩
  obtain ⟨g, o, cs, ea, h1, h2⟩ := h hl
  exact ⟨g, o, cs, ea, (hk g cs h1).trans h1, h2⟩
theorem StAt.of_own {w : World} {lv : Value} {l : List B} {b n : Nat} (h : w.ownsRow b 9 1 lv n (l.map enS)) : StAt w lv l := by
  have hn : n = l.length := by have := h.1; simp at this; omega
  subst hn
  rcases h.2 with ⟨rfl, h0⟩ | ⟨g, c, cs, rfl, h1, h2, h3, h4, h5, h6⟩
  · exact ⟨none, 0, by rw [h0], by omega, fun hl => absurd (List.eq_nil_of_length_eq_zero h0) hl⟩
  · refine ⟨_, c, rfl, h3, fun _ => ⟨g, 0, cs, rfl, h2, fun j x hj => ?_⟩⟩
    have hx : (l.map enS)[j]? = some (enS x) := by rw [List.getElem?_map, hj]; rfl
    rw [← h6, List.getElem?_take] at hx
    split at hx
    · rw [Nat.zero_add]; simpa using hx
    · cases hx
/-- The nodes that a row has, each in a block of its own. -/
def MsAt (w : World) (ad : Nat → Nat) (ms : List Nat) (row : Row) : Prop :=
  ms.length = row.length ∧ ∀ (j m : Nat) (p : B × Nat), ms[j]? = some m → row[j]? = some p → w.heap[m]? = some (Obj.cells #[.string (ba p.1), Pt (ad p.2)] 80 (0, 0))
theorem MsAt.keep {w w' : World} {ad : Nat → Nat} {ms : List Nat} {row : Row} (h : MsAt w ad ms row) (hk : ∀ (g : Nat) (cs : Array Value), w.heap[g]? = some (Obj.cells cs 80 (0, 0)) → w'.heap[g]? = w.heap[g]?) : MsAt w' ad ms row :=
  ⟨h.1, fun j m p h1 h2 => (hk m _ (h.2 j m p h1 h2)).trans (h.2 j m p h1 h2)⟩
/-- A walk: its row, what is left, how many links it followed. -/
structure WkAt (w : World) (lo wb : Nat) (ad : Nat → Nat) (row : Row) (l : List B) (n : Nat) : Prop where
  bnd : lo ≤ wb
  cel : ∃ rv lv ms, w.heap[wb]? = some (.cells #[rv, lv, .int .i64 (n : Int)] 83 (0, 0)) ∧ RwAt w lo 78 rv (ms.map Pt) ∧ MsAt w ad ms row ∧ StAt w lv l
theorem WkAt.keep {w w' : World} {lo wb : Nat} {ad : Nat → Nat} {row : Row} {l : List B} {n : Nat} (h : WkAt w lo wb ad row l n) (hk : ∀ (g : Nat) (cs : Array Value) (T : TypeId), (T = 83 ∨ T = 78 ∨ T = 80 ∨ T = 9) → w.heap[g]? = some (Obj.cells cs T (0, 0)) → w'.heap[g]? = w.heap[g]?) : WkAt w' lo wb ad row l n := by
  obtain ⟨rv, lv, ms, h1, h2, h3, h4⟩ := h.cel
  exact ⟨h.bnd, rv, lv, ms, (hk _ _ _ (by simp) h1).trans h1, h2.keep (fun g cs => hk g cs _ (by simp)), h3.keep (fun g cs => hk g cs _ (by simp)), h4.keep (fun g cs => hk g cs _ (by simp))⟩
theorem WkAt.below {w w' : World} {lo wb : Nat} {ad : Nat → Nat} {row : Row} {l : List B} {n : Nat} (h : WkAt w lo wb ad row l n) (b : Below w.heap.size w w') : WkAt w' lo wb ad row l n :=
  h.keep fun g _ _ _ hg => b.block g (Array.getElem?_eq_some_iff.1 hg).1
theorem ms_last {row : Row} {ms : List Nat} (hl : ms.length = row.length) (hr : row ≠ []) : ∃ m p, ms[ms.length - 1]? = some m ∧ row[ms.length - 1]? = some p ∧ lst row = p.2 := by
  have h0 : 0 < row.length := List.length_pos_iff.2 hr
  refine ⟨ms[ms.length - 1]'(by omega), row[ms.length - 1]'(by omega), List.getElem?_eq_getElem _, List.getElem?_eq_getElem _, ?_⟩
  unfold lst
  rw [List.getLast?_eq_getElem?]
  have e : row.length - 1 = ms.length - 1 := by omega
  simp only [e]
  rw [List.getElem?_eq_getElem (by omega)]
  rfl
set_option maxRecDepth 20000 in
set_option maxHeartbeats 2000000 in
theorem at_any {w : World} {lo wb : Nat} {ad : Nat → Nat} {row : Row} {l : List B} {n : Nat} (h : WkAt w lo wb ad row l n) (hr : row ≠ []) (hb : row.length ≤ 1000000) :
    Calls Tryd.prog 24 #[Pt wb] w fun e w' => e = .returned (Pt (ad (lst row))) ∧ Below w.heap.size w w' := by
  obtain ⟨-, rv, lv, ms, h1, h2, h3, h4⟩ := h
  obtain ⟨m, p, hm, hp, hlst⟩ := ms_last h3.1 hr
  have hmet := h3.2 _ m p hm hp
  have hq : w.cell? ⟨m, 1, none⟩ = some (Pt (ad p.2)) := by rw [cell_of_row w m 1 _ _ _ hmet]; rfl
  have c0 : w.cell? ⟨wb, 0, none⟩ = some rv := by rw [cell_of_row w wb 0 _ _ _ h1]; rfl
  obtain ⟨g, c, cs, hrv, -⟩ := id h2
  rw [hrv] at h2 c0
  have hn0 : 0 < ms.length := by rw [h3.1]; exact List.length_pos_iff.2 hr
  have hn1 : ms.length ≤ 1000000 := by rw [h3.1]; exact hb
  have hcl : w.cell? ⟨g, ms.length - 1, none⟩ = some (Pt m) := h2.cell (by rw [List.getElem?_map, hm]; rfl)
  rw [List.length_map] at c0
  rw [hlst]
  obtain ⟨k, hk⟩ : ∃ k, k = ms.length := ⟨_, rfl⟩
  rw [← hk] at c0 hcl hn0 hn1
  have hw : IntKind.i64.wrap ((k : Int) - 1) = ((k - 1 : Nat) : Int) := by rw [wrap_small _ (by omega) (by omega)]; omega
  obtain ⟨q, hq2⟩ : ∃ q, q = k - 1 := ⟨_, rfl⟩
  rw [← hq2] at hcl hw
  have hi0 : (0 : Int) ≤ (q : Int) := by omega
  have hi1 : (q : Int) < (k : Int) := by omega
  have E0 := fun dd os => ext_cell c0 dd os
  have E1 := fun dd os => ext_cell hcl dd os
  have E2 := fun dd os => ext_cell hq dd os
  clear h1 h2 h3 h4 hm hp hmet hlst hrv hk hq2
  go_enter Tryd.func24, Tryd.ntmps24
  go_wp2_with fail
  refine region_ext (by kernel_rfl) (by kernel_rfl) ?_
  repeat (any_goals (first | go_big_quiet_step (fail) | quiet_step (fail)))
  refine wpQuiet_nil ?_
  intro w7 hw7
  have AB := aside hw7
  clear hw7 E0 E1 E2
  go_wp2_with fail
  go_ret
  exact ⟨rfl, AB.out⟩
end Go.Proofs.YtknjclekfmmfeaaDoor
