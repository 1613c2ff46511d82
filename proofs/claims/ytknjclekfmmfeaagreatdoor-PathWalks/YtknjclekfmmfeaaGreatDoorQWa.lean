/- The document's walk, one part at a time; its way in memory. The document's walk: into a directory. The document's walk: one part, the mathematics. -/
import Derived.Test.YtknjclekfmmfeaaGreatDoorQRxb
import Derived.Test.YtknjclekfmmfeaaGreatDoorQPal
import Derived.Test.YtknjclekfmmfeaaGreatDoorQPrp
namespace Go.Proofs.YtknjclekfmmfeaaGreatDoor
open Go.RowKit Go.ChangeMaps

/-- One part: its code, the row behind it, the parts that come ahead of the rest, how many links are left. -/
def stp (G : Gr) (f : Bool) (k : Nat) (x : B) (row : Row) : Int × Row × List B × Nat :=
  if (nk G (lst row)).k ≠ 1 then (193, [], [], k)
  else if x = dd then (0, row.take (max (row.length - 1) 1), [], k)
  else if nameOk (ba x) = false then (190, [], [], k)
  else match lkp (nk G (lst row)).L x with
    | none => (192, [], [], k)
    | some i =>
      if (nk G i).k = 4 then (192, [], [], k)
      else if (nk G i).k = 3 then (0, row ++ [(x, (nk G i).u)], [], k)
      else if (nk G i).k = 2 then
        if f = false then (0, row ++ [(x, i)], [], k)
        else match k with
          | 0 => (200, [], [], 0)
          | k + 1 => (0, if abso (nk G i).to = true then row.take 1 else row, prt (nk G i).to, k)
      else (0, row ++ [(x, i)], [], k)
theorem stp_notdir {G : Gr} {row : Row} (f : Bool) (k : Nat) (x : B) (h : (nk G (lst row)).k ≠ 1) : stp G f k x row = (193, [], [], k) := by unfold stp; rw [if_pos h]
theorem stp_dd {G : Gr} {row : Row} (f : Bool) (k : Nat) (h : (nk G (lst row)).k = 1) : stp G f k dd row = (0, row.take (max (row.length - 1) 1), [], k) := by unfold stp; rw [if_neg (by simp [h]), if_pos rfl]
theorem stp_noname {G : Gr} {row : Row} (f : Bool) (k : Nat) {x : B} (h : (nk G (lst row)).k = 1) (hd : x ≠ dd) (hn : nameOk (ba x) = false) : stp G f k x row = (190, [], [], k) := by unfold stp; rw [if_neg (by simp [h]), if_neg hd, if_pos hn]
theorem stp_none {G : Gr} {row : Row} (f : Bool) (k : Nat) {x : B} (h : (nk G (lst row)).k = 1) (hd : x ≠ dd) (hn : nameOk (ba x) = true) (hl : lkp (nk G (lst row)).L x = none) : stp G f k x row = (192, [], [], k) := by unfold stp; rw [if_neg (by simp [h]), if_neg hd, if_neg (by rw [hn]; decide), hl]
theorem stp_some {G : Gr} {row : Row} (f : Bool) (k : Nat) {x : B} {i : Nat} (h : (nk G (lst row)).k = 1) (hd : x ≠ dd) (hn : nameOk (ba x) = true) (hl : lkp (nk G (lst row)).L x = some i) : stp G f k x row =
    (if (nk G i).k = 4 then (192, [], [], k)
    else if (nk G i).k = 3 then (0, row ++ [(x, (nk G i).u)], [], k)
    else if (nk G i).k = 2 then
      if f = false then (0, row ++ [(x, i)], [], k)
      else match k with
        | 0 => (200, [], [], 0)
        | k + 1 => (0, if abso (nk G i).to = true then row.take 1 else row, prt (nk G i).to, k)
    else (0, row ++ [(x, i)], [], k) : Int × Row × List B × Nat) := by unfold stp; rw [if_neg (by simp [h]), if_neg hd, if_neg (by rw [hn]; decide), hl]
theorem wlk_stp (G : Gr) (f : Bool) (k : Nat) (x : B) (l : List B) (row : Row) : wlk G f k (x :: l) row = if (stp G (f || !l.isEmpty) k x row).1 ≠ 0 then ((stp G (f || !l.isEmpty) k x row).1, []) else wlk G f (stp G (f || !l.isEmpty) k x row).2.2.2 ((stp G (f || !l.isEmpty) k x row).2.2.1 ++ l) (stp G (f || !l.isEmpty) k x row).2.1 := by
  obtain ⟨g, hg⟩ : ∃ g, g = (f || !l.isEmpty) := ⟨_, rfl⟩
  rw [← hg]
  by_cases h1 : (nk G (lst row)).k = 1
  · by_cases hd : x = dd
    · subst hd
      have e : stp G g k dd row = (0, row.take (max (row.length - 1) 1), [], k) := by unfold stp; rw [if_neg (by simp [h1]), if_pos rfl]
      rw [e, wlk_dd f k l h1]; rfl
    · cases hn : nameOk (ba x) with
      | false =>
        have e : stp G g k x row = (190, [], [], k) := by unfold stp; rw [if_neg (by simp [h1]), if_neg hd, if_pos hn]
        rw [e, wlk_noname f k l h1 hd hn]; rfl
      | true =>
        cases hl : lkp (nk G (lst row)).L x with
        | none =>
          have e : stp G g k x row = (192, [], [], k) := by unfold stp; rw [if_neg (by simp [h1]), if_neg hd, if_neg (by rw [hn]; decide), hl]
          rw [e, wlk_none f k l h1 hd hn hl]; rfl
        | some i =>
          rw [wlk_some f k l h1 hd hn hl, stp_some g k h1 hd hn hl]
          by_cases h4 : (nk G i).k = 4
          · rw [if_pos h4, if_pos h4]; rfl
          · rw [if_neg h4, if_neg h4]
            by_cases h3 : (nk G i).k = 3
            · rw [if_pos h3, if_pos h3]; rfl
            · rw [if_neg h3, if_neg h3]
              by_cases h2 : (nk G i).k = 2
              · rw [if_pos h2, if_pos h2]
                by_cases hf : f = false ∧ l = []
                · obtain ⟨rfl, rfl⟩ := hf
                  have : g = false := by rw [hg]; rfl
                  rw [if_pos ⟨rfl, rfl⟩, if_pos this]
                  simp [wlk_nil]
                · have : ¬ g = false := by
                    intro e
                    rw [hg] at e
                    simp only [Bool.or_eq_false_iff, Bool.not_eq_false', List.isEmpty_iff] at e
                    exact hf e
                  rw [if_neg hf, if_neg this]
                  cases k with
                  | zero => rfl
                  | succ k => rfl
              · rw [if_neg h2, if_neg h2]; rfl
  · have e : stp G g k x row = (193, [], [], k) := by unfold stp; rw [if_pos h1]
    rw [e, wlk_notdir f k x l h1]; rfl
/-- A row of the document's nodes that can be read. -/
def PrAt (w : World) (v : Value) (l : List Nat) : Prop :=
  ∃ a c, v = .slice a l.length c ∧ l.length ≤ c ∧ (l ≠ [] → ∃ g o cs, a = some ⟨g, o, none⟩ ∧ w.heap[g]? = some (.cells cs 37 (0, 0)) ∧ ∀ j x, l[j]? = some x → cs[o + j]? = some (Pt x))
theorem PrAt.keep {w w' : World} {v : Value} {l : List Nat} (h : PrAt w v l) (hk : ∀ (g : Nat) (cs : Array Value), w.heap[g]? = some (Obj.cells cs 37 (0, 0)) → w'.heap[g]? = w.heap[g]?) : PrAt w' v l := by
  obtain ⟨a, c, e, hc, h⟩ := h
  refine ⟨a, c, e, hc, fun hl => ?_⟩
  obtain ⟨g, o, cs, ea, h1, h2⟩ := h hl
  exact ⟨g, o, cs, ea, (hk g cs h1).trans h1, h2⟩
theorem PrAt.of_own {w : World} {v : Value} {l : List Nat} {b n : Nat} (h : w.ownsRow b 37 1 v n (l.map Pt)) : PrAt w v l := by
  have hn : n = l.length := by have := h.1; simp at this; omega
  subst hn
  rcases h.2 with ⟨rfl, h0⟩ | ⟨g, c, cs, rfl, h1, h2, h3, h4, h5, h6⟩
  · exact ⟨none, 0, by rw [h0], by omega, fun hl => absurd (List.eq_nil_of_length_eq_zero h0) hl⟩
  · refine ⟨_, c, rfl, h3, fun _ => ⟨g, 0, cs, rfl, h2, fun j x hj => ?_⟩⟩
    have hj2 : (l.map Pt)[j]? = some (Pt x) := by rw [List.getElem?_map, hj]; rfl
    rw [← h6, List.getElem?_take] at hj2
    split at hj2
    · rw [Nat.zero_add]; simpa using hj2
    · cases hj2
theorem PrAt.cut {w : World} {v : Value} {l : List Nat} (h : PrAt w v l) (k : Nat) (hk : k ≤ l.length) : ∃ a c, v = .slice a l.length c ∧ l.length ≤ c ∧ PrAt w (.slice a k c) (l.take k) := by
  obtain ⟨a, c, e, hc, h⟩ := h
  have hlen : (l.take k).length = k := by rw [List.length_take]; omega
  refine ⟨a, c, e, hc, a, c, by rw [hlen], by omega, fun hl => ?_⟩
  obtain ⟨g, o, cs, ea, h1, h2⟩ := h (fun e => hl (by rw [e]; simp))
  refine ⟨g, o, cs, ea, h1, fun j x hj => h2 j x ?_⟩
  rw [List.getElem?_take] at hj
  split at hj
  · exact hj
  · cases hj
theorem StAt.cutk {w : World} {v : Value} {l : List B} (h : StAt w v l) (k : Nat) (hk : k ≤ l.length) : ∃ a c, v = .slice a l.length c ∧ l.length ≤ c ∧ StAt w (.slice a k c) (l.take k) := by
  obtain ⟨a, c, e, hc, h⟩ := h
  have hlen : (l.take k).length = k := by rw [List.length_take]; omega
  refine ⟨a, c, e, hc, a, c, by rw [hlen], by omega, fun hl => ?_⟩
  obtain ⟨g, o, cs, ea, h1, h2⟩ := h (fun e => hl (by rw [e]; simp))
  refine ⟨g, o, cs, ea, h1, fun j x hj => h2 j x ?_⟩
  rw [List.getElem?_take] at hj
  split at hj
  · exact hj
  · cases hj
theorem PrAt.src {w : World} {v : Value} {l : List Nat} (h : PrAt w v l) : SrcAt w v l.length (l.map Pt) := by
  obtain ⟨a, c, e, hc, h⟩ := h
  refine ⟨a, c, e, fun hl => ?_⟩
  obtain ⟨g, o, cs, ea, h1, h2⟩ := h (fun e => by rw [e] at hl; simp at hl)
  refine ⟨_, ea, fun j u hj => ?_⟩
  rw [Addr.add_lit, cell_of_row w g _ _ _ _ h1]
  rw [List.getElem?_map, Option.map_eq_some_iff] at hj
  obtain ⟨x, hx, rfl⟩ := hj
  exact h2 j x hx
theorem pts_one (l : List Nat) : ∀ u ∈ l.map Pt, u.oneCell' = true := by
  intro u hm
  obtain ⟨x, -, rfl⟩ := List.mem_map.1 hm
  rfl
theorem sts_one (l : List B) : ∀ u ∈ l.map enS, u.oneCell' = true := by
  intro u hm
  obtain ⟨x, -, rfl⟩ := List.mem_map.1 hm
  rfl
/-- A way in memory: its directories, their names, where it stands, the last name, links that were followed. -/
def WyAt (w : World) (lo wb : Nat) (ds : List Nat) (ns : List B) (ab : Nat) (la : B) (n : Nat) : Prop :=
  lo ≤ wb ∧ ∃ rv nv, w.heap[wb]? = some (.cells #[rv, nv, Pt ab, .string (ba la), .int .i64 (n : Int)] 79 (0, 0)) ∧ PrAt w rv ds ∧ StAt w nv ns
theorem WyAt.keep {w w' : World} {lo wb : Nat} {ds : List Nat} {ns : List B} {ab : Nat} {la : B} {n : Nat} (h : WyAt w lo wb ds ns ab la n) (hk : ∀ (T : TypeId), (T = 79 ∨ T = 37 ∨ T = 9) → ∀ (g : Nat) (cs : Array Value), w.heap[g]? = some (Obj.cells cs T (0, 0)) → w'.heap[g]? = w.heap[g]?) : WyAt w' lo wb ds ns ab la n := by
  obtain ⟨h1, rv, nv, h2, h3, h4⟩ := h
  exact ⟨h1, rv, nv, (hk _ (.inl rfl) _ _ h2).trans h2, h3.keep (hk _ (.inr (.inl rfl))), h4.keep (hk _ (.inr (.inr rfl)))⟩
theorem WyAt.below {w w' : World} {lo wb : Nat} {ds : List Nat} {ns : List B} {ab : Nat} {la : B} {n : Nat} (h : WyAt w lo wb ds ns ab la n) (b : Below w.heap.size w w') : WyAt w' lo wb ds ns ab la n := h.keep (fun _ _ g _ hg => b.block g (Array.getElem?_eq_some_iff.1 hg).1)
theorem WyAt.cel {w : World} {lo wb : Nat} {ds : List Nat} {ns : List B} {ab : Nat} {la : B} {n : Nat} (h : WyAt w lo wb ds ns ab la n) : ∃ a c a' c', w.cell? ⟨wb, 0, none⟩ = some (.slice a ds.length c) ∧ w.cell? ⟨wb, 1, none⟩ = some (.slice a' ns.length c') ∧ w.cell? ⟨wb, 2, none⟩ = some (Pt ab) ∧ w.cell? ⟨wb, 3, none⟩ = some (.string (ba la)) ∧ w.cell? ⟨wb, 4, none⟩ = some (.int .i64 (n : Int)) ∧ (∀ j, w.frozen? ⟨wb, j, none⟩ = false) ∧ wb < w.heap.size ∧ PrAt w (.slice a ds.length c) ds ∧ StAt w (.slice a' ns.length c') ns ∧ ds.length ≤ c ∧ ns.length ≤ c' := by
  obtain ⟨-, rv, nv, h1, h2, h3⟩ := h
  obtain ⟨a, c, rfl, hc, -⟩ := id h2
  obtain ⟨a', c', rfl, hc', -⟩ := id h3
  exact ⟨a, c, a', c', by rw [cell_of_row w wb 0 _ _ _ h1]; rfl, by rw [cell_of_row w wb 1 _ _ _ h1]; rfl, by rw [cell_of_row w wb 2 _ _ _ h1]; rfl, by rw [cell_of_row w wb 3 _ _ _ h1]; rfl, by rw [cell_of_row w wb 4 _ _ _ h1]; rfl, fun j => frozen_of_row w wb j _ _ h1, (Array.getElem?_eq_some_iff.1 h1).1, h2, h3, hc, hc'⟩
/-- The document's way at a row. -/
structure Wyr (S : List Ne) (w : World) (lo wb : Nat) (row : Row) (n : Nat) : Prop where
  ne : row ≠ []
  inn : ∀ p ∈ row, p.2 < S.length
  dir : ∀ p ∈ row.dropLast, (nk (gr S) p.2).k = 1
  loc : ∃ ds ns la, WyAt w lo wb ds ns (rbr S (lst row)) la n ∧ ((nk (gr S) (lst row)).k = 1 → ds = row.map (fun p => rbr S p.2) ∧ ns = row.tail.map (·.1)) ∧ ((nk (gr S) (lst row)).k ≠ 1 → ∃ r x i, r ≠ [] ∧ row = r ++ [(x, i)] ∧ ds = r.map (fun p => rbr S p.2) ∧ ns = r.tail.map (·.1) ∧ la = x)
theorem Wyr.below {S : List Ne} {w w' : World} {lo wb : Nat} {row : Row} {n : Nat} (h : Wyr S w lo wb row n) (b : Below w.heap.size w w') : Wyr S w' lo wb row n := by
  obtain ⟨ds, ns, la, h1, h2⟩ := h.loc
  exact ⟨h.ne, h.inn, h.dir, ds, ns, la, h1.below b, h2⟩
theorem lst_lt {S : List Ne} {w : World} {lo wb : Nat} {row : Row} {n : Nat} (h : Wyr S w lo wb row n) : lst row < S.length := by
  obtain ⟨p, hp, e⟩ := lst_mem h.ne
  rw [e]; exact h.inn p hp
theorem lkp_srt {S : List Ne} {K L : List (B × Nat)} (hK : K.Perm L) (hs : Srt K) {x : B} : (∀ j, lkp L x = some j → ∃ q, (rks S K)[rpl (rks S K) x]? = some (x, q) ∧ rth (rks S K) x = true ∧ q = rbr S j) ∧ (lkp L x = none → rth (rks S K) x = false) := by
  refine ⟨fun j hj => ?_, fun hn => ?_⟩
  · have hm := hK.mem_iff.2 (lkp_mem hj)
    have ht : rth (rks S K) x = true := (rth_srt S x hs).2 ⟨j, hm⟩
    obtain ⟨⟨y, q⟩, hp, rfl⟩ := rth_some ht
    refine ⟨q, hp, ht, ?_⟩
    have hmem := List.mem_of_getElem? hp
    unfold rks at hmem
    obtain ⟨⟨z, j'⟩, hz, he⟩ := List.mem_map.1 hmem
    simp only [Prod.mk.injEq] at he
    obtain ⟨rfl, rfl⟩ := he
    have huniq : ∀ {K : List (B × Nat)}, Srt K → ∀ a b, (z, a) ∈ K → (z, b) ∈ K → a = b := by
      intro K
      induction K with
      | nil => intro _ a b h; simp at h
      | cons p K ih =>
        intro hs a b ha hb
        unfold Srt at hs
        rw [List.pairwise_cons] at hs
        rcases List.mem_cons.1 ha with ea | ha
        · rcases List.mem_cons.1 hb with eb | hb
          · rw [← ea] at eb; exact (Prod.mk.inj eb).2.symm
          · have := hs.1 _ hb
            rw [← ea] at this
            exact absurd this (List.lt_irrefl _)
        · rcases List.mem_cons.1 hb with eb | hb
          · have := hs.1 _ ha
            rw [← eb] at this
            exact absurd this (List.lt_irrefl _)
          · exact ih hs.2 a b ha hb
    rw [huniq hs _ _ hz hm]
  · cases ht : rth (rks S K) x with
    | false => rfl
    | true =>
      obtain ⟨j, hj⟩ := (rth_srt S x hs).1 ht
      have := lkp_isSome.2 ⟨j, hK.mem_iff.1 hj⟩
      rw [hn] at this
      cases this
/-- The document's Get. -/
def rgA (S : List Ne) (L : List (B × Nat)) (x : B) : Value := match lkp L x with | some j => .tuple #[Pt (rbr S j), .int .i64 0] | none => .tuple #[.pointer none, .int .i64 192]
theorem rget_at {lo : Nat} {w : World} {S : List Ne} (h : RX lo w S) {i : Nat} {e : Ne} (he : S[i]? = some e) (hk : e.k = 1) (hL : e.L.length ≤ 1000000) (x : B) :
    Calls Tryz.prog 82 #[Pt e.rb, .string (ba x)] w fun r w' => r = .returned (rgA S e.L x) ∧ Below w.heap.size w w' := by
  obtain ⟨-, f, m, K, hR, hK, hs, -⟩ := h.nod i e he
  rw [hk] at hR
  have hl : (rks S K).length ≤ 1000000 := by rw [rks_len, hK.length_eq]; exact hL
  unfold rgA
  cases hx : lkp e.L x with
  | some j =>
    obtain ⟨q, h1, h2, rfl⟩ := (lkp_srt (S := S) hK hs).1 j hx
    exact rGet_yes hR x hl h2 h1
  | none => exact rGet_no hR x hl ((lkp_srt (S := S) hK hs).2 hx)
/-- A node's cells on the document's side. -/
theorem RX.cel {lo : Nat} {w : World} {S : List Ne} (h : RX lo w S) {i : Nat} {e : Ne} (he : S[i]? = some e) : w.cell? ⟨e.rb, 0, none⟩ = some (.int .i8 e.k) ∧ w.cell? ⟨e.rb, 2, none⟩ = some (.string (ba e.to)) ∧ (e.k = 3 → w.cell? ⟨e.rb, 3, none⟩ = some (Pt (rbr S e.u))) ∧ e.rb < w.heap.size := by
  obtain ⟨-, f, m, K, hR, -, -, hm⟩ := h.nod i e he
  obtain ⟨a, c, h1, -⟩ := hR.cel
  refine ⟨by rw [cell_of_row w e.rb 0 _ _ _ h1]; rfl, by rw [cell_of_row w e.rb 2 _ _ _ h1]; rfl, fun hk => ?_, (Array.getElem?_eq_some_iff.1 h1).1⟩
  rw [cell_of_row w e.rb 3 _ _ _ h1, hm hk]; rfl
end Go.Proofs.YtknjclekfmmfeaaGreatDoor

namespace Go.Proofs.YtknjclekfmmfeaaGreatDoor
open Go.RowKit Go.ChangeMaps Go.Shelf

theorem infoR : (Tryz.prog.info? 37).map (fun i => (i.zero, i.size, i.bytes)) = some (some (.pointer none), 1, 8) := by kernel_rfl
theorem wy_far {w : World} {wb : Nat} {cs : Array Value} (h1 : w.heap[wb]? = some (.cells cs 79 (0, 0))) (i : Nat) (v : Value) (g : Nat) (ds : Array Value) (T : TypeId) (hT : T ≠ 79) (hg : w.heap[g]? = some (Obj.cells ds T (0, 0))) : (w.setCell ⟨wb, i, none⟩ v).heap[g]? = w.heap[g]? := (set_far hg (other_block hg h1 hT)).trans hg.symm
/-- Rows of strings stay as they are. -/
def Kst (w w' : World) : Prop := ∀ (g : Nat) (cs : Array Value), w.heap[g]? = some (Obj.cells cs 9 (0, 0)) → w'.heap[g]? = w.heap[g]?
theorem Kst.refl (w : World) : Kst w w := fun _ _ _ => rfl
theorem Kst.trans {w1 w2 w3 : World} (h : Kst w1 w2) (h' : Kst w2 w3) : Kst w1 w3 := fun g cs hg => by
  have e := h g cs hg
  rw [← e]
  exact h' g cs (e.trans hg)
theorem kst_below {w w' : World} (b : Below w.heap.size w w') : Kst w w' := fun g _ hg => b.block g (Array.getElem?_eq_some_iff.1 hg).1
theorem WyAt.kst {w : World} {lo wb : Nat} {ds : List Nat} {ns : List B} {ab : Nat} {la : B} {n : Nat} (h : WyAt w lo wb ds ns ab la n) (i : Nat) (v : Value) : Kst w (w.setCell ⟨wb, i, none⟩ v) := fun g cs hg => by
  obtain ⟨-, rv, nv, h1, -, -⟩ := h
  exact wy_far h1 i v g cs _ (by decide) hg
theorem wy_below {w : World} {lo wb : Nat} {cs : Array Value} (h1 : w.heap[wb]? = some (.cells cs 79 (0, 0))) (hlo : lo ≤ wb) (i : Nat) (v : Value) : Below lo w (w.setCell ⟨wb, i, none⟩ v) :=
  (Upd.setCell (F := fun j => j = wb) (p := ⟨wb, i, none⟩) rfl _).below (by have := (Array.getElem?_eq_some_iff.1 h1).1; omega) (fun j hj => by omega)
theorem WyAt.set0 {w : World} {lo wb : Nat} {ds : List Nat} {ns : List B} {ab : Nat} {la : B} {n : Nat} (h : WyAt w lo wb ds ns ab la n) {v : Value} {es : List Nat} (hv : PrAt w v es) : WyAt (w.setCell ⟨wb, 0, none⟩ v) lo wb es ns ab la n ∧ Below lo w (w.setCell ⟨wb, 0, none⟩ v) := by
  obtain ⟨hlo, rv, nv, h1, h2, h3⟩ := h
  exact ⟨⟨hlo, v, nv, set_row h1 0 _, hv.keep (fun g cs => wy_far h1 0 _ g cs _ (by decide)), h3.keep (fun g cs => wy_far h1 0 _ g cs _ (by decide))⟩, wy_below h1 hlo 0 _⟩
theorem WyAt.set1 {w : World} {lo wb : Nat} {ds : List Nat} {ns : List B} {ab : Nat} {la : B} {n : Nat} (h : WyAt w lo wb ds ns ab la n) {v : Value} {es : List B} (hv : StAt w v es) : WyAt (w.setCell ⟨wb, 1, none⟩ v) lo wb ds es ab la n ∧ Below lo w (w.setCell ⟨wb, 1, none⟩ v) := by
  obtain ⟨hlo, rv, nv, h1, h2, h3⟩ := h
  exact ⟨⟨hlo, rv, v, set_row h1 1 _, h2.keep (fun g cs => wy_far h1 1 _ g cs _ (by decide)), hv.keep (fun g cs => wy_far h1 1 _ g cs _ (by decide))⟩, wy_below h1 hlo 1 _⟩
theorem WyAt.set2 {w : World} {lo wb : Nat} {ds : List Nat} {ns : List B} {ab : Nat} {la : B} {n : Nat} (h : WyAt w lo wb ds ns ab la n) (d : Nat) : WyAt (w.setCell ⟨wb, 2, none⟩ (Pt d)) lo wb ds ns d la n ∧ Below lo w (w.setCell ⟨wb, 2, none⟩ (Pt d)) := by
  obtain ⟨hlo, rv, nv, h1, h2, h3⟩ := h
  exact ⟨⟨hlo, rv, nv, set_row h1 2 _, h2.keep (fun g cs => wy_far h1 2 _ g cs _ (by decide)), h3.keep (fun g cs => wy_far h1 2 _ g cs _ (by decide))⟩, wy_below h1 hlo 2 _⟩
theorem WyAt.set3 {w : World} {lo wb : Nat} {ds : List Nat} {ns : List B} {ab : Nat} {la : B} {n : Nat} (h : WyAt w lo wb ds ns ab la n) (x : B) : WyAt (w.setCell ⟨wb, 3, none⟩ (.string (ba x))) lo wb ds ns ab x n ∧ Below lo w (w.setCell ⟨wb, 3, none⟩ (.string (ba x))) := by
  obtain ⟨hlo, rv, nv, h1, h2, h3⟩ := h
  exact ⟨⟨hlo, rv, nv, set_row h1 3 _, h2.keep (fun g cs => wy_far h1 3 _ g cs _ (by decide)), h3.keep (fun g cs => wy_far h1 3 _ g cs _ (by decide))⟩, wy_below h1 hlo 3 _⟩
theorem WyAt.set4 {w : World} {lo wb : Nat} {ds : List Nat} {ns : List B} {ab : Nat} {la : B} {n : Nat} (h : WyAt w lo wb ds ns ab la n) (m : Nat) : WyAt (w.setCell ⟨wb, 4, none⟩ (.int .i64 (m : Int))) lo wb ds ns ab la m ∧ Below lo w (w.setCell ⟨wb, 4, none⟩ (.int .i64 (m : Int))) := by
  obtain ⟨hlo, rv, nv, h1, h2, h3⟩ := h
  exact ⟨⟨hlo, rv, nv, set_row h1 4 _, h2.keep (fun g cs => wy_far h1 4 _ g cs _ (by decide)), h3.keep (fun g cs => wy_far h1 4 _ g cs _ (by decide))⟩, wy_below h1 hlo 4 _⟩
/-- A row that was made new: it may be written further. -/
theorem own_empty (W : World) (T : TypeId) : (W.alloc (.cells #[] T)).ownsRow 0 T 1 (.slice (some ⟨W.heap.size, 0, none⟩) 0 0) 0 [] := ⟨rfl, .inr ⟨W.heap.size, 0, #[], rfl, Nat.zero_le _, heap_alloc_new W _, Nat.le_refl _, by unfold maxLen; omega, rfl, rfl⟩⟩
theorem grown_below {W W' : World} {lo : Nat} {v v' : Value} (hu : Upd (fun k => v.ownBlock = some k) W W') (hlo : lo ≤ W.heap.size) (hv : ∀ k, v.ownBlock = some k → lo ≤ k) (h : v'.ownBlock = v.ownBlock ∨ v'.ownBlock = some W.heap.size) : Below lo W W' ∧ ∀ k, v'.ownBlock = some k → lo ≤ k := by
  refine ⟨hu.below hlo hv, fun k hk => ?_⟩
  rcases h with e | e
  · exact hv k (e ▸ hk)
  · rw [e] at hk
    simp only [Option.some.injEq] at hk
    omega
theorem one_srcP {W o : World} {d : Nat} (hW : W = o.alloc (.cells #[Pt d] 37)) : SrcAt W (.slice (some ⟨o.heap.size, 0, none⟩) 1 1) 1 [Pt d] := ⟨_, _, rfl, fun _ => ⟨_, rfl, fun j u hj => by
  rw [Addr.add_lit, Nat.zero_add, hW, cell_of_row _ _ j _ _ _ (heap_alloc_new o _)]
  simpa using hj⟩⟩
theorem one_oneP (d : Nat) : ∀ u ∈ [Pt d], u.oneCell' = true := by
  intro u hm
  rw [List.mem_singleton.1 hm]; rfl
theorem wy_mid {w w2 : World} {lo wb : Nat} {ds es : List Nat} {ns : List B} {ab : Nat} {la : B} {n : Nat} {v : Value} (h : WyAt w lo wb ds ns ab la n) (b : Below w.heap.size w w2) (hp : PrAt w2 v es) :
    ∃ U U1 x4 x5, U = w2.setCell ⟨wb, 0, none⟩ v ∧ U1 = U.alloc (.cells #[] 9) ∧ WyAt U1 lo wb es ns ab la n ∧ Below lo w U1 ∧ Below w2.heap.size U U1 ∧ U1.cell? ⟨wb, 1, none⟩ = some (.slice x4 ns.length x5) ∧ U1.ownsRow 0 9 1 (.slice (some ⟨w2.heap.size, 0, none⟩) 0 0) 0 [] ∧ SrcAt U1 (.slice x4 ns.length x5) ns.length (ns.map enS) ∧ (∀ j, U1.frozen? ⟨wb, j, none⟩ = false) ∧ wb < U1.heap.size ∧ w2.heap.size ≤ U1.heap.size ∧ WyAt U lo wb es ns ab la n ∧ Below lo w U ∧ U.heap.size = w2.heap.size ∧ Kst w U := by
  have hlo : lo ≤ w.heap.size := by
    obtain ⟨a, c, a', c', h0, h1, -, -, -, hfz, hwb, -⟩ := h.cel
    have := h.1; omega
  obtain ⟨q3, q4⟩ := (h.keep (w' := w2) (fun _ _ g _ hg => b.block g (Array.getElem?_eq_some_iff.1 hg).1)).set0 hp
  have hsz : (w2.setCell ⟨wb, 0, none⟩ v).heap.size = w2.heap.size := by simp
  have bU1 := below_al (w2.setCell ⟨wb, 0, none⟩ v) (.cells #[] 9)
  have h5 := q3.below bU1
  obtain ⟨a, c, x4, x5, -, x6, -, -, -, x7, x8, -, x9, -, -⟩ := h5.cel
  exact ⟨_, _, x4, x5, rfl, rfl, h5, ((b.mono hlo).trans q4).trans (bU1.mono (Nat.le_trans hlo ((b.mono hlo).trans q4).size)), by rw [← hsz]; exact bU1, x6, by rw [← hsz]; exact own_empty _ _, x9.src, x7, x8, by have := bU1.size; omega, q3, (b.mono hlo).trans q4, hsz, (kst_below b).trans ((h.keep (w' := w2) (fun _ _ g _ hg => b.block g (Array.getElem?_eq_some_iff.1 hg).1)).kst 0 _)⟩
theorem wy_end {w w2 w4 U : World} {lo wb : Nat} {es : List Nat} {ns ms : List B} {ab : Nat} {la : B} {n : Nat} {v : Value} (h : WyAt U lo wb es ns ab la n) (hz : U.heap.size = w2.heap.size) (b : Below w2.heap.size U w4) (hp : StAt w4 v ms) (hb : Below lo w U) (hl : lo ≤ w2.heap.size) (d : Nat) :
    (∃ u, w4.cell? ⟨wb, 1, none⟩ = some u) ∧ w4.frozen? ⟨wb, 1, none⟩ = false ∧ (∃ u, (w4.setCell ⟨wb, 1, none⟩ v).cell? ⟨wb, 2, none⟩ = some u) ∧ (w4.setCell ⟨wb, 1, none⟩ v).frozen? ⟨wb, 2, none⟩ = false ∧ WyAt ((w4.setCell ⟨wb, 1, none⟩ v).setCell ⟨wb, 2, none⟩ (Pt d)) lo wb es ms d la n ∧ Below lo w ((w4.setCell ⟨wb, 1, none⟩ v).setCell ⟨wb, 2, none⟩ (Pt d)) ∧ Kst U ((w4.setCell ⟨wb, 1, none⟩ v).setCell ⟨wb, 2, none⟩ (Pt d)) := by
  have h4 := h.keep (w' := w4) (fun _ _ g _ hg => b.block g (by have := (Array.getElem?_eq_some_iff.1 hg).1; omega))
  obtain ⟨a, c, a', c', -, k1, -, -, -, k2, -⟩ := h4.cel
  obtain ⟨h5, b5⟩ := h4.set1 hp
  obtain ⟨e, e', e2, e3, -, -, j1, -, -, j2, -⟩ := h5.cel
  obtain ⟨h6, b6⟩ := h5.set2 d
  exact ⟨⟨_, k1⟩, k2 1, ⟨_, j1⟩, j2 2, h6, ((hb.trans (b.mono hl)).trans b5).trans b6, (kst_below (by rw [hz]; exact b)).trans ((h4.kst 1 _).trans (h5.kst 2 _))⟩
set_option maxRecDepth 20000 in
set_option maxHeartbeats 8000000 in
theorem rinto_any {w : World} {lo wb : Nat} {ds : List Nat} {ns : List B} {ab : Nat} {la : B} {n : Nat} (h : WyAt w lo wb ds ns ab la n) (hds : ds.length ≤ 200000) (hns : ns.length ≤ 200000) (d : Nat) (x : B) :
    Calls Tryz.prog 83 #[Pt wb, Pt d, .string (ba x)] w fun e w' => e = .returned (.tuple #[]) ∧ WyAt w' lo wb (ds ++ [d]) (ns ++ [x]) d la n ∧ Below lo w w' ∧ Kst w w' := by
  obtain ⟨a, c, a', c', h0, h1, -, -, -, hfz, hwb, hp, hs, -, -⟩ := h.cel
  have hlo : lo ≤ w.heap.size := by have := h.1; omega
  have AH := aside h
  obtain ⟨X, hX⟩ : ∃ X, X = ba x := ⟨_, rfl⟩
  have AX := aside hX
  rw [← hX]
  obtain ⟨W0, hW0⟩ : ∃ W0, W0 = w.alloc (.cells #[] 37) := ⟨_, rfl⟩
  have b0 : Below w.heap.size w W0 := by rw [hW0]; exact below_al _ _
  have AO0 : Aside (W0.ownsRow 0 37 1 (.slice (some ⟨w.heap.size, 0, none⟩) 0 0) 0 []) := by rw [hW0]; exact own_empty w _
  have AS0 := aside (hp.keep (fun g _ hg => b0.block g (Array.getElem?_eq_some_iff.1 hg).1)).src
  obtain ⟨k, hk⟩ : ∃ k, k = ds.length := ⟨_, rfl⟩
  obtain ⟨m, hm⟩ : ∃ m, m = ns.length := ⟨_, rfl⟩
  have Ak := aside hk
  have Am := aside hm
  rw [← hk] at h0 hds AS0
  rw [← hm] at h1 hns
  have h0W : W0.cell? ⟨wb, 0, none⟩ = some (.slice a k c) := (b0.cell (p := ⟨wb, 0, none⟩) hwb).trans h0
  have A0 := aside b0
  clear hX hk hm h hp hs b0
  go_enter Tryz.func83, Tryz.ntmps83
  go_wp2_with (at_builtin; first
    | (rw [← hV3]; refine wpList_append_any V3 rfl _ _ 62 rfl 9 (.string ByteArray.empty) 1 16 Tryz.underlying62 infoS rfl (by omega) v3 m (ns.map enS) rfl O3.out (.slice (some ⟨w3.heap.size, 0, none⟩) 1 1) 1 [.string X] rfl rfl S3.out (one_one X) (by unfold maxLen; omega) (by omega) ?_; intro v4 w4 ho4 hu4 hv4; obtain ⟨a4, c4, rfl, -⟩ := own_slice ho4; obtain ⟨q1, q2⟩ := grown_below hu4 B3s.out L3.out hv4; have P4 : Aside (StAt w4 (.slice a4 (m + 1) c4) (ns ++ [x])) := StAt.of_own (n := m + 1) (by rw [List.map_append, List.map_singleton, show enS x = .string X by rw [AX.out]]; exact ho4); obtain ⟨⟨u1, m1⟩, f1, ⟨u2, m2⟩, f2, r1, r2, r3⟩ := wy_end AU.out Uz.out (B3.out.trans q1) P4.out BU.out zl d; have R1 := aside r1; have R2 := aside r2; have R3 := aside (Kz.out.trans r3); clear ho4 hu4 hv4 q1 q2 r1 r2 r3)
    | (rw [← hU, ← hU1]; refine wpList_append_any U1 rfl _ _ 62 rfl 9 (.string ByteArray.empty) 1 16 Tryz.underlying62 infoS rfl (by omega) (.slice (some ⟨w2.heap.size, 0, none⟩) 0 0) 0 [] rfl O2.out (.slice x4 m x5) m (ns.map enS) rfl (by rw [List.length_map, ← Am.out]; simp) S2.out (enS_one ns) (by unfold maxLen; omega) (by omega) ?_; intro v3 w3 ho3 hu3 hv3; obtain ⟨q1, q2⟩ := grown_below (lo := w2.heap.size) hu3 z8.out (by intro k hk; simp only [Value.ownBlock, Option.some.injEq] at hk; omega) hv3; obtain ⟨V3, hV3⟩ : ∃ V3, V3 = w3.alloc (.cells #[.string X] 9) := ⟨_, rfl⟩; have bV3 : Below w3.heap.size w3 V3 := (by rw [hV3]; exact below_al _ _); have B3s : Aside (w2.heap.size ≤ V3.heap.size) := Nat.le_trans z8.out (Nat.le_trans q1.size bV3.size); have B3 := aside ((bU1A.out.trans q1).trans (bV3.mono (Nat.le_trans z8.out q1.size))); have O3 : Aside (V3.ownsRow 0 9 1 v3 m (ns.map enS)) := (by have := row_below ho3 bV3; rw [Nat.zero_add, List.nil_append] at this; exact this); have S3 := aside (one_src hV3); have L3 := aside q2; clear ho3 hu3 hv3 q1 q2 bV3)
    | (rw [← hV1]; refine wpList_append_any V1 rfl _ _ 30 rfl 37 (.pointer none) 1 8 Tryz.underlying30 infoR rfl (by omega) v1 k (ds.map Pt) rfl O1.out (.slice (some ⟨w1.heap.size, 0, none⟩) 1 1) 1 [Pt d] rfl rfl S1.out (one_oneP d) (by unfold maxLen; omega) (by omega) ?_; intro v2 w2 ho2 hu2 hv2; obtain ⟨a2, c2, rfl, -⟩ := own_slice ho2; obtain ⟨q1, q2⟩ := grown_below hu2 B1.out.size L1.out hv2; have B2 := aside (B1.out.trans q1); have P2 : Aside (PrAt w2 (.slice a2 (k + 1) c2) (ds ++ [d])) := PrAt.of_own (n := k + 1) (by rw [List.map_append]; exact ho2); have m0 := (B2.out.cell (p := ⟨wb, 0, none⟩) hwb).trans h0; have f0 := (B2.out.frozen (p := ⟨wb, 0, none⟩) hwb).trans (hfz 0); obtain ⟨U, U1, x4, x5, hU, hU1, z1, z2, z3, E1, z4, z5, z6, z7, z9, za, zb, zc, zd⟩ := wy_mid AH.out B2.out P2.out; have AU := aside za; have BU := aside zb; have Uz := aside zc; have Kz := aside zd; have AU1 := aside z1; have BU1 := aside z2; have bU1A := aside z3; have O2 := aside z4; have S2 := aside z5; have Ax7 := aside z6; have z8 := aside z9; have zl : lo ≤ w2.heap.size := Nat.le_trans hlo B2.out.size; rw [← Am.out] at E1 S2; rw [hU1, hU] at E1; clear ho2 hu2 hv2 q1 q2 z1 z2 z3 z4 z5 z6 z9 za zb zc zd)
    | (rw [← hW0]; refine wpList_append_any W0 rfl _ _ 30 rfl 37 (.pointer none) 1 8 Tryz.underlying30 infoR rfl (by omega) (.slice (some ⟨w.heap.size, 0, none⟩) 0 0) 0 [] rfl AO0.out (.slice a k c) k (ds.map Pt) rfl (by rw [List.length_map, ← Ak.out]; simp) AS0.out (pts_one ds) (by unfold maxLen; omega) (by omega) ?_; intro v1 w1 ho1 hu1 hv1; obtain ⟨q1, q2⟩ := grown_below (lo := w.heap.size) hu1 A0.out.size (by intro k hk; simp only [Value.ownBlock, Option.some.injEq] at hk; omega) hv1; obtain ⟨V1, hV1⟩ : ∃ V1, V1 = w1.alloc (.cells #[Pt d] 37) := ⟨_, rfl⟩; have bV1 : Below w1.heap.size w1 V1 := (by rw [hV1]; exact below_al _ _); have B1 := aside ((A0.out.trans q1).trans (bV1.mono (A0.out.trans q1).size)); have O1 : Aside (V1.ownsRow 0 37 1 v1 k (ds.map Pt)) := (by have := row_below ho1 bV1; rw [Nat.zero_add, List.nil_append] at this; exact this); have S1 := aside (one_srcP hV1); have L1 := aside q2; clear ho1 hu1 hv1 q1 q2 bV1))
  go_end0
  exact ⟨rfl, R1.out, R2.out, R3.out⟩
end Go.Proofs.YtknjclekfmmfeaaGreatDoor

namespace Go.Proofs.YtknjclekfmmfeaaGreatDoor
open Go.RowKit Go.ChangeMaps Go.Shelf

abbrev rbs (S : List Ne) (row : Row) : List Nat := row.map fun p => rbr S p.2
/-- What holds of the records that are walked over. -/
structure Sok (S : List Ne) : Prop where
  mnt : ∀ (i : Nat) (e : Ne), S[i]? = some e → e.k = 3 → ∃ d, S[e.u]? = some d ∧ d.k = 1
  kid : ∀ (i : Nat) (e : Ne) (x : B) (j : Nat), S[i]? = some e → (x, j) ∈ e.L → ∃ d, S[j]? = some d
  few : ∀ (i : Nat) (e : Ne), S[i]? = some e → e.L.length ≤ 1000000
  lnk : ∀ (i : Nat) (e : Ne), S[i]? = some e → e.k = 2 → e.to ≠ [] ∧ e.to.length ≤ 4096
theorem Wyr.dirs {S : List Ne} {w : World} {lo wb : Nat} {row : Row} {n : Nat} (h : Wyr S w lo wb row n) (hk : (nk (gr S) (lst row)).k = 1) : (∃ la, WyAt w lo wb (rbs S row) (row.tail.map (·.1)) (rbr S (lst row)) la n) ∧ ∀ p ∈ row, (nk (gr S) p.2).k = 1 := by
  obtain ⟨ds, ns, la, h1, h2, -⟩ := h.loc
  obtain ⟨rfl, rfl⟩ := h2 hk
  refine ⟨⟨la, h1⟩, fun p hp => ?_⟩
  have hc := List.dropLast_concat_getLast h.ne
  rw [← hc] at hp
  rcases List.mem_append.1 hp with hp | hp
  · exact h.dir p hp
  · rw [List.mem_singleton.1 hp]
    unfold lst at hk
    rw [List.getLast?_eq_some_getLast h.ne] at hk
    exact hk
theorem wyr_dir {S : List Ne} {w : World} {lo wb : Nat} {row : Row} {n : Nat} {la : B} (hne : row ≠ []) (hin : ∀ p ∈ row, p.2 < S.length) (hd : ∀ p ∈ row, (nk (gr S) p.2).k = 1) (h : WyAt w lo wb (rbs S row) (row.tail.map (·.1)) (rbr S (lst row)) la n) : Wyr S w lo wb row n := by
  refine ⟨hne, hin, fun p hp => hd p ((List.dropLast_sublist _).mem hp), _, _, la, h, fun _ => ⟨rfl, rfl⟩, fun hk => absurd ?_ hk⟩
  obtain ⟨p, hp, e⟩ := lst_mem hne
  rw [e]; exact hd p hp
theorem wyr_leaf {S : List Ne} {w : World} {lo wb : Nat} {row : Row} {n : Nat} {x : B} {j : Nat} (hne : row ≠ []) (hin : ∀ p ∈ row, p.2 < S.length) (hd : ∀ p ∈ row, (nk (gr S) p.2).k = 1) (hj : j < S.length) (hk : (nk (gr S) j).k ≠ 1) (h : WyAt w lo wb (rbs S row) (row.tail.map (·.1)) (rbr S j) x n) : Wyr S w lo wb (row ++ [(x, j)]) n := by
  refine ⟨by simp, fun p hp => ?_, fun p hp => ?_, _, _, x, by rw [lst_snoc]; exact h, fun hk2 => ?_, fun _ => ⟨row, x, j, hne, rfl, rfl, rfl, rfl⟩⟩
  · rcases List.mem_append.1 hp with hp | hp
    · exact hin p hp
    · rw [List.mem_singleton.1 hp]; exact hj
  · rw [List.dropLast_concat] at hp; exact hd p hp
  · rw [lst_snoc] at hk2; exact absurd hk2 hk
theorem row_push {row : Row} (hne : row ≠ []) (S : List Ne) (x : B) (j : Nat) : rbs S (row ++ [(x, j)]) = rbs S row ++ [rbr S j] ∧ (row ++ [(x, j)]).tail.map (·.1) = row.tail.map (·.1) ++ [x] := by
  refine ⟨by unfold rbs; rw [List.map_append]; rfl, ?_⟩
  cases row with
  | nil => exact absurd rfl hne
  | cons p r => simp
theorem wyr_push {S : List Ne} {w : World} {lo wb : Nat} {row : Row} {n : Nat} {x la : B} {j : Nat} (hne : row ≠ []) (hin : ∀ p ∈ row, p.2 < S.length) (hd : ∀ p ∈ row, (nk (gr S) p.2).k = 1) (hj : j < S.length) (hk : (nk (gr S) j).k = 1) (h : WyAt w lo wb (rbs S row ++ [rbr S j]) (row.tail.map (·.1) ++ [x]) (rbr S j) la n) : Wyr S w lo wb (row ++ [(x, j)]) n := by
  obtain ⟨e1, e2⟩ := row_push hne S x j
  refine wyr_dir (la := la) (by simp) (fun p hp => ?_) (fun p hp => ?_) (by rw [e1, e2, lst_snoc]; exact h)
  · rcases List.mem_append.1 hp with hp | hp
    · exact hin p hp
    · rw [List.mem_singleton.1 hp]; exact hj
  · rcases List.mem_append.1 hp with hp | hp
    · exact hd p hp
    · rw [List.mem_singleton.1 hp]; exact hk
/-- A row that is cut at k, not before its first. -/
theorem wyr_cut {S : List Ne} {w : World} {lo wb : Nat} {row : Row} {n k : Nat} {la : B} (hne : row ≠ []) (hin : ∀ p ∈ row, p.2 < S.length) (hd : ∀ p ∈ row, (nk (gr S) p.2).k = 1) (hk : 0 < k) (h : WyAt w lo wb ((rbs S row).take k) ((row.tail.map (·.1)).take (k - 1)) (rbr S (lst (row.take k))) la n) : Wyr S w lo wb (row.take k) n := by
  refine wyr_dir (la := la) (fun e => ?_) (fun p hp => hin p (List.mem_of_mem_take hp)) (fun p hp => hd p (List.mem_of_mem_take hp)) ?_
  · rw [List.take_eq_nil_iff] at e
    rcases e with e | e
    · omega
    · exact hne e
  · have e1 : rbs S (row.take k) = (rbs S row).take k := by unfold rbs; rw [List.map_take]
    have e2 : (row.take k).tail.map (·.1) = (row.tail.map (·.1)).take (k - 1) := by
      cases row with
      | nil => exact absurd rfl hne
      | cons p r =>
        obtain ⟨k, rfl⟩ : ∃ q, k = q + 1 := ⟨k - 1, by omega⟩
        simp [List.map_take]
    rw [e1, e2]; exact h
theorem rbs_last {S : List Ne} {row : Row} (hne : row ≠ []) : (rbs S row)[row.length - 1]? = some (rbr S (lst row)) := by
  unfold rbs lst
  rw [List.getElem?_map, ← List.getLast?_eq_getElem?, List.getLast?_eq_some_getLast hne]
  rfl
/-- What one part leaves. -/
def PartP (S : List Ne) (w : World) (lo wb : Nat) (s : Int × Row × List B × Nat) (e : Ending) (w' : World) : Prop :=
  ∃ v, e = .returned (.tuple #[v, .int .i64 s.1]) ∧ (s.1 = 0 → StAt w' v s.2.2.1 ∧ Wyr S w' lo wb s.2.1 (16 - s.2.2.2)) ∧ Below lo w w' ∧ Kst w w'
theorem st_nil (w : World) : StAt w (.slice none 0 0) [] := ⟨none, 0, rfl, Nat.le_refl _, fun h => absurd rfl h⟩
end Go.Proofs.YtknjclekfmmfeaaGreatDoor
