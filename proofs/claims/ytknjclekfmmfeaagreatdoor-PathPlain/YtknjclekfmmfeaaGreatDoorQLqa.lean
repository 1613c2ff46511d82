/- Specs without links, as a row that grows; where no link is, Real is Clean. -/
import Derived.Test.YtknjclekfmmfeaaGreatDoorQLre
namespace Go.Proofs.YtknjclekfmmfeaaGreatDoor
open Go.RowKit Go.ChangeMaps

/-- The specs that are no links. -/
def fil (L : List Spx) : List Spx := L.filter fun s => !(s.k == 2)
theorem fil_mem {L : List Spx} {s : Spx} (h : s ∈ fil L) : s ∈ L ∧ s.k ≠ 2 := by
  obtain ⟨h1, h2⟩ := List.mem_filter.1 h
  exact ⟨h1, by simpa using h2⟩
theorem fil_len (L : List Spx) : (fil L).length ≤ L.length := List.length_filter_le _ _
theorem fil_take {L : List Spx} {i : Nat} {s : Spx} (h : L[i]? = some s) : fil (L.take (i + 1)) = fil (L.take i) ++ if s.k = 2 then [] else [s] := by
  rw [List.take_add_one, h]
  unfold fil
  rw [List.filter_append]
  congr 1
  by_cases hk : s.k = 2
  · simp [hk]
  · simp [hk]
theorem spc_snoc (L : List Spx) (s : Spx) : spc (L ++ [s]) = spc L ++ [.int .i64 s.i, .int .i64 s.o, .string (ba s.nm), .int .i8 s.k, .string (ba s.to)] := by
  unfold spc
  rw [List.flatMap_append]
  simp
/-- A growing row of specs. -/
def GwP (w : World) (lo : Nat) (v : Value) (l : List Spx) : Prop := w.ownsRow 0 55 5 v l.length (spc l) ∧ ∀ k, v.ownBlock = some k → lo ≤ k
theorem GwP.nil (w : World) (lo : Nat) : GwP w lo (.slice none 0 0) [] := ⟨⟨rfl, .inl ⟨rfl, rfl⟩⟩, fun k hk => by simp [Value.ownBlock] at hk⟩
theorem GwP.below {w w' : World} {lo : Nat} {v : Value} {l : List Spx} (h : GwP w lo v l) (b : Below w.heap.size w w') : GwP w' lo v l := ⟨row_below h.1 b, h.2⟩
theorem GwP.more {w w' : World} {lo : Nat} {v v' : Value} {l : List Spx} {x : Spx} (h : GwP w lo v l) (hlo : lo ≤ w.heap.size) (ho : w'.ownsRow 0 55 5 v' (l.length + 1) (spc l ++ [.int .i64 x.i, .int .i64 x.o, .string (ba x.nm), .int .i8 x.k, .string (ba x.to)])) (hu : Upd (fun k => v.ownBlock = some k) w w') (hv : v'.ownBlock = v.ownBlock ∨ v'.ownBlock = some w.heap.size) : GwP w' lo v' (l ++ [x]) ∧ Below lo w w' := by
  refine ⟨⟨by rw [spc_snoc, List.length_append]; exact ho, fun k hk => ?_⟩, hu.below hlo (fun k hk => h.2 k hk)⟩
  rcases hv with e | e
  · exact h.2 k (e ▸ hk)
  · rw [e] at hk
    simp only [Option.some.injEq] at hk
    omega
theorem GwP.at {w : World} {lo : Nat} {v : Value} {l : List Spx} (h : GwP w lo v l) : ∃ a c, v = .slice a l.length c ∧ SpAt w a l := by
  rcases h.1.2 with ⟨e, h0⟩ | ⟨g, c, cs, e, g1, g2, g3, g4, g5, g6⟩
  · have hl := List.eq_nil_of_length_eq_zero h0
    subst hl
    exact ⟨none, 0, e, fun hn => absurd rfl hn⟩
  · refine ⟨some ⟨g, 0, none⟩, c, e, fun _ => ⟨g, 0, rfl, fun j u hj => ?_⟩⟩
    rw [Nat.zero_add, cell_of_row w g j _ _ _ g2]
    rw [← g6, List.getElem?_take] at hj
    split at hj
    · simpa using hj
    · cases hj
theorem infoSpx : (Tryz.prog.info? 55).map (fun i => (i.zero, i.size, i.bytes)) = some (some (.agg #[.int .i64 0, .int .i64 0, .string ⟨#[]⟩, .int .i8 0, .string ⟨#[]⟩]), 5, 56) := by kernel_rfl
theorem Ld.nolink {w0 w : World} {wb n : Nat} {L : List Spx} {S : List Ne} (h : Ld w0 wb (fil L) n w S) : ∀ i, (nk (gr S) i).k ≠ 2 := fun i => by
  cases he : S[i]? with
  | none =>
    unfold nk gr
    rw [List.getElem?_map, he]
    decide
  | some e =>
    rw [gr_of he]
    intro hk
    obtain ⟨s, hs, h2⟩ := h.lnk i e he hk
    exact (fil_mem hs).2 h2
/-- Where no link is, a walk that ends well tells what Clean leaves. -/
theorem plain_real {G : Gr} (hG : ∀ i, (nk G i).k ≠ 2) {i : Nat} {p : B} (h : (wkF G i p true).1 = 0) : p.length ≤ 4096 ∧ ∃ b, cln (prt p) [] = some b ∧ reF (wkF G i p true) = (0, pth b) := by
  obtain ⟨R, hR⟩ : ∃ R, R = wkF G i p true := ⟨_, rfl⟩
  rw [← hR] at h ⊢
  have hb : beg G i p = 0 := by
    by_cases c : beg G i p = 0
    · exact c
    · unfold wkF at hR
      rw [if_pos c] at hR
      rw [hR] at h
      exact absurd h c
  have hl : p.length ≤ 4096 := by
    unfold beg at hb
    by_cases c : (nk G i).k ≠ 1
    · rw [if_pos c] at hb; cases hb
    · rw [if_neg c] at hb
      by_cases c2 : 4096 < p.length
      · rw [if_pos c2] at hb; cases hb
      · omega
  unfold wkF at hR
  rw [if_neg (by simp [hb])] at hR
  have hw : wlk G true 16 (prt p) [([], i)] = (0, R.2) := by rw [← hR, ← h]
  obtain ⟨r, hr, hc⟩ := wlk_cln hG 16 (prt p) i [] R.2 hw
  rw [List.map_nil] at hc
  have hn : R.2.tail.map (·.1) = r.map (·.1) := by rw [hr]; rfl
  refine ⟨hl, _, hc, ?_⟩
  have := cln_len hc
  unfold reF
  rw [if_neg (by simp [h]), hn, if_neg (by omega)]
/-- What Clean tells, cleaned again. -/
theorem clean_again {p : B} {b : List B} (hl : p.length ≤ 4096) (h : cln (prt p) [] = some b) : clA p = .tuple #[.string (ba (pth b)), .int .i64 0] ∧ clA (pth b) = .tuple #[.string (ba (pth b)), .int .i64 0] := by
  have := cln_len h
  refine ⟨?_, ?_⟩
  · unfold clA
    rw [if_neg (by omega), h]
  · unfold clA
    rw [if_neg (by omega), cln_cln h]
end Go.Proofs.YtknjclekfmmfeaaGreatDoor
