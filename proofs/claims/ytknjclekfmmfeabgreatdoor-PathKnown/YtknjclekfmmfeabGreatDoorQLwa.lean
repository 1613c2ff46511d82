/- The statements' own world of nodes: pick, dirs. -/
import Derived.Test.YtknjclekfmmfeabGreatDoorQRxb
import Derived.Test.YtknjclekfmmfeabGreatDoorGF
namespace Go.Proofs.YtknjclekfmmfeabGreatDoor
open Go.RowKit Go.ChangeMaps

/-- One of so many. -/
def pk (a : Int) (n : Nat) : Nat := if Int.tmod a (n : Int) < 0 then (Int.tmod a (n : Int) + n).toNat else (Int.tmod a (n : Int)).toNat
theorem pk_lt (a : Int) {n : Nat} (hn : 0 < n) : pk a n < n := by
  have hlt := Int.tmod_lt_of_pos a (b := (n : Int)) (by omega)
  unfold pk
  split <;> omega
set_option maxRecDepth 20000 in
set_option maxHeartbeats 1000000 in
theorem pick_val (a : Int) (n : Nat) (w : World) (hn : 0 < n) (hn2 : n ≤ 1000000) : Calls Tryz.prog 29 #[.int .i64 a, .int .i64 (n : Int)] w fun e w' => e = .returned (.int .i64 (pk a n : Int)) ∧ w' = w := by
  have hn0 : ((n : Int) == 0) = false := beq_eq_false_iff_ne.2 (by omega)
  have hn1 : ¬ (n : Int) = 0 := by omega
  have hlt := Int.tmod_lt_of_pos a (b := (n : Int)) (by omega)
  have hgt : -(n : Int) < Int.tmod a (n : Int) := by
    have h := Int.tmod_lt_of_pos (-a) (b := (n : Int)) (by omega)
    rw [Int.neg_tmod] at h
    omega
  obtain ⟨m, hm⟩ : ∃ m, m = Int.tmod a (n : Int) := ⟨_, rfl⟩
  rw [← hm] at hlt hgt
  have hwm : IntKind.i64.wrap m = m := by
    simp [IntKind.wrap, IntKind.bits, IntKind.signed]
    omega
  clear hwm
  go_enter Tryz.func29, Tryz.ntmps29
  go_wp2_with fail
  · go_ret
    refine ⟨?_, rfl⟩
    have h1 : pk a n = (m + n).toNat := by unfold pk; rw [if_pos (by assumption), hm]
    have : (((m + n).toNat : Nat) : Int) = m + n := by omega
    rw [h1, this, hm]
    rfl
  · go_ret
    refine ⟨?_, rfl⟩
    have h1 : pk a n = m.toNat := by unfold pk; rw [if_neg (by omega), hm]
    have : ((m.toNat : Nat) : Int) = m := by omega
    rw [h1, this, hm]
    rfl
theorem pick_any (a : Int) (n : Nat) (w : World) (hn : 0 < n) (hn2 : n ≤ 1000000) : Calls Tryz.prog 29 #[.int .i64 a, .int .i64 (n : Int)] w fun e w' => ∃ r : Nat, r < n ∧ e = .returned (.int .i64 (r : Int)) ∧ w' = w :=
  (pick_val a n w hn hn2).mono fun _ _ ⟨h1, h2⟩ => ⟨pk a n, pk_lt a hn, h1, h2⟩
/-- The world of the statements: the nodes of either side, in the order of the records. -/
structure LW (w : World) (lo wb : Nat) (S : List Ne) : Prop where
  bnd : lo ≤ wb
  cel : ∃ lv xv, w.heap[wb]? = some (.cells #[lv, xv] 46 (0, 0)) ∧ RwAt w lo 29 lv (S.map fun e => Pt e.nb) ∧ RwAt w lo 61 xv (S.map fun e => Pt e.rb)
theorem LW.keep {w w' : World} {lo wb : Nat} {S : List Ne} (h : LW w lo wb S) (hk : ∀ (T : TypeId), (T = 46 ∨ T = 29 ∨ T = 61) → ∀ (g : Nat) (cs : Array Value), w.heap[g]? = some (Obj.cells cs T (0, 0)) → w'.heap[g]? = w.heap[g]?) : LW w' lo wb S := by
  obtain ⟨lv, xv, h1, h2, h3⟩ := h.cel
  exact ⟨h.bnd, lv, xv, (hk _ (.inl rfl) _ _ h1).trans h1, h2.keep (hk _ (.inr (.inl rfl))), h3.keep (hk _ (.inr (.inr rfl)))⟩
theorem LW.below {w w' : World} {lo wb : Nat} {S : List Ne} (h : LW w lo wb S) (b : Below w.heap.size w w') : LW w' lo wb S := h.keep (fun _ _ g _ hg => b.block g (Array.getElem?_eq_some_iff.1 hg).1)
/-- What is at a place of either row. -/
theorem LW.at {w : World} {lo wb : Nat} {S : List Ne} (h : LW w lo wb S) : ∃ g c g' c', w.cell? ⟨wb, 0, none⟩ = some (.slice (some ⟨g, 0, none⟩) S.length c) ∧ w.cell? ⟨wb, 1, none⟩ = some (.slice (some ⟨g', 0, none⟩) S.length c') ∧ (∀ (i : Nat) (e : Ne), S[i]? = some e → w.cell? ⟨g, i, none⟩ = some (Pt e.nb) ∧ w.cell? ⟨g', i, none⟩ = some (Pt e.rb)) ∧ wb < w.heap.size ∧ (∀ j, w.frozen? ⟨wb, j, none⟩ = false) := by
  obtain ⟨lv, xv, h1, h2, h3⟩ := h.cel
  obtain ⟨g, c, cs, e1, -⟩ := id h2
  obtain ⟨g', c', cs', e2, -⟩ := id h3
  rw [e1] at h2
  rw [e2] at h3
  rw [List.length_map] at e1 e2
  refine ⟨g, c, g', c', ?_, ?_, fun i e he => ⟨h2.cell (by rw [List.getElem?_map, he]; rfl), h3.cell (by rw [List.getElem?_map, he]; rfl)⟩, (Array.getElem?_eq_some_iff.1 h1).1, fun j => frozen_of_row w wb j _ _ h1⟩
  · rw [cell_of_row w wb 0 _ _ _ h1, e1]; rfl
  · rw [cell_of_row w wb 1 _ _ _ h1, e2]; rfl
def nums (l : List Nat) : List Value := l.map fun i : Nat => Value.int .i64 (i : Int)
/-- A growing row of numbers. -/
def GwI (w : World) (lo : Nat) (v : Value) (l : List Nat) : Prop := w.ownsRow 0 3 1 v l.length (nums l) ∧ ∀ k, v.ownBlock = some k → lo ≤ k
theorem GwI.nil (w : World) (lo : Nat) : GwI w lo (.slice none 0 0) [] := ⟨⟨rfl, .inl ⟨rfl, rfl⟩⟩, fun k hk => by simp [Value.ownBlock] at hk⟩
theorem GwI.below {w w' : World} {lo : Nat} {v : Value} {l : List Nat} (h : GwI w lo v l) (b : Below w.heap.size w w') : GwI w' lo v l := ⟨row_below h.1 b, h.2⟩
theorem GwI.more {w w' : World} {lo : Nat} {v v' : Value} {l : List Nat} {x : Nat} (h : GwI w lo v l) (hlo : lo ≤ w.heap.size) (ho : w'.ownsRow 0 3 1 v' (l.length + 1) (nums l ++ [.int .i64 (x : Int)])) (hu : Upd (fun k => v.ownBlock = some k) w w') (hv : v'.ownBlock = v.ownBlock ∨ v'.ownBlock = some w.heap.size) : GwI w' lo v' (l ++ [x]) ∧ Below lo w w' := by
  refine ⟨⟨by unfold nums; rw [List.map_append, List.length_append]; exact ho, fun k hk => ?_⟩, hu.below hlo (fun k hk => h.2 k hk)⟩
  rcases hv with e | e
  · exact h.2 k (e ▸ hk)
  · rw [e] at hk
    simp only [Option.some.injEq] at hk
    omega
theorem GwI.get {w : World} {lo : Nat} {v : Value} {l : List Nat} (h : GwI w lo v l) (hl : l ≠ []) : ∃ g c, v = .slice (some ⟨g, 0, none⟩) l.length c ∧ ∀ (i x : Nat), l[i]? = some x → w.cell? ⟨g, i, none⟩ = some (.int .i64 (x : Int)) := by
  rcases h.1.2 with ⟨-, h0⟩ | ⟨g, c, cs, e, g1, g2, g3, g4, g5, g6⟩
  · exact absurd (List.eq_nil_of_length_eq_zero h0) hl
  · refine ⟨g, c, e, fun i x hx => ?_⟩
    have hj : (nums l)[i]? = some (.int .i64 (x : Int)) := by unfold nums; rw [List.getElem?_map, hx]; rfl
    rw [cell_of_row w g i _ _ _ g2]
    rw [← g6, List.getElem?_take] at hj
    split at hj
    · simpa using hj
    · cases hj
theorem infoI : (Tryz.prog.info? 3).map (fun i => (i.zero, i.size, i.bytes)) = some (some (.int .i64 0), 1, 8) := by kernel_rfl
/-- The places of directories among the first i. -/
def dls (S : List Ne) : Nat → List Nat
  | 0 => []
  | i + 1 => dls S i ++ (if (S[i]?.map Ne.k) = some 1 then [i] else [])
theorem dls_dir {S : List Ne} : ∀ {i q : Nat}, q ∈ dls S i → ∃ e, S[q]? = some e ∧ e.k = 1
  | 0, q, h => by simp [dls] at h
  | i + 1, q, h => by
    unfold dls at h
    rcases List.mem_append.1 h with h | h
    · exact dls_dir h
    · split at h
      · next hk =>
        simp only [List.mem_singleton] at h
        subst h
        cases hS : S[q]? with
        | none => rw [hS] at hk; cases hk
        | some e => rw [hS] at hk; exact ⟨e, rfl, by simpa using hk⟩
      · simp at h
theorem dls_ne {S : List Ne} {e : Ne} (h : S[0]? = some e) (hk : e.k = 1) : ∀ {i : Nat}, 0 < i → dls S i ≠ []
  | 0, h0 => by omega
  | i + 1, _ => by
    unfold dls
    cases i with
    | zero => rw [h]; simp [hk]
    | succ i =>
      have := dls_ne h hk (i := i + 1) (by omega)
      simp [this]
theorem dls_len (S : List Ne) : ∀ i, (dls S i).length ≤ i
  | 0 => Nat.le_refl _
  | i + 1 => by
    have := dls_len S i
    unfold dls
    rw [List.length_append]
    split <;> simp <;> omega
set_option maxRecDepth 20000 in
set_option maxHeartbeats 4000000 in
theorem dirs_any {w : World} {lo wb : Nat} {S : List Ne} (h : LW w lo wb S) (hR : RX lo w S) (hS : S.length ≤ 1000000) :
    Calls Tryz.prog 28 #[Pt wb] w fun e w' => ∃ v, e = .returned v ∧ GwI w' w.heap.size v (dls S S.length) ∧ Below w.heap.size w w' := by
  obtain ⟨g, c, g', c', hc0, hc1, hat, hwb, -⟩ := h.at
  have Aat : Aside (∀ (i : Nat) (e : Ne), S[i]? = some e → w.cell? ⟨g', i, none⟩ = some (Pt e.rb) ∧ w.cell? ⟨e.rb, 0, none⟩ = some (.int .i8 e.k)) := fun i e he => by
    refine ⟨(hat i e he).2, ?_⟩
    obtain ⟨-, f, m, K, hc, -⟩ := hR.nod i e he
    obtain ⟨a2, c2, h1, -⟩ := hc.cel
    rw [cell_of_row w e.rb 0 _ _ _ h1]; rfl
  obtain ⟨n, hn⟩ : ∃ n, n = S.length := ⟨_, rfl⟩
  have An := aside hn
  rw [← hn] at hc1 hS ⊢
  clear h hR hat hn hc0
  go_enter Tryz.func28, Tryz.ntmps28
  go_wp2_with fail
  go_loopg [3, 4, 10] n (fun gk s3 _ s10 wx => ∃ i : Nat, i + gk = n ∧ s10 = .int .i64 (i : Int) ∧ GwI wx w.heap.size s3 (dls S i) ∧ Below w.heap.size w wx)
  case atStart => exact ⟨0, by omega, rfl, GwI.nil _ _, Below.refl _ _⟩
  case round =>
    obtain ⟨i, hig, rfl, hgw, hbx⟩ := hrel
    have AG := aside hgw
    have AB := aside hbx
    clear hgw hbx
    cases gk with
    | zero =>
      obtain rfl : i = n := by omega
      have hi : ¬ (i : Int) < (i : Int) := by omega
      go_wp2_with fail
      go_ret
      exact ⟨_, rfl, AG.out, AB.out⟩
    | succ gk =>
      have hi : (i : Int) < (n : Int) := by omega
      have hi0 : (0 : Int) ≤ (i : Int) := by omega
      have hwi : IntKind.i64.wrap ((i : Int) + 1) = ((i + 1 : Nat) : Int) := by rw [wrap_small _ (by omega) (by omega)]; simp
      obtain ⟨e, he⟩ : ∃ e, S[i]? = some e := ⟨_, List.getElem?_eq_getElem (by rw [← An.out]; omega)⟩
      obtain ⟨hx1, hx2⟩ := Aat.out i e he
      have hc1r : wr.cell? ⟨wb, 1, none⟩ = some (.slice (some ⟨g', 0, none⟩) n c') := (AB.out.cell (p := ⟨wb, 1, none⟩) hwb).trans hc1
      have hx1r : wr.cell? ⟨g', i, none⟩ = some (Pt e.rb) := (AB.out.cell (World.block_lt_of_cell? w _ hx1)).trans hx1
      have hx2r : wr.cell? ⟨e.rb, 0, none⟩ = some (.int .i8 e.k) := (AB.out.cell (World.block_lt_of_cell? w _ hx2)).trans hx2
      have hdl := dls_len S i
      have Ahe := aside he
      obtain ⟨r, hr⟩ : ∃ r, r = e.rb := ⟨_, rfl⟩
      obtain ⟨k, hk⟩ : ∃ k, k = e.k := ⟨_, rfl⟩
      rw [← hr] at hx1r hx2r
      rw [← hk] at hx2r
      have Ak := aside hk
      clear hx1 hx2 he hr hk
      by_cases hk1 : k = 1
      · subst hk1
        have Adl : Aside (dls S (i + 1) = dls S i ++ [i]) := by
          show dls S (i + 1) = dls S i ++ [i]
          conv => lhs; unfold dls
          rw [Ahe.out, if_pos (by rw [Option.map_some, ← Ak.out])]
        obtain ⟨W, hW⟩ : ∃ W, W = wr.alloc (.cells #[.int .i64 (i : Int)] 3) := ⟨_, rfl⟩
        have hBW : Below wr.heap.size wr W := by rw [hW]; exact below_al _ _
        have AGW := aside (AG.out.below hBW)
        have ABW := aside (AB.out.trans (hBW.mono AB.out.size))
        have ASr : Aside (SrcAt W (.slice (some ⟨wr.heap.size, 0, none⟩) 1 1) 1 [.int .i64 (i : Int)]) := ⟨_, _, rfl, fun _ => ⟨_, rfl, fun j u hj => by
          rw [Addr.add_lit, Nat.zero_add, hW, cell_of_row _ _ j _ _ _ (heap_alloc_new wr _)]
          simpa using hj⟩⟩
        obtain ⟨dl, hdl2⟩ : ∃ dl, dl = (dls S i).length := ⟨_, rfl⟩
        have Aow := aside AGW.out.1
        rw [← hdl2] at Aow hdl
        have Adn := aside hdl2
        clear hBW hdl2
        go_wp2_with (at_builtin; rw [← hW]; refine wpList_append_any W rfl _ _ 65 rfl 3 (.int .i64 0) 1 8 Tryz.underlying65 infoI rfl (by omega) _ dl (nums (dls S i)) rfl Aow.out _ 1 [.int .i64 (i : Int)] rfl rfl ASr.out (by intro u hm; rw [List.mem_singleton.1 hm]; rfl) (by unfold maxLen; omega) (by omega) ?_; intro v4 w4 ho4 hu4 hv4; obtain ⟨h5, h6⟩ := AGW.out.more (x := i) ABW.out.size (by rw [← Adn.out]; exact ho4) hu4 hv4; have A5 := aside h5; have A6 := aside (ABW.out.trans h6); clear ho4 hu4 hv4 h5 h6)
        go_roundg gk
        case measure => omega
        case rel => exact ⟨i + 1, by omega, by first | rfl | simp, by rw [Adl.out]; exact A5.out, A6.out⟩
      · have hq : (k == 1) = false := beq_eq_false_iff_ne.2 hk1
        have Adl : Aside (dls S (i + 1) = dls S i) := by
          show dls S (i + 1) = dls S i
          conv => lhs; unfold dls
          rw [Ahe.out, if_neg (by rw [Option.map_some, ← Ak.out]; simpa using hk1), List.append_nil]
        go_wp2_with fail
        go_roundg gk
        case measure => omega
        case rel => exact ⟨i + 1, by omega, by first | rfl | simp, by rw [Adl.out]; exact AG.out, AB.out⟩
end Go.Proofs.YtknjclekfmmfeabGreatDoor
