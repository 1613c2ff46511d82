/- Add among such nodes; a new node beside them. -/
import Derived.Test.YtknjclekfmmfeabGreatDoorQPgx
namespace Go.Proofs.YtknjclekfmmfeabGreatDoor
open Go.RowKit Go.ChangeMaps

/-- What Add answers. -/
def adc (S : List Ne) (i : Nat) (d : Ne) (x : B) (j : Nat) (e : Ne) : Int :=
  if nameOk (ba x) = false then 190 else if (lkp d.L x).isSome = true then 191 else if 4096 ≤ d.L.length then 4
  else if e.k = 1 ∧ j ∈ i :: way S i i then 200 else if e.k = 1 ∧ e.par.isSome = true then 191 else tcode (way S i i).length 0
/-- The records behind it. -/
def sup (i j : Nat) (x : B) (a : Nat) (g : Ne) : Ne := { g with L := if a = i then g.L ++ [(x, j)] else g.L, par := if a = j ∧ g.k = 1 then some i else g.par }
def sadd (S : List Ne) (i j : Nat) (x : B) : List Ne := S.mapIdx (sup i j x)
theorem sadd_get {S : List Ne} {i j : Nat} {x : B} (a : Nat) : (sadd S i j x)[a]? = (S[a]?).map (sup i j x a) := by unfold sadd; rw [List.getElem?_mapIdx]
theorem sadd_some {S : List Ne} {i j : Nat} {x : B} {a : Nat} {g : Ne} (h : S[a]? = some g) : (sadd S i j x)[a]? = some (sup i j x a g) := by rw [sadd_get, h]; rfl
theorem sadd_len (S : List Ne) (i j : Nat) (x : B) : (sadd S i j x).length = S.length := by unfold sadd; rw [List.length_mapIdx]
theorem sadd_adr (S : List Ne) (i j : Nat) (x : B) : adr (sadd S i j x) = adr S := by
  funext a
  unfold adr
  rw [sadd_get]
  cases S[a]? <;> rfl
theorem sadd_dbr (S : List Ne) (i j : Nat) (x : B) : dbr (sadd S i j x) = dbr S := by
  funext a
  unfold dbr
  rw [sadd_get]
  cases S[a]? <;> rfl
theorem sadd_pv (S : List Ne) (i j : Nat) (x : B) (p : Option Nat) : pv (sadd S i j x) p = pv S p := by
  cases p with
  | none => rfl
  | some p => unfold pv; rw [sadd_dbr]
theorem sadd_kv (S : List Ne) (i j : Nat) (x : B) (L : List (B × Nat)) : kv (sadd S i j x) L = kv S L := by unfold kv; rw [sadd_adr]
/-- What is asked of e. -/
def mkX (e : Ne) : Option (Nat × Bool) := if e.k = 1 then some (e.db, e.par.isSome) else none
theorem NX.mk {lo : Nat} {w : World} {S : List Ne} {e : Ne} (h : NX lo w S e) : Mk w e.nb (mkX e) := by
  unfold mkX
  by_cases hk : e.k = 1
  · rw [if_pos hk]
    have hD := h.dr hk
    cases hp : e.par with
    | none => rw [hp] at hD; exact Mk.free _ _ _ hD
    | some p => rw [hp] at hD; exact Mk.held _ _ _ _ hD
  · rw [if_neg hk]
    obtain ⟨t, hN, ht⟩ := h.leaf hk
    exact Mk.other t _ hN ht
theorem GX.mem_way {lo : Nat} {w : World} {S : List Ne} (h : GX lo w S) {i j : Nat} {d e : Ne} (hi : S[i]? = some d) (hd : d.k = 1) (hj : S[j]? = some e) (he : e.k = 1) : e.db ∈ d.db :: (way S i i).map (dbr S) ↔ j ∈ i :: way S i i := by
  have key : ∀ q, q ∈ i :: way S i i → ∃ f, S[q]? = some f ∧ f.k = 1 := fun q hq => by
    rcases List.mem_cons.1 hq with rfl | hq
    · exact ⟨d, hi, hd⟩
    · exact h.way_dir _ _ q hq
  have hm : d.db :: (way S i i).map (dbr S) = (i :: way S i i).map (dbr S) := by rw [List.map_cons, dbr_of hi]
  rw [hm, List.mem_map]
  constructor
  · rintro ⟨q, hq, hqe⟩
    obtain ⟨f, hf, hfk⟩ := key q hq
    rw [dbr_of hf] at hqe
    by_cases hqj : q = j
    · exact hqj ▸ hq
    · exact absurd hqe (h.one q j f e hf hj hfk he hqj).1
  · intro hq
    exact ⟨j, hq, dbr_of hj⟩
theorem GX.code {lo : Nat} {w : World} {S : List Ne} (h : GX lo w S) {i j : Nat} {d e : Ne} (hi : S[i]? = some d) (hd : d.k = 1) (hj : S[j]? = some e) (x : B) (hh : Nat) (hE : e.k = 1 → j ∈ i :: way S i i ∨ e.par.isSome = true ∨ hh = 0) (hE2 : e.k ≠ 1 → hh = 0) :
    rcode (ba x) (kv S d.L) (mkX e) (d.db :: (way S i i).map (dbr S)) hh = adc S i d x j e := by
  unfold rcode adc
  rw [lk_kv, Option.isSome_map]
  have hkl : (kv S d.L).length = d.L.length := by unfold kv; rw [List.length_map]
  rw [hkl]
  split
  · rfl
  · split
    · rfl
    · split
      · rfl
      · by_cases he : e.k = 1
        · unfold mkX
          rw [if_pos he]
          unfold xcode
          simp only
          by_cases hm : j ∈ i :: way S i i
          · rw [if_pos ((h.mem_way hi hd hj he).2 hm), if_pos ⟨he, hm⟩]
          · rw [if_neg (fun e1 => hm ((h.mem_way hi hd hj he).1 e1))]
            by_cases hp : e.par.isSome = true
            · rw [if_pos hp, if_neg (c := e.k = 1 ∧ j ∈ i :: way S i i) (fun e1 => hm e1.2), if_pos ⟨he, hp⟩]
            · rw [if_neg hp, if_neg (c := e.k = 1 ∧ j ∈ i :: way S i i) (fun e1 => hm e1.2), if_neg (c := e.k = 1 ∧ e.par.isSome = true) (fun e1 => hp e1.2)]
              rcases hE he with e1 | e1 | e1
              · exact absurd e1 hm
              · exact absurd e1 hp
              · subst e1; simp
        · unfold mkX
          rw [if_neg he, if_neg (fun e1 => he e1.1), if_neg (fun e1 => he e1.1), hE2 he]
          unfold xcode
          simp
theorem cells_map {w : World} {a b : Nat} {ca : Array Value} {T : TypeId} {es : Array MapEntry} {c : Nat} (ha : w.heap[a]? = some (.cells ca T (0, 0))) (hb : w.heap[b]? = some (.map es c)) : a ≠ b := fun e => by
  rw [e, hb] at ha
  simp at ha
theorem dir_cells {w : World} {a b : Nat} {ca cb : Array Value} {T U : TypeId} (ha : w.heap[a]? = some (.cells ca T (0, 0))) (hb : w.heap[b]? = some (.cells cb U (0, 0))) (h : T ≠ U) : a ≠ b := fun e => by
  rw [e, hb] at ha
  injection ha with ha
  injection ha with h1 h2
  exact h h2.symm
/-- What stays of the others. -/
theorem NX.stay {lo : Nat} {w w' : World} {S S' : List Ne} {g g' : Ne} {F : Nat → Prop} (h : NX lo w S g) (u : Upd F w w')
    (hF : ∀ b, F b → (∃ es c, w.heap[b]? = some (.map es c)) ∨ (∃ cs, w.heap[b]? = some (.cells cs 106 (0, 0)))) (hm : g.k = 1 → ¬ F g.mb ∧ ¬ F g.db)
    (e1 : g'.k = g.k) (e2 : g'.nb = g.nb) (e3 : g'.db = g.db) (e4 : g'.mb = g.mb) (e5 : g'.to = g.to) (e6 : g'.u = g.u) (e7 : g'.L = g.L) (e8 : g'.par = g.par) (e9 : pv S' = pv S) (e10 : kv S' = kv S) (e11 : ∀ (a : Nat) (f : Ne), S[a]? = some f → ∃ f' : Ne, S'[a]? = some f' ∧ f'.k = f.k ∧ f'.db = f.db) : NX lo w' S' g' := by
  obtain ⟨h1, h2, h3, h4, h⟩ := h
  have hnF : ∀ {b : Nat} {cs : Array Value} {T : TypeId}, w.heap[b]? = some (.cells cs T (0, 0)) → T ≠ 106 → ¬ F b := fun hb hT hf => by
    rcases hF _ hf with ⟨es, c, hc⟩ | ⟨ds, hc⟩
    · exact cells_map hb hc rfl
    · exact dir_cells hb hc hT rfl
  refine ⟨by omega, by omega, by omega, by rw [e1, e7, e8]; exact h4, ?_⟩
  rw [e1, e2, e3, e4, e5, e6, e7, e8, e9, e10]
  rcases h with ⟨hk, h⟩ | ⟨hk, h⟩ | ⟨hk, ht, h⟩ | ⟨hk, d, hd, hdk, h⟩ | ⟨hk, h⟩
  · exact .inl ⟨hk, h.upd u (hnF h (by decide))⟩
  · exact .inr (.inl ⟨hk, h.upd u (hnF h.nod (by decide)) (hm hk).2 (hm hk).1⟩)
  · exact .inr (.inr (.inl ⟨hk, ht, h.upd u (hnF h.nod (by decide)) (hnF h.lnk (by decide))⟩))
  · obtain ⟨f, hf, hfk, hfd⟩ := e11 _ d hd
    refine .inr (.inr (.inr (.inl ⟨hk, f, hf, by omega, ?_⟩)))
    rw [hfd]
    exact h.upd u (hnF h.nod (by decide)) (hnF h.mnt (by decide))
  · exact .inr (.inr (.inr (.inr ⟨hk, h.upd u (hnF h (by decide))⟩)))
theorem adc_zero {S : List Ne} {i j : Nat} {d e : Ne} {x : B} (h : adc S i d x j e = 0) (hk : e.k = 1) : j ∉ i :: way S i i ∧ e.par = none := by
  unfold adc at h
  split at h
  · omega
  · split at h
    · omega
    · split at h
      · omega
      · split at h
        · omega
        · next h1 =>
          split at h
          · omega
          · next h2 => exact ⟨fun e1 => h1 ⟨hk, e1⟩, by simpa using fun e1 => h2 ⟨hk, e1⟩⟩
/-- The records behind an Add, where the memory is as it should be. -/
theorem GX.after {lo : Nat} {w w' : World} {S : List Ne} (h : GX lo w S) {i j : Nat} {d e : Ne} (hi : S[i]? = some d) (hd : d.k = 1) (hj : S[j]? = some e) {x : B} (hij : e.k = 1 → i < j) (hep : e.k = 1 → e.par = none)
    {F : Nat → Prop} (u : Upd F w w') (hF : ∀ b, F b → b = d.mb ∨ e.k = 1 ∧ b = e.db) (hD : Dr w' d.nb d.db d.mb (pv S d.par) (kv S (d.L ++ [(x, j)]))) (hE : e.k = 1 → Dr w' e.nb e.db e.mb (Pt d.db) (kv S e.L)) : GX lo w' (sadd S i j x) := by
  have hne : e.k = 1 → i ≠ j := fun hk => by have := hij hk; omega
  have hDm := (h.nod i d hi).dr hd
  have hF2 : ∀ b, F b → (∃ es c, w.heap[b]? = some (.map es c)) ∨ (∃ cs, w.heap[b]? = some (.cells cs 106 (0, 0))) := fun b hb => by
    rcases hF b hb with rfl | ⟨hk, rfl⟩
    · obtain ⟨es, c, hm, -⟩ := hDm.map
      exact .inl ⟨es, c, hm⟩
    · exact .inr ⟨_, ((h.nod j e hj).dr hk).dir⟩
  have e9 : pv (sadd S i j x) = pv S := funext (sadd_pv S i j x)
  have e10 : kv (sadd S i j x) = kv S := funext (sadd_kv S i j x)
  refine ⟨fun a f hf => ?_, fun a f p hf hp => ?_, fun a b f g hf hg hfk hgk hab => ?_, fun a f y b hf hy => ?_⟩
  · rw [sadd_get] at hf
    obtain ⟨g, hg, rfl⟩ := Option.map_eq_some_iff.1 hf
    have hN := h.nod a g hg
    by_cases hai : a = i
    · subst hai
      obtain rfl : d = g := by rw [hi] at hg; exact Option.some.inj hg
      obtain ⟨n1, n2, n3, -, -⟩ := hN
      refine ⟨n1, n2, n3, fun hk => absurd hd hk, .inr (.inl ⟨hd, ?_⟩)⟩
      rw [e9, e10]
      have hp : (sup a j x a d).par = d.par := by
        show (if a = j ∧ d.k = 1 then some a else d.par) = d.par
        rw [if_neg]
        rintro ⟨e1, -⟩
        subst e1
        obtain rfl : d = e := by rw [hi] at hj; exact Option.some.inj hj
        exact hne hd rfl
      have hl : (sup a j x a d).L = d.L ++ [(x, j)] := if_pos rfl
      rw [hp, hl]
      exact hD
    · by_cases haj : a = j ∧ g.k = 1
      · obtain ⟨rfl, hgk⟩ := haj
        obtain rfl : e = g := by rw [hj] at hg; exact Option.some.inj hg
        obtain ⟨n1, n2, n3, -, -⟩ := hN
        refine ⟨n1, n2, n3, fun hk => absurd hgk hk, .inr (.inl ⟨hgk, ?_⟩)⟩
        rw [e9, e10]
        have hp : (sup i a x a e).par = some i := if_pos ⟨rfl, hgk⟩
        have hl : (sup i a x a e).L = e.L := if_neg hai
        rw [hp, hl]
        show Dr w' e.nb e.db e.mb (Pt (dbr S i)) (kv S e.L)
        rw [dbr_of hi]
        exact hE hgk
      · refine hN.stay u hF2 (fun hk => ⟨fun hf2 => ?_, fun hf2 => ?_⟩) rfl rfl rfl rfl rfl rfl (if_neg hai) (if_neg haj) e9 e10 (fun b f2 hf2 => ⟨_, sadd_some hf2, rfl, rfl⟩)
        · rcases hF _ hf2 with e1 | ⟨hk2, e1⟩
          · exact (h.one a i g d hg hi hk hd hai).2 e1
          · obtain ⟨es, c, hm, -⟩ := (hN.dr hk).map
            exact cells_map ((h.nod j e hj).dr hk2).dir hm e1.symm
        · rcases hF _ hf2 with e1 | ⟨hk2, e1⟩
          · obtain ⟨es, c, hm, -⟩ := hDm.map
            exact cells_map (hN.dr hk).dir hm e1
          · by_cases haj2 : a = j
            · exact haj ⟨haj2, hk⟩
            · exact (h.one a j g e hg hj hk hk2 haj2).1 e1
  · rw [sadd_get] at hf
    obtain ⟨g, hg, rfl⟩ := Option.map_eq_some_iff.1 hf
    have hp' : (if a = j ∧ g.k = 1 then some i else g.par) = some p := hp
    split at hp'
    · next hc =>
      obtain ⟨rfl, hgk⟩ := hc
      cases hp'
      obtain rfl : e = g := by rw [hj] at hg; exact Option.some.inj hg
      exact ⟨hij hgk, _, sadd_some hi, hd⟩
    · obtain ⟨h1, q, hq, hqk⟩ := h.par a g p hg hp'
      exact ⟨h1, _, sadd_some hq, hqk⟩
  · rw [sadd_get] at hf hg
    obtain ⟨f1, hf1, rfl⟩ := Option.map_eq_some_iff.1 hf
    obtain ⟨g1, hg1, rfl⟩ := Option.map_eq_some_iff.1 hg
    exact h.one a b f1 g1 hf1 hg1 hfk hgk hab
  · rw [sadd_get] at hf
    obtain ⟨g, hg, rfl⟩ := Option.map_eq_some_iff.1 hf
    have old : (y, b) ∈ g.L → ∃ d2, (sadd S i j x)[b]? = some d2 ∧ (d2.k = 1 → d2.par = some a) := fun hy2 => by
      obtain ⟨d2, hd2, hd3⟩ := h.kid a g y b hg hy2
      refine ⟨_, sadd_some hd2, fun hk => ?_⟩
      show (if b = j ∧ d2.k = 1 then some i else d2.par) = some a
      split
      · next hc =>
        obtain ⟨rfl, hk2⟩ := hc
        obtain rfl : e = d2 := by rw [hj] at hd2; exact Option.some.inj hd2
        have h1 := hd3 hk2
        rw [hep hk2] at h1
        cases h1
      · exact hd3 hk
    have hy' : (y, b) ∈ (if a = i then g.L ++ [(x, j)] else g.L) := hy
    split at hy'
    · next hai =>
      subst hai
      rcases List.mem_append.1 hy' with hy' | hy'
      · exact old hy'
      · simp only [List.mem_singleton, Prod.mk.injEq] at hy'
        obtain ⟨-, rfl⟩ := hy'
        refine ⟨_, sadd_some hj, fun hk => ?_⟩
        exact if_pos ⟨rfl, hk⟩
    · exact old hy'
theorem kv_snoc (S : List Ne) (L : List (B × Nat)) (x : B) (j : Nat) : kv S (L ++ [(x, j)]) = kv S L ++ [(ba x, Pt (adr S j))] := by unfold kv; rw [List.map_append]; rfl
/-- What Add leaves. -/
def AddP (lo : Nat) (S : List Ne) (i j : Nat) (x : B) (c : Int) (w : World) (r : Ending) (w' : World) : Prop :=
  r = .returned (.int .i64 c) ∧ Below lo w w' ∧ (c ≠ 0 → Below w.heap.size w w') ∧ (c = 0 → GX lo w' (sadd S i j x) ∧ ∃ F : Nat → Prop, Upd F w w' ∧ ∀ b, F b → (∃ es k, w.heap[b]? = some (.map es k)) ∨ (∃ cs, w.heap[b]? = some (.cells cs 106 (0, 0))))
theorem gadd {lo : Nat} {w : World} {S : List Ne} (h : GX lo w S) (hlo : lo ≤ w.heap.size) {i j : Nat} {d e : Ne} (hi : S[i]? = some d) (hd : d.k = 1) (hj : S[j]? = some e) (x : B) (hS : S.length ≤ 1000000) (hL : d.L.length ≤ 1000000) (hij : e.k = 1 → e.L = [] ∧ i < j ∨ j ∈ i :: way S i i ∨ e.par.isSome = true) :
    Calls Tryz.prog 25 #[Pt d.nb, .string (ba x), Pt e.nb] w fun r w' => AddP lo S i j x (adc S i d x j e) w r w' := by
  have hD := (h.nod i d hi).dr hd
  have hU := h.up i i d (Nat.le_refl _) hi
  have hwl := way_len S i i
  have hil := mem_len hi
  have hul : ((way S i i).map (dbr S)).length ≤ 1000000 := by rw [List.length_map]; omega
  have hkl : (kv S d.L).length ≤ 1000000 := by unfold kv; rw [List.length_map]; omega
  obtain ⟨n1, n2, n3, -, -⟩ := h.nod i d hi
  obtain ⟨m1, m2, m3, -, -⟩ := h.nod j e hj
  by_cases hc : adc S i d x j e = 0
  · rw [hc]
    by_cases hk : e.k = 1
    · obtain ⟨hm, hp⟩ := adc_zero hc hk
      rcases hij hk with ⟨hL0, hlt⟩ | e1 | e1
      · have hE := (h.nod j e hj).dr hk
        have hcode := h.code hi hd hj x 0 (fun _ => .inr (.inr rfl)) (fun _ => rfl)
        rw [hc] at hcode
        have hmx : mkX e = some (e.db, false) := by unfold mkX; rw [if_pos hk, hp]; rfl
        rw [hmx] at hcode
        rw [hp, hL0] at hE
        have hHt : Ht w (Pt e.nb) 0 := ht_dir e.nb e.db e.mb _ _ (fun _ => 0) w hE (fun p hp => by simp [kv] at hp)
        have hne := h.one j i e d hj hi hk hd (by omega)
        refine (add_dir d.nb d.db d.mb _ _ _ (ba x) e.nb e.db e.mb _ 0 w hD hU hul hE hHt (by omega) hkl hne.2 hcode).mono ?_
        rintro r w' ⟨rfl, hD', hE', u⟩
        refine ⟨rfl, u.below hlo (fun k hk => by rcases hk with rfl | rfl <;> omega), fun e => absurd rfl e, fun _ => ⟨?_, _, u, fun b hb => ?_⟩⟩
        rotate_left
        · rcases hb with rfl | rfl
          · obtain ⟨es, c, hm, -⟩ := hD.map
            exact .inl ⟨es, c, hm⟩
          · exact .inr ⟨_, hE.dir⟩
        refine h.after hi hd hj (fun _ => hlt) (fun _ => hp) u (fun b hb => ?_) ?_ (fun _ => ?_)
        · rcases hb with rfl | rfl
          · exact .inl rfl
          · exact .inr ⟨hk, rfl⟩
        · rw [kv_snoc, adr_of hj]; exact hD'
        · rw [hL0]; exact hE'
      · exact absurd e1 hm
      · rw [hp] at e1; cases e1
    · obtain ⟨t, hN, ht⟩ := (h.nod j e hj).leaf hk
      have hcode := h.code hi hd hj x 0 (fun e1 => absurd e1 hk) (fun _ => rfl)
      rw [hc] at hcode
      have hmx : mkX e = none := by unfold mkX; rw [if_neg hk]
      rw [hmx] at hcode
      refine (add_other d.nb d.db d.mb _ _ _ (ba x) e.nb e.db t w hD hU hul hN ht hkl hcode).mono ?_
      rintro r w' ⟨rfl, hD', u⟩
      refine ⟨rfl, u.below hlo (fun k hk => by have : k = d.mb := hk; omega), fun e => absurd rfl e, fun _ => ⟨?_, _, u, fun b hb => ?_⟩⟩
      rotate_left
      · obtain ⟨es, c, hm, -⟩ := hD.map
        have hb2 : b = d.mb := hb
        exact .inl ⟨es, c, by rw [hb2]; exact hm⟩
      refine h.after hi hd hj (fun e1 => absurd e1 hk) (fun e1 => absurd e1 hk) u (fun b hb => .inl hb) ?_ (fun e1 => absurd e1 hk)
      rw [kv_snoc, adr_of hj]; exact hD'
  · obtain ⟨hh, hHt, hhl⟩ : ∃ hh, Ht w (Pt e.nb) hh ∧ hh ≤ 1000000 ∧ ((e.k = 1 → j ∈ i :: way S i i ∨ e.par.isSome = true ∨ hh = 0) ∧ (e.k ≠ 1 → hh = 0)) := by
      by_cases hk : e.k = 1
      · rcases hij hk with ⟨hL0, hlt⟩ | e1
        · have hE := (h.nod j e hj).dr hk
          rw [hL0] at hE
          exact ⟨0, ht_dir e.nb e.db e.mb _ _ (fun _ => 0) w hE (fun p hp => by simp [kv] at hp), by omega, fun _ => .inr (.inr rfl), fun e => absurd hk e⟩
        · obtain ⟨hh, h1, h2⟩ := h.ht S.length j e hS (by omega) hj
          refine ⟨hh, h1, by omega, fun _ => ?_, fun e => absurd hk e⟩
          rcases e1 with e1 | e1
          · exact .inl e1
          · exact .inr (.inl e1)
      · obtain ⟨t, hN, ht⟩ := (h.nod j e hj).leaf hk
        exact ⟨0, ht_other _ _ t w hN ht, by omega, fun e => absurd e hk, fun _ => rfl⟩
    have hcode := h.code hi hd hj x hh hhl.2.1 hhl.2.2
    refine (add_no d.nb d.db d.mb _ _ _ (ba x) e.nb (mkX e) hh _ w hD hU hul (h.nod j e hj).mk hHt hhl.1 hkl hcode hc).mono ?_
    rintro r w' ⟨rfl, hb⟩
    exact ⟨rfl, hb.mono hlo, fun _ => hb, fun e => absurd e hc⟩
/-- One more record. -/
theorem app_old {S : List Ne} {e : Ne} {i : Nat} (h : i < S.length) : (S ++ [e])[i]? = S[i]? := List.getElem?_append_left h
theorem rec_new (S : List Ne) (e : Ne) : (S ++ [e])[S.length]? = some e := by simp
theorem app_cases {S : List Ne} {e f : Ne} {i : Nat} (h : (S ++ [e])[i]? = some f) : S[i]? = some f ∨ i = S.length ∧ f = e := by
  by_cases hi : i < S.length
  · rw [app_old hi] at h; exact .inl h
  · rw [List.getElem?_append_right (by omega)] at h
    cases hz : i - S.length with
    | zero =>
      rw [hz] at h
      simp only [List.getElem?_cons_zero, Option.some.injEq] at h
      exact .inr ⟨by omega, h.symm⟩
    | succ z => rw [hz] at h; simp at h
theorem GX.push {lo : Nat} {w w' : World} {S : List Ne} {e : Ne} (h : GX lo w S) (b : Below w.heap.size w w') (hn : NX lo w' (S ++ [e]) e) (hL : e.L = []) (hp : e.par = none) (hnew : e.k = 1 → w.heap.size ≤ e.db ∧ w.heap.size ≤ e.mb) : GX lo w' (S ++ [e]) := by
  have hfar : ∀ (a : Nat) (f : Ne), S[a]? = some f → f.k = 1 → e.k = 1 → f.db ≠ e.db ∧ f.mb ≠ e.mb := fun a f hf hfk hek => by
    have hD := (h.nod a f hf).dr hfk
    have h1 := hD.ld
    have h2 := hD.lm
    obtain ⟨h3, h4⟩ := hnew hek
    exact ⟨by omega, by omega⟩
  refine ⟨fun i f hf => ?_, fun i f p hf hfp => ?_, fun i j f g hf hg hfk hgk hij => ?_, fun i f x j hf hx => ?_⟩
  · rcases app_cases hf with hf | ⟨rfl, rfl⟩
    · have hN := h.nod i f hf
      have hkv : kv (S ++ [e]) f.L = kv S f.L := by
        unfold kv
        refine List.map_congr_left fun p hp => ?_
        obtain ⟨d, hd, -⟩ := h.kid i f p.1 p.2 hf hp
        unfold adr
        rw [app_old (mem_len hd)]
      have hpv : pv (S ++ [e]) f.par = pv S f.par := by
        cases hq : f.par with
        | none => rfl
        | some q =>
          obtain ⟨-, d, hd, -⟩ := h.par i f q hf hq
          show Pt (dbr (S ++ [e]) q) = Pt (dbr S q)
          unfold dbr
          rw [app_old (mem_len hd)]
      obtain ⟨n1, n2, n3, n4, hN⟩ := hN.below b
      refine ⟨n1, n2, n3, n4, ?_⟩
      rw [hkv, hpv]
      rcases hN with ⟨hk, hN⟩ | ⟨hk, hN⟩ | ⟨hk, ht, hN⟩ | ⟨hk, d, hd, hdk, hN⟩ | ⟨hk, hN⟩
      · exact .inl ⟨hk, hN⟩
      · exact .inr (.inl ⟨hk, hN⟩)
      · exact .inr (.inr (.inl ⟨hk, ht, hN⟩))
      · exact .inr (.inr (.inr (.inl ⟨hk, d, by rw [app_old (mem_len hd)]; exact hd, hdk, hN⟩)))
      · exact .inr (.inr (.inr (.inr ⟨hk, hN⟩)))
    · exact hn
  · rcases app_cases hf with hf | ⟨rfl, rfl⟩
    · obtain ⟨h1, d, hd, hdk⟩ := h.par i f p hf hfp
      exact ⟨h1, d, by rw [app_old (mem_len hd)]; exact hd, hdk⟩
    · rw [hp] at hfp; cases hfp
  · rcases app_cases hf with hf1 | ⟨rfl, rfl⟩
    · rcases app_cases hg with hg1 | ⟨rfl, rfl⟩
      · exact h.one i j f g hf1 hg1 hfk hgk hij
      · exact hfar i f hf1 hfk hgk
    · rcases app_cases hg with hg1 | ⟨rfl, rfl⟩
      · obtain ⟨h1, h2⟩ := hfar j g hg1 hgk hfk
        exact ⟨h1.symm, h2.symm⟩
      · exact absurd rfl hij
  · rcases app_cases hf with hf | ⟨rfl, rfl⟩
    · obtain ⟨d, hd, hdp⟩ := h.kid i f x j hf hx
      exact ⟨d, by rw [app_old (mem_len hd)]; exact hd, hdp⟩
    · rw [hL] at hx; simp at hx
theorem GX.empty (lo : Nat) (w : World) : GX lo w [] := ⟨fun i e h => by simp at h, fun i e p h => by simp at h, fun i j e d h => by simp at h, fun i e x j h => by simp at h⟩
end Go.Proofs.YtknjclekfmmfeabGreatDoor
