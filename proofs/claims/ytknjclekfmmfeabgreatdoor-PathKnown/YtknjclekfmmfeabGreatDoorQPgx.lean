/- Nodes that are made and added: records of them, in memory. -/
import Derived.Test.YtknjclekfmmfeabGreatDoorQPgr
namespace Go.Proofs.YtknjclekfmmfeabGreatDoor
open Go.RowKit Go.ChangeMaps

/-- A node: its kind; what it holds; where it leads; what is under it; where it stands; its blocks; the block of the document's. -/
structure Ne where
  k : Int
  L : List (B × Nat)
  to : B
  u : Nat
  par : Option Nat
  nb : Nat
  db : Nat
  mb : Nat
  rb : Nat
def Ne.nk (e : Ne) : Nk := ⟨e.k, e.L, e.to, e.u⟩
def gr (S : List Ne) : Gr := S.map Ne.nk
def adr (S : List Ne) (i : Nat) : Nat := (S[i]?.map Ne.nb).getD 0
def dbr (S : List Ne) (i : Nat) : Nat := (S[i]?.map Ne.db).getD 0
def pv (S : List Ne) : Option Nat → Value
  | none => .pointer none
  | some p => Pt (dbr S p)
def kv (S : List Ne) (L : List (B × Nat)) : List KV := L.map fun p => (ba p.1, Pt (adr S p.2))
/-- The way up. -/
def way (S : List Ne) : Nat → Nat → List Nat
  | 0, _ => []
  | f + 1, i => match S[i]?.bind Ne.par with
    | none => []
    | some p => p :: way S f p
theorem adr_of {S : List Ne} {i : Nat} {e : Ne} (h : S[i]? = some e) : adr S i = e.nb := by unfold adr; rw [h]; rfl
theorem dbr_of {S : List Ne} {i : Nat} {e : Ne} (h : S[i]? = some e) : dbr S i = e.db := by unfold dbr; rw [h]; rfl
theorem gr_of {S : List Ne} {i : Nat} {e : Ne} (h : S[i]? = some e) : nk (gr S) i = e.nk := by unfold nk gr; rw [List.getElem?_map, h]; rfl
theorem lk_kv (S : List Ne) (s : B) : ∀ L : List (B × Nat), lk (kv S L) (ba s) = (lkp L s).map fun j => Pt (adr S j)
  | [] => rfl
  | p :: L => by
    unfold kv lkp
    rw [List.map_cons]
    unfold lk
    by_cases h : s = p.1
    · rw [if_pos h, if_pos (by rw [h])]; rfl
    · rw [if_neg h, if_neg (fun e => h (ba_inj e))]
      exact lk_kv S s L
theorem lkp_mem {s : B} {j : Nat} : ∀ {L : List (B × Nat)}, lkp L s = some j → (s, j) ∈ L
  | [], h => by cases h
  | p :: L, h => by
    unfold lkp at h
    by_cases hs : s = p.1
    · rw [if_pos hs] at h
      cases h
      rw [hs]; simp
    · rw [if_neg hs] at h
      exact List.mem_cons_of_mem _ (lkp_mem h)
/-- One of them in memory. -/
def NX (lo : Nat) (w : World) (S : List Ne) (e : Ne) : Prop :=
  lo ≤ e.nb ∧ lo ≤ e.db ∧ lo ≤ e.mb ∧ (e.k ≠ 1 → e.L = [] ∧ e.par = none) ∧ ((e.k = 0 ∧ Nd w e.nb 83 e.db) ∨ (e.k = 1 ∧ Dr w e.nb e.db e.mb (pv S e.par) (kv S e.L)) ∨ (e.k = 2 ∧ (e.to ≠ [] ∧ e.to.length ≤ 4096) ∧ Lk w e.nb e.db (ba e.to)) ∨ (e.k = 3 ∧ ∃ d, S[e.u]? = some d ∧ d.k = 1 ∧ Mt w e.nb e.db d.db) ∨ (e.k = 4 ∧ Nd w e.nb 88 e.db))
structure GX (lo : Nat) (w : World) (S : List Ne) : Prop where
  nod : ∀ (i : Nat) (e : Ne), S[i]? = some e → NX lo w S e
  par : ∀ (i : Nat) (e : Ne) (p : Nat), S[i]? = some e → e.par = some p → p < i ∧ ∃ d, S[p]? = some d ∧ d.k = 1
  one : ∀ (i j : Nat) (e d : Ne), S[i]? = some e → S[j]? = some d → e.k = 1 → d.k = 1 → i ≠ j → e.db ≠ d.db ∧ e.mb ≠ d.mb
  kid : ∀ (i : Nat) (e : Ne) (x : B) (j : Nat), S[i]? = some e → (x, j) ∈ e.L → ∃ d, S[j]? = some d ∧ (d.k = 1 → d.par = some i)
theorem NX.below {lo : Nat} {w w' : World} {S : List Ne} {e : Ne} (h : NX lo w S e) (b : Below w.heap.size w w') : NX lo w' S e := by
  obtain ⟨h1, h2, h3, h4, h⟩ := h
  refine ⟨h1, h2, h3, h4, ?_⟩
  rcases h with ⟨hk, h⟩ | ⟨hk, h⟩ | ⟨hk, ht, h⟩ | ⟨hk, d, hd, hdk, h⟩ | ⟨hk, h⟩
  · exact .inl ⟨hk, h.below b⟩
  · exact .inr (.inl ⟨hk, h.below b⟩)
  · exact .inr (.inr (.inl ⟨hk, ht, h.below b⟩))
  · exact .inr (.inr (.inr (.inl ⟨hk, d, hd, hdk, h.below b⟩)))
  · exact .inr (.inr (.inr (.inr ⟨hk, h.below b⟩)))
theorem GX.below {lo : Nat} {w w' : World} {S : List Ne} (h : GX lo w S) (b : Below w.heap.size w w') : GX lo w' S := ⟨fun i e he => (h.nod i e he).below b, h.par, h.one, h.kid⟩
theorem NX.dr {lo : Nat} {w : World} {S : List Ne} {e : Ne} (h : NX lo w S e) (hk : e.k = 1) : Dr w e.nb e.db e.mb (pv S e.par) (kv S e.L) := by
  obtain ⟨-, -, -, -, h⟩ := h
  rcases h with ⟨hk2, -⟩ | ⟨-, h⟩ | ⟨hk2, -⟩ | ⟨hk2, -⟩ | ⟨hk2, -⟩
  · omega
  · exact h
  · omega
  · omega
  · omega
theorem NX.leaf {lo : Nat} {w : World} {S : List Ne} {e : Ne} (h : NX lo w S e) (hk : e.k ≠ 1) : ∃ t, Nd w e.nb t e.db ∧ (t = 83 ∨ t = 88 ∨ t = 85 ∨ t = 84) := by
  obtain ⟨-, -, -, -, h⟩ := h
  rcases h with ⟨-, h⟩ | ⟨hk2, -⟩ | ⟨-, -, h⟩ | ⟨-, d, -, -, h⟩ | ⟨-, h⟩
  · exact ⟨_, h, .inl rfl⟩
  · omega
  · exact ⟨_, h.nod, .inr (.inr (.inr rfl))⟩
  · exact ⟨_, h.nod, .inr (.inr (.inl rfl))⟩
  · exact ⟨_, h, .inr (.inl rfl)⟩
theorem mem_len {S : List Ne} {i : Nat} {e : Ne} (h : S[i]? = some e) : i < S.length := (List.getElem?_eq_some_iff.1 h).1
/-- Such records are nodes by their places. -/
theorem GX.gat {lo : Nat} {w : World} {S : List Ne} (h : GX lo w S) : GAt w (gr S) (adr S) := by
  have hlen : (gr S).length = S.length := by unfold gr; rw [List.length_map]
  have hget : ∀ i, i < S.length → ∃ e, S[i]? = some e := fun i hi => ⟨_, List.getElem?_eq_getElem hi⟩
  refine ⟨fun i hi => ?_, fun i x j hx => ?_, fun i hk => ?_⟩
  · rw [hlen] at hi
    obtain ⟨e, he⟩ := hget i hi
    obtain ⟨-, -, -, -, hn⟩ := h.nod i e he
    unfold NAt
    rw [gr_of he, adr_of he]
    rcases hn with ⟨hk, hn⟩ | ⟨hk, hn⟩ | ⟨hk, ht, hn⟩ | ⟨hk, d, hd, hdk, hn⟩ | ⟨hk, hn⟩
    · exact .inl ⟨hk, _, hn⟩
    · exact .inr (.inl ⟨hk, _, _, _, _, hn, fun s => lk_kv S s e.L⟩)
    · exact .inr (.inr (.inl ⟨hk, ht, _, hn⟩))
    · have hDr : Dr w (adr S e.u) d.db d.mb (pv S d.par) (kv S d.L) := by rw [adr_of hd]; exact (h.nod _ d hd).dr hdk
      exact .inr (.inr (.inr (.inl ⟨hk, _, _, _, _, _, hn, hDr⟩)))
    · exact .inr (.inr (.inr (.inr ⟨hk, _, hn⟩)))
  · rw [hlen]
    by_cases hi : i < S.length
    · obtain ⟨e, he⟩ := hget i hi
      rw [gr_of he] at hx
      obtain ⟨d, hd, -⟩ := h.kid i e x j he (lkp_mem hx)
      exact mem_len hd
    · have : nk (gr S) i = ⟨-1, [], [], 0⟩ := by unfold nk; rw [List.getElem?_eq_none (by rw [hlen]; omega)]; rfl
      rw [this] at hx
      cases hx
  · rw [hlen]
    by_cases hi : i < S.length
    · obtain ⟨e, he⟩ := hget i hi
      rw [gr_of he] at hk ⊢
      obtain ⟨-, -, -, -, hn⟩ := h.nod i e he
      have hk' : e.k = 3 := hk
      rcases hn with ⟨hk2, -⟩ | ⟨hk2, -⟩ | ⟨hk2, -⟩ | ⟨-, d, hd, hdk, -⟩ | ⟨hk2, -⟩
      · omega
      · omega
      · omega
      · refine ⟨mem_len hd, ?_⟩
        show (nk (gr S) e.u).k = 1
        rw [gr_of hd]; exact hdk
      · omega
    · have : nk (gr S) i = ⟨-1, [], [], 0⟩ := by unfold nk; rw [List.getElem?_eq_none (by rw [hlen]; omega)]; rfl
      rw [this] at hk
      cases hk
/-- The way up, in memory. -/
theorem GX.up {lo : Nat} {w : World} {S : List Ne} (h : GX lo w S) : ∀ (n i : Nat) (d : Ne), i ≤ n → S[i]? = some d → Up w (pv S d.par) ((way S n i).map (dbr S))
  | 0, i, d, hi, hd => by
    cases hp : d.par with
    | none => exact Up.nil
    | some p => have := (h.par i d p hd hp).1; omega
  | n + 1, i, d, hi, hd => by
    unfold way
    rw [hd]
    simp only [Option.bind_some]
    cases hp : d.par with
    | none => exact Up.nil
    | some p =>
      obtain ⟨hpi, e, he, hek⟩ := h.par i d p hd hp
      have ih := GX.up h n p e (by omega) he
      rw [List.map_cons, dbr_of he]
      show Up w (Pt (dbr S p)) _
      rw [dbr_of he]
      exact Up.dir ((h.nod p e he).dr hek) ih
theorem way_len (S : List Ne) : ∀ n i, (way S n i).length ≤ n
  | 0, _ => Nat.le_refl _
  | n + 1, i => by
    unfold way
    split
    · exact Nat.zero_le _
    · rw [List.length_cons]; have := way_len S n ‹_›; omega
theorem GX.way_dir {lo : Nat} {w : World} {S : List Ne} (h : GX lo w S) : ∀ (n i q : Nat), q ∈ way S n i → ∃ d, S[q]? = some d ∧ d.k = 1
  | 0, i, q, hq => by simp [way] at hq
  | n + 1, i, q, hq => by
    unfold way at hq
    cases hd : S[i]? with
    | none => rw [hd] at hq; simp at hq
    | some d =>
      rw [hd] at hq
      simp only [Option.bind_some] at hq
      cases hp : d.par with
      | none => rw [hp] at hq; simp at hq
      | some p =>
        rw [hp] at hq
        rcases List.mem_cons.1 hq with rfl | hq
        · exact (h.par i d _ hd hp).2
        · exact h.way_dir n p q hq
/-- Every node has a height. -/
theorem GX.ht {lo : Nat} {w : World} {S : List Ne} (h : GX lo w S) : ∀ (n i : Nat) (e : Ne), n ≤ 1000000 → S.length ≤ n + i → S[i]? = some e → ∃ hh, Ht w (Pt e.nb) hh ∧ hh ≤ n
  | 0, i, e, _, hn, he => by have := mem_len he; omega
  | n + 1, i, e, hN, hn, he => by
    by_cases hk : e.k = 1
    · have hD := (h.nod i e he).dr hk
      have hkid : ∀ p ∈ kv S e.L, ∃ hh, Ht w p.2 hh ∧ hh ≤ n := fun p hp => by
        obtain ⟨q, hq, rfl⟩ := List.mem_map.1 hp
        obtain ⟨d, hd, hdp⟩ := h.kid i e q.1 q.2 he hq
        show ∃ hh, Ht w (Pt (adr S q.2)) hh ∧ hh ≤ n
        rw [adr_of hd]
        by_cases hdk : d.k = 1
        · have := (h.par _ d i hd (hdp hdk)).1
          exact h.ht n q.2 d (by omega) (by omega) hd
        · obtain ⟨t, hN, ht⟩ := (h.nod _ d hd).leaf hdk
          exact ⟨0, ht_other _ _ t w hN ht, Nat.zero_le _⟩
      classical
      refine ⟨_, ht_dir e.nb e.db e.mb _ _ (fun v => if hv : ∃ hh, Ht w v hh ∧ hh ≤ n then hv.choose else 0) w hD (fun p hp => ?_), top_le fun p hp => ?_⟩
      · have := hkid p hp
        rw [dif_pos this]
        exact ⟨this.choose_spec.1, by have h1 := this.choose_spec.2; omega⟩
      · have := hkid p hp
        rw [dif_pos this]
        have := this.choose_spec.2
        omega
    · obtain ⟨t, hN, ht⟩ := (h.nod i e he).leaf hk
      exact ⟨0, ht_other _ _ t w hN ht, Nat.zero_le _⟩
end Go.Proofs.YtknjclekfmmfeabGreatDoor
