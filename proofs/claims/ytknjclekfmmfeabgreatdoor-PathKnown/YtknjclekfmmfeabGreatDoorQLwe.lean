/- What laid keeps. -/
import Derived.Test.YtknjclekfmmfeabGreatDoorQLwc
namespace Go.Proofs.YtknjclekfmmfeabGreatDoor
open Go.RowKit Go.ChangeMaps

/-- What holds between two specs: the first is a directory, all others that are stand somewhere; how many there are; what they hold. -/
structure Li (S : List Ne) (n : Nat) : Prop where
  len : S.length ≤ n + 1
  fst : ∃ e, S[0]? = some e ∧ e.k = 1
  all : ∀ (i : Nat) (e : Ne), S[i]? = some e → e.k = 1 → i ≠ 0 → e.par.isSome = true
  few : ∀ (i : Nat) (e : Ne), S[i]? = some e → e.L.length ≤ n
theorem Li.more {S : List Ne} {n m : Nat} (h : Li S n) (hm : n ≤ m) : Li S m := ⟨by have := h.len; omega, h.fst, h.all, fun i e he => by have := h.few i e he; omega⟩
theorem Li.root {lo : Nat} {w : World} {S : List Ne} {n : Nat} (h : Li S n) (hG : GX lo w S) : ∀ (f i : Nat) (e : Ne), i ≤ f → S[i]? = some e → e.k = 1 → 0 ∈ i :: way S f i
  | 0, i, e, hi, he, hk => by
    obtain rfl : i = 0 := by omega
    simp
  | f + 1, i, e, hi, he, hk => by
    by_cases h0 : i = 0
    · subst h0; simp
    · have hp := h.all i e he hk h0
      obtain ⟨p, hp⟩ := Option.isSome_iff_exists.1 hp
      obtain ⟨hpi, d, hd, hdk⟩ := hG.par i e p he hp
      have ih := Li.root h hG f p d (by omega) hd hdk
      have : way S (f + 1) i = p :: way S f p := by
        conv => lhs; unfold way
        rw [he]; simp [hp]
      rw [this]
      exact List.mem_cons_of_mem _ ih
/-- A directory that is added again. -/
theorem Li.again {lo : Nat} {w : World} {S : List Ne} {n : Nat} (h : Li S n) (hG : GX lo w S) {i j : Nat} {d e : Ne} (hi : S[i]? = some d) (hd : d.k = 1) (hj : S[j]? = some e) : e.k = 1 → e.L = [] ∧ i < j ∨ j ∈ i :: way S i i ∨ e.par.isSome = true := fun hk => by
  by_cases h0 : j = 0
  · subst h0
    exact .inr (.inl (h.root hG i i d (Nat.le_refl _) hi hd))
  · exact .inr (.inr (h.all j e hj hk h0))
theorem Li.add {S : List Ne} {n : Nat} (h : Li S n) (i j : Nat) (x : B) : Li (sadd S i j x) (n + 1) := by
  refine ⟨by rw [sadd_len]; have := h.len; omega, ?_, fun a f hf hk h0 => ?_, fun a f hf => ?_⟩
  · obtain ⟨e, he, hk⟩ := h.fst
    exact ⟨_, sadd_some he, hk⟩
  · rw [sadd_get] at hf
    obtain ⟨g, hg, rfl⟩ := Option.map_eq_some_iff.1 hf
    show (if a = j ∧ g.k = 1 then some i else g.par).isSome = true
    split
    · rfl
    · exact h.all a g hg hk h0
  · rw [sadd_get] at hf
    obtain ⟨g, hg, rfl⟩ := Option.map_eq_some_iff.1 hf
    have := h.few a g hg
    show (if a = i then g.L ++ [(x, j)] else g.L).length ≤ n + 1
    split
    · rw [List.length_append, List.length_cons, List.length_nil]; omega
    · omega
/-- A new node that was added. -/
theorem Li.fresh {S : List Ne} {n : Nat} (h : Li S n) {e : Ne} (hL : e.L = []) (i : Nat) (x : B) : Li (sadd (S ++ [e]) i S.length x) (n + 1) := by
  refine ⟨by rw [sadd_len, List.length_append, List.length_cons, List.length_nil]; have := h.len; omega, ?_, fun a f hf hk h0 => ?_, fun a f hf => ?_⟩
  · obtain ⟨e0, he, hk⟩ := h.fst
    exact ⟨_, sadd_some (by rw [app_old (mem_len he)]; exact he), hk⟩
  · rw [sadd_get] at hf
    obtain ⟨g, hg, rfl⟩ := Option.map_eq_some_iff.1 hf
    show (if a = S.length ∧ g.k = 1 then some i else g.par).isSome = true
    split
    · rfl
    · next hn =>
      rcases app_cases hg with hg | ⟨rfl, rfl⟩
      · exact h.all a g hg hk h0
      · exact absurd ⟨rfl, hk⟩ hn
  · rw [sadd_get] at hf
    obtain ⟨g, hg, rfl⟩ := Option.map_eq_some_iff.1 hf
    have hgl : g.L.length ≤ n := by
      rcases app_cases hg with hg | ⟨rfl, rfl⟩
      · exact h.few a g hg
      · rw [hL]; exact Nat.zero_le _
    show (if a = i then g.L ++ [(x, S.length)] else g.L).length ≤ n + 1
    split
    · rw [List.length_append, List.length_cons, List.length_nil]; omega
    · omega
theorem sadd_nbs (S : List Ne) (i j : Nat) (x : B) : (sadd S i j x).map (fun e => Pt e.nb) = S.map (fun e => Pt e.nb) := by
  apply List.ext_getElem?
  intro a
  rw [List.getElem?_map, List.getElem?_map, sadd_get]
  cases S[a]? <;> rfl
theorem sadd_rbs (S : List Ne) (i j : Nat) (x : B) : (sadd S i j x).map (fun e => Pt e.rb) = S.map (fun e => Pt e.rb) := by
  apply List.ext_getElem?
  intro a
  rw [List.getElem?_map, List.getElem?_map, sadd_get]
  cases S[a]? <;> rfl
theorem LW.sadd {w : World} {lo wb : Nat} {S : List Ne} (h : LW w lo wb S) (i j : Nat) (x : B) : LW w lo wb (sadd S i j x) := by
  obtain ⟨lv, xv, h1, h2, h3⟩ := h.cel
  exact ⟨h.bnd, lv, xv, h1, by rw [sadd_nbs]; exact h2, by rw [sadd_rbs]; exact h3⟩
/-- The document's nodes behind the program's Add. -/
theorem AddP.rx {lo : Nat} {w w1 : World} {S : List Ne} {i j : Nat} {x : B} {c : Int} {r1 : Ending} (h1 : AddP lo S i j x c w r1 w1) (hR : RX lo w S) : RX lo w1 S := by
  obtain ⟨-, -, g1, g2⟩ := h1
  by_cases hc : c = 0
  · obtain ⟨-, F, hu, hF⟩ := g2 hc
    exact hR.beside hu hF
  · exact hR.below (g1 hc)
/-- The records behind both. -/
theorem both_adds {lo : Nat} {w w1 w2 : World} {S : List Ne} {i j : Nat} {x : B} {c : Int} {r1 r2 : Ending} (h1 : AddP lo S i j x c w r1 w1) (h2 : RAdP lo S i j x c w1 r2 w2) (hc : c = 0) : GX lo w2 (sadd S i j x) ∧ RX lo w2 (sadd S i j x) := by
  obtain ⟨-, -, -, g1⟩ := h1
  obtain ⟨-, -, -, g2⟩ := h2
  obtain ⟨r, F, hu, hF⟩ := g2 hc
  exact ⟨(g1 hc).1.beside hu hF, r⟩
theorem both_none {lo : Nat} {w w1 w2 : World} {S : List Ne} {i j : Nat} {x : B} {c : Int} {r1 r2 : Ending} (h1 : AddP lo S i j x c w r1 w1) (h2 : RAdP lo S i j x c w1 r2 w2) (hc : c ≠ 0) : Below w.heap.size w w2 := by
  obtain ⟨-, -, g1, -⟩ := h1
  obtain ⟨-, -, g2, -⟩ := h2
  exact below_tr (g1 hc) (g2 hc)
/-- The node that is added: a new one behind the records, or one of them. -/
def Cand (S : List Ne) (k : Int) (S1 : List Ne) (j : Nat) (e : Ne) : Prop := (k ≠ 5 ∧ S1 = S ++ [e] ∧ j = S.length ∧ e.L = [] ∧ e.par = none ∧ e.k = k) ∨ (k = 5 ∧ S1 = S ∧ S[j]? = some e)
theorem MadeP.cand {lo : Nat} {S : List Ne} {k : Int} {w w' : World} {v1 v2 : Value} (h : MadeP lo S k w (.returned (.tuple #[v1, v2, .bool true])) w') (hG : GX lo w' S) (hR : RX lo w' S) : ∃ S1 j e, Cand S k S1 j e ∧ GX lo w' S1 ∧ RX lo w' S1 ∧ v1 = Pt e.nb ∧ v2 = Pt e.rb := by
  obtain ⟨-, a, b, ok, e1, h⟩ := h
  injection e1 with e1
  injection e1 with e1
  simp at e1
  obtain ⟨rfl, rfl, rfl⟩ := e1
  rcases h rfl with ⟨hk, e, ⟨f1, f2, f3, f4, f5⟩, h1, h2⟩ | ⟨hk, j, e, hj, h1, h2⟩
  · exact ⟨_, _, e, .inl ⟨hk, rfl, rfl, f1, f2, f3⟩, f4, f5, h1, h2⟩
  · exact ⟨S, j, e, .inr ⟨hk, rfl, hj⟩, hG, hR, h1, h2⟩
theorem Cand.facts {lo : Nat} {w : World} {S S1 : List Ne} {k : Int} {j n q : Nat} {e d : Ne} (h : Cand S k S1 j e) (hL : Li S n) (hG : GX lo w S) (hq : S[q]? = some d) (hd : d.k = 1) : S1[q]? = some d ∧ S1[j]? = some e ∧ (e.k = 1 → e.L = [] ∧ q < j ∨ j ∈ q :: way S1 q q ∨ e.par.isSome = true) ∧ S1.length ≤ n + 2 := by
  have hl := hL.len
  rcases h with ⟨-, rfl, rfl, h1, h2, h3⟩ | ⟨-, rfl, hj⟩
  · exact ⟨by rw [app_old (mem_len hq)]; exact hq, rec_new S e, fun _ => .inl ⟨h1, mem_len hq⟩, by rw [List.length_append, List.length_cons, List.length_nil]; omega⟩
  · exact ⟨hq, hj, hL.again hG hq hd hj, by omega⟩
end Go.Proofs.YtknjclekfmmfeabGreatDoor
