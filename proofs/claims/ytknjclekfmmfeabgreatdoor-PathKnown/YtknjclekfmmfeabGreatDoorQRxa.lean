/- The document's nodes beside the records. -/
import Derived.Test.YtknjclekfmmfeabGreatDoorQRad
import Derived.Test.YtknjclekfmmfeabGreatDoorQPga
namespace Go.Proofs.YtknjclekfmmfeabGreatDoor
open Go.RowKit Go.ChangeMaps

def rbr (S : List Ne) (i : Nat) : Nat := (S[i]?.map Ne.rb).getD 0
def rpv (S : List Ne) : Option Nat → Value
  | none => .pointer none
  | some p => Pt (rbr S p)
def rks (S : List Ne) (K : List (B × Nat)) : List RK := K.map fun p => (p.1, rbr S p.2)
def Srt (K : List (B × Nat)) : Prop := K.Pairwise (fun a b => a.1 < b.1)
theorem rbr_of {S : List Ne} {i : Nat} {e : Ne} (h : S[i]? = some e) : rbr S i = e.rb := by unfold rbr; rw [h]; rfl
/-- A name among names that rise. -/
def insK : List (B × Nat) → B → Nat → List (B × Nat)
  | [], x, j => [(x, j)]
  | p :: K, x, j => if p.1 < x then p :: insK K x j else (x, j) :: p :: K
theorem ins_map (S : List Ne) (x : B) (j : Nat) : ∀ K : List (B × Nat), ins (rks S K) x (rbr S j) = rks S (insK K x j)
  | [] => rfl
  | p :: K => by
    have ih := ins_map S x j K
    unfold insK
    by_cases h : p.1 < x
    · rw [if_pos h]
      show ins ((p.1, rbr S p.2) :: rks S K) x (rbr S j) = (p.1, rbr S p.2) :: rks S (insK K x j)
      rw [← ih]
      unfold ins
      have e : rpl ((p.1, rbr S p.2) :: rks S K) x = rpl (rks S K) x + 1 := by
        conv => lhs; unfold rpl
        exact if_pos h
      rw [e]
      rfl
    · rw [if_neg h]
      show ins ((p.1, rbr S p.2) :: rks S K) x (rbr S j) = _
      unfold ins
      have e : rpl ((p.1, rbr S p.2) :: rks S K) x = 0 := by
        conv => lhs; unfold rpl
        exact if_neg h
      rw [e]
      rfl
theorem insK_perm (x : B) (j : Nat) : ∀ K : List (B × Nat), (insK K x j).Perm (K ++ [(x, j)])
  | [] => List.Perm.refl _
  | p :: K => by
    unfold insK
    split
    · exact (insK_perm x j K).cons p
    · exact (List.perm_append_singleton (x, j) (p :: K)).symm
theorem insK_mem {x : B} {j : Nat} {K : List (B × Nat)} {q : B × Nat} (h : q ∈ insK K x j) : q ∈ K ∨ q = (x, j) := by
  have := (insK_perm x j K).mem_iff.1 h
  rcases List.mem_append.1 this with h | h
  · exact .inl h
  · exact .inr (by simpa using h)
theorem insK_srt {x : B} {j : Nat} : ∀ {K : List (B × Nat)}, Srt K → (∀ q ∈ K, q.1 ≠ x) → Srt (insK K x j)
  | [], _, _ => by unfold insK Srt; simp
  | p :: K, h, hx => by
    unfold Srt at h
    obtain ⟨h1, h2⟩ := List.pairwise_cons.1 h
    unfold insK
    split
    · next hp =>
      refine List.pairwise_cons.2 ⟨fun q hq => ?_, insK_srt h2 (fun q hq => hx q (by simp [hq]))⟩
      rcases insK_mem hq with hq | rfl
      · exact h1 q hq
      · exact hp
    · next hp =>
      have hxp : x < p.1 := b_lt (List.not_lt.1 hp) (fun e => hx p (by simp) e.symm)
      refine List.pairwise_cons.2 ⟨fun q hq => ?_, h⟩
      rcases List.mem_cons.1 hq with rfl | hq
      · exact hxp
      · exact List.lt_trans hxp (h1 q hq)
theorem rth_srt (S : List Ne) (x : B) : ∀ {K : List (B × Nat)}, Srt K → (rth (rks S K) x = true ↔ ∃ j, (x, j) ∈ K)
  | [], _ => by simp [rth, rks, rpl]
  | p :: K, h => by
    unfold Srt at h
    obtain ⟨h1, h2⟩ := List.pairwise_cons.1 h
    have ih := rth_srt S x (K := K) h2
    show rth ((p.1, rbr S p.2) :: rks S K) x = true ↔ _
    by_cases hp : p.1 < x
    · have e : rth ((p.1, rbr S p.2) :: rks S K) x = rth (rks S K) x := by
        unfold rth
        have e : rpl ((p.1, rbr S p.2) :: rks S K) x = rpl (rks S K) x + 1 := by
          conv => lhs; unfold rpl
          exact if_pos hp
        rw [e, List.getElem?_cons_succ]
      rw [e, ih]
      constructor
      · rintro ⟨j, hj⟩
        exact ⟨j, List.mem_cons_of_mem _ hj⟩
      · rintro ⟨j, hj⟩
        rcases List.mem_cons.1 hj with e | hj
        · rw [← e] at hp
          exact absurd hp (List.lt_irrefl _)
        · exact ⟨j, hj⟩
    · have e : rth ((p.1, rbr S p.2) :: rks S K) x = decide (p.1 = x) := by
        unfold rth
        have e : rpl ((p.1, rbr S p.2) :: rks S K) x = 0 := by
          conv => lhs; unfold rpl
          exact if_neg hp
        rw [e]
        rfl
      rw [e, decide_eq_true_iff]
      constructor
      · rintro rfl
        exact ⟨p.2, by simp⟩
      · rintro ⟨j, hj⟩
        rcases List.mem_cons.1 hj with e | hj
        · rw [← e]
        · exact absurd (h1 _ hj) hp
theorem lkp_isSome {s : B} : ∀ {L : List (B × Nat)}, (lkp L s).isSome = true ↔ ∃ j, (s, j) ∈ L
  | [] => by simp [lkp]
  | p :: L => by
    unfold lkp
    by_cases h : s = p.1
    · rw [if_pos h]
      exact ⟨fun _ => ⟨p.2, by rw [h]; simp⟩, fun _ => rfl⟩
    · rw [if_neg h, lkp_isSome (L := L)]
      constructor
      · rintro ⟨j, hj⟩
        exact ⟨j, List.mem_cons_of_mem _ hj⟩
      · rintro ⟨j, hj⟩
        rcases List.mem_cons.1 hj with e | hj
        · exact absurd (congrArg Prod.fst e) h
        · exact ⟨j, hj⟩
/-- The document's nodes in memory. -/
structure RX (lo : Nat) (w : World) (S : List Ne) : Prop where
  nod : ∀ (i : Nat) (e : Ne), S[i]? = some e → lo ≤ e.rb ∧ ∃ f m K, Rc w e.rb e.k f (ba e.to) m (rks S K) (rpv S e.par) ∧ K.Perm e.L ∧ Srt K ∧ (e.k = 3 → m = Pt (rbr S e.u))
  one : ∀ (i j : Nat) (e d : Ne), S[i]? = some e → S[j]? = some d → i ≠ j → e.rb ≠ d.rb
theorem RX.keep {lo : Nat} {w w' : World} {S : List Ne} (h : RX lo w S) (hk : ∀ (T : TypeId), (T = 114 ∨ T = 131) → ∀ (g : Nat) (cs : Array Value), w.heap[g]? = some (Obj.cells cs T (0, 0)) → w'.heap[g]? = w.heap[g]?) : RX lo w' S := by
  refine ⟨fun i e he => ?_, h.one⟩
  obtain ⟨h1, f, m, K, h2, h3⟩ := h.nod i e he
  obtain ⟨a, c, h4, -⟩ := h2.cel
  exact ⟨h1, f, m, K, h2.keep (hk _ (.inl rfl) _ _ h4) (hk _ (.inr rfl)), h3⟩
theorem RX.below {lo : Nat} {w w' : World} {S : List Ne} (h : RX lo w S) (b : Below w.heap.size w w') : RX lo w' S := h.keep (fun _ _ g _ hg => b.block g (Array.getElem?_eq_some_iff.1 hg).1)
/-- What the program's Add may change stands beside it. -/
theorem RX.beside {lo : Nat} {w w' : World} {S : List Ne} (h : RX lo w S) {F : Nat → Prop} (u : Upd F w w') (hF : ∀ b, F b → (∃ es c, w.heap[b]? = some (.map es c)) ∨ (∃ cs, w.heap[b]? = some (.cells cs 106 (0, 0)))) : RX lo w' S :=
  h.keep fun T hT g cs hg => u.block g (Array.getElem?_eq_some_iff.1 hg).1 (fun hf => by
    rcases hF g hf with ⟨es, c, e⟩ | ⟨ds, e⟩
    · exact cells_map hg e rfl
    · rcases hT with rfl | rfl
      · exact dir_cells hg e (by decide) rfl
      · exact dir_cells hg e (by decide) rfl)
/-- And the other way round. -/
theorem GX.beside {lo : Nat} {w w' : World} {S : List Ne} (h : GX lo w S) {F : Nat → Prop} (u : Upd F w w') (hF : ∀ b, F b → ∃ cs, w.heap[b]? = some (.cells cs 114 (0, 0))) : GX lo w' S := by
  refine ⟨fun i e he => ?_, h.par, h.one, h.kid⟩
  obtain ⟨n1, n2, n3, n4, hn⟩ := h.nod i e he
  have hc : ∀ {b : Nat} {cs : Array Value} {T : TypeId}, w.heap[b]? = some (.cells cs T (0, 0)) → T ≠ 114 → ¬ F b := fun hb hT hf => by
    obtain ⟨ds, e⟩ := hF _ hf
    exact dir_cells hb e hT rfl
  have hm : ∀ {b : Nat} {es : Array MapEntry} {c : Nat}, w.heap[b]? = some (.map es c) → ¬ F b := fun hb hf => by
    obtain ⟨ds, e⟩ := hF _ hf
    exact cells_map e hb rfl
  refine ⟨n1, n2, n3, n4, ?_⟩
  rcases hn with ⟨hk, hn⟩ | ⟨hk, hn⟩ | ⟨hk, ht, hn⟩ | ⟨hk, d, hd, hdk, hn⟩ | ⟨hk, hn⟩
  · exact .inl ⟨hk, hn.upd u (hc hn (by decide))⟩
  · obtain ⟨es, c, hmp, -⟩ := hn.map
    exact .inr (.inl ⟨hk, hn.upd u (hc hn.nod (by decide)) (hc hn.dir (by decide)) (hm hmp)⟩)
  · exact .inr (.inr (.inl ⟨hk, ht, hn.upd u (hc hn.nod (by decide)) (hc hn.lnk (by decide))⟩))
  · exact .inr (.inr (.inr (.inl ⟨hk, d, hd, hdk, hn.upd u (hc hn.nod (by decide)) (hc hn.mnt (by decide))⟩)))
  · exact .inr (.inr (.inr (.inr ⟨hk, hn.upd u (hc hn (by decide))⟩)))
/-- The way up there. -/
theorem RX.up {lo : Nat} {w : World} {S : List Ne} (h : RX lo w S) (hG : ∀ (i : Nat) (e : Ne) (p : Nat), S[i]? = some e → e.par = some p → p < i ∧ ∃ d, S[p]? = some d ∧ d.k = 1) : ∀ (n i : Nat) (d : Ne), i ≤ n → S[i]? = some d → RUp w (Pt d.rb) (d.rb :: (way S n i).map (rbr S))
  | n, i, d, hi, hd => by
    obtain ⟨-, f, m, K, hR, -⟩ := h.nod i d hd
    obtain ⟨a, c, hc, -⟩ := hR.cel
    refine ⟨rfl, _, _, _, _, _, _, hc, ?_⟩
    cases hp : d.par with
    | none =>
      have : way S n i = [] := by
        cases n with
        | zero => rfl
        | succ n => unfold way; rw [hd]; simp [hp]
      rw [this]
      rfl
    | some p =>
      obtain ⟨hpi, e, he, hek⟩ := hG i d p hd hp
      cases n with
      | zero => omega
      | succ n =>
        have ih := RX.up h hG n p e (by omega) he
        have : way S (n + 1) i = p :: way S n p := by
          conv => lhs; unfold way
          rw [hd]; simp [hp]
        rw [this, List.map_cons]
        show RUp w (Pt (rbr S p)) _
        rw [rbr_of he]
        exact ih
  termination_by n => n
end Go.Proofs.YtknjclekfmmfeabGreatDoor
