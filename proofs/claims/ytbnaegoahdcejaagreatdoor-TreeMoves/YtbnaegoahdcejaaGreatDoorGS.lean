/- The document's tree over the same entries: Get at a path. The document's tree: one entry more, the mathematics. The document's tree: Add of a new node. The document's tree: Add of a new node, its contract. -/
import Derived.Test.YtbnaegoahdcejaaGreatDoorGR
namespace Go.Proofs.YtbnaegoahdcejaaGreatDoor
open Go.RowKit Go.ChangeMaps

theorem rth_pw (x : B) : ∀ {L : List RK}, L.Pairwise (fun a b => a.1 < b.1) → (rth L x = true ↔ ∃ v, (x, v) ∈ L)
  | [], _ => by simp [rth, rpl]
  | p :: K, h => by
    obtain ⟨h1, h2⟩ := List.pairwise_cons.1 h
    have ih := rth_pw x (L := K) h2
    by_cases hp : p.1 < x
    · have e : rth (p :: K) x = rth K x := by
        unfold rth
        have e : rpl (p :: K) x = rpl K x + 1 := by
          conv => lhs; unfold rpl
          exact if_pos hp
        rw [e, List.getElem?_cons_succ]
      rw [e, ih]
      constructor
      · rintro ⟨j, hj⟩
        exact ⟨j, List.mem_cons_of_mem _ hj⟩
      · rintro ⟨j, hj⟩
        rcases List.mem_cons.1 hj with e | hj
        · rw [← e] at hp
          exact absurd hp (List.lt_irrefl _)
        · exact ⟨j, hj⟩
    · have e : rth (p :: K) x = decide (p.1 = x) := by
        unfold rth
        have e : rpl (p :: K) x = 0 := by
          conv => lhs; unfold rpl
          exact if_neg hp
        rw [e]
        rfl
      rw [e, decide_eq_true_iff]
      constructor
      · rintro rfl
        exact ⟨p.2, by simp⟩
      · rintro ⟨j, hj⟩
        rcases List.mem_cons.1 hj with e | hj
        · rw [← e]
        · exact absurd (h1 _ hj) hp
/-- What stands in the directory p, as the document holds it: names rising. -/
def rkd (S : List En) (rb : List B → Nat) (p : List B) : List RK := (kidE S p).map fun e => (e.nm, rb e.p)
theorem rkd_pw {S : List En} (h : (S.map En.p).Nodup) (rb : List B → Nat) (p : List B) : (rkd S rb p).Pairwise (fun a b => a.1 < b.1) := by
  unfold rkd
  rw [List.pairwise_map]
  exact kidE_pw h p
theorem rkd_mem {S : List En} {rb : List B → Nat} {p : List B} {x : B} {v : Nat} : (x, v) ∈ rkd S rb p ↔ (∃ e ∈ S, e.p = p ++ [x]) ∧ v = rb (p ++ [x]) := by
  unfold rkd kidE kidU
  rw [List.mem_map]
  constructor
  · rintro ⟨e, he, h⟩
    rw [srt_mem, List.mem_filter] at he
    obtain ⟨h1, h2⟩ := he
    obtain ⟨h3, h4⟩ := of_decide_eq_true h2
    simp only [Prod.mk.injEq] at h
    have hp := En.p_of h3
    rw [h4, h.1] at hp
    exact ⟨⟨e, h1, hp⟩, by rw [← h.2, hp]⟩
  · rintro ⟨⟨e, he, hp⟩, rfl⟩
    refine ⟨e, ?_, by rw [En.nm_of hp, hp]⟩
    rw [srt_mem, List.mem_filter]
    exact ⟨he, decide_eq_true ⟨by rw [hp]; simp, by rw [hp, List.dropLast_concat]⟩⟩
/-- The document's tree in memory, its nodes' blocks by their paths; what a file holds is F's. -/
structure Rt (F : World → Nat → B → Prop) (lo : Nat) (w : World) (S : List En) (rb : List B → Nat) : Prop where
  one : (S.map En.p).Nodup
  root : ∃ r ∈ S, r.p = [] ∧ r.k = 1
  par : ∀ e ∈ S, e.p ≠ [] → ∃ d ∈ S, d.p = e.p.dropLast ∧ d.k = 1
  knd : ∀ e ∈ S, e.k = 0 ∨ e.k = 1 ∨ e.k = 2 ∨ e.k = 3 ∨ e.k = 4
  few : S.length ≤ 100000
  inj : ∀ d ∈ S, ∀ c ∈ S, rb d.p = rb c.p → d.p = c.p
  low : ∀ e ∈ S, lo ≤ rb e.p
  dir : ∀ d ∈ S, d.k = 1 → Rc w (rb d.p) 1 (.pointer none) ⟨#[]⟩ (.pointer none) (rkd S rb d.p) (if d.p = [] then .pointer none else Pt (rb d.p.dropLast))
  lnk : ∀ e ∈ S, e.k = 2 → Rc w (rb e.p) 2 (.pointer none) (ba e.x) (.pointer none) [] (.pointer none)
  fil : ∀ e ∈ S, e.k = 0 → ∃ fb, Rc w (rb e.p) 0 (Pt fb) ⟨#[]⟩ (.pointer none) [] (.pointer none) ∧ F w fb e.x
  mnt : ∀ e ∈ S, e.k = 3 ∨ e.k = 4 → e.x = [] ∧ ∃ m, Rc w (rb e.p) (e.k : Int) (.pointer none) ⟨#[]⟩ m [] (.pointer none) ∧ (e.k = 3 → ∃ mb, m = Pt mb)
/-- What is no directory. -/
theorem Rt.lef {F : World → Nat → B → Prop} {lo : Nat} {w : World} {S : List En} {rb : List B → Nat} (h : Rt F lo w S rb) {e : En} (he : e ∈ S) (hk : e.k ≠ 1) : ∃ f t m, Rc w (rb e.p) (e.k : Int) f t m [] (.pointer none) := by
  rcases h.knd e he with h0 | h1 | h2 | h3
  · obtain ⟨fb, hR, -⟩ := h.fil e he h0
    rw [h0]; exact ⟨_, _, _, hR⟩
  · exact absurd h1 hk
  · rw [h2]; exact ⟨_, _, _, h.lnk e he h2⟩
  · obtain ⟨-, m, hR, -⟩ := h.mnt e he h3
    exact ⟨_, _, _, hR⟩
theorem rkd_len {F : World → Nat → B → Prop} {lo : Nat} {w : World} {S : List En} {rb : List B → Nat} (h : Rt F lo w S rb) (p : List B) : (rkd S rb p).length ≤ 100000 := by
  unfold rkd kidE kidU
  rw [List.length_map, (srt_perm En.nm _).length_eq]
  exact Nat.le_trans (List.length_filter_le _ _) h.few
theorem rone_p : ∀ {S : List En}, (S.map En.p).Nodup → ∀ {a b : En}, a ∈ S → b ∈ S → a.p = b.p → a = b
  | [], _, _, _, h, _, _ => by simp at h
  | e :: S, h, a, b, ha, hb, hp => by
    rw [List.map_cons, List.nodup_cons] at h
    rcases List.mem_cons.1 ha with h1 | h1
    · rcases List.mem_cons.1 hb with h2 | h2
      · rw [h1, h2]
      · exact absurd (show e.p ∈ S.map En.p from List.mem_map.2 ⟨b, h2, by rw [← hp, h1]⟩) h.1
    · rcases List.mem_cons.1 hb with h2 | h2
      · exact absurd (show e.p ∈ S.map En.p from List.mem_map.2 ⟨a, h1, by rw [hp, h2]⟩) h.1
      · exact rone_p h.2 h1 h2 hp
/-- Get of the node at p. -/
theorem rt_get {F : World → Nat → B → Prop} {lo : Nat} {w : World} {S : List En} {rb : List B → Nat} (h : Rt F lo w S rb) {d : En} (hd : d ∈ S) (x : B) :
    Calls Tryz.prog 38 #[Pt (rb d.p), .string (ba x)] w fun r w' => ((∃ e ∈ S, e.p = d.p ++ [x]) ∧ r = .returned (.tuple #[Pt (rb (d.p ++ [x])), .int .i64 0]) ∨ (¬ ∃ e ∈ S, e.p = d.p ++ [x]) ∧ ∃ c : Int, c ≠ 0 ∧ r = .returned (.tuple #[.pointer none, .int .i64 c])) ∧ Below w.heap.size w w' := by
  by_cases hk : d.k = 1
  · have hR := h.dir d hd hk
    have hl := rkd_len h d.p
    cases ht : rth (rkd S rb d.p) x with
    | true =>
      obtain ⟨p, hp, hpx⟩ := rth_some ht
      have hm := List.mem_of_getElem? hp
      obtain ⟨y, v⟩ := p
      simp only at hpx
      subst hpx
      obtain ⟨h1, rfl⟩ := rkd_mem.1 hm
      exact (rGet_yes hR y (by omega) ht hp).mono fun r w' ⟨e1, e2⟩ => ⟨.inl ⟨h1, e1⟩, e2⟩
    | false =>
      have hn : ¬ ∃ e ∈ S, e.p = d.p ++ [x] := fun he => by
        have := (rth_pw x (rkd_pw h.one rb d.p)).2 ⟨_, rkd_mem.2 ⟨he, rfl⟩⟩
        rw [ht] at this
        cases this
      exact (rGet_no hR x (by omega) ht).mono fun r w' ⟨e1, e2⟩ => ⟨.inr ⟨hn, _, by decide, e1⟩, e2⟩
  · have hn : ¬ ∃ e ∈ S, e.p = d.p ++ [x] := fun ⟨e, he, hp⟩ => by
      obtain ⟨c, hc, hcp, hck⟩ := h.par e he (by rw [hp]; simp)
      rw [hp, List.dropLast_concat] at hcp
      have : c = d := rone_p h.one hc hd hcp
      rw [this] at hck
      exact hk hck
    obtain ⟨f, t, m, hR⟩ := h.lef hd hk
    have hkk : (d.k : Int) ≠ 1 := by omega
    exact (rGet_leaf hR hkk (ba x)).mono fun r w' ⟨e1, e2⟩ => ⟨.inr ⟨hn, 193, by decide, e1⟩, by rw [e2]; exact Below.refl _ _⟩
set_option maxRecDepth 20000 in
theorem rKind_any {w : World} {nb : Nat} {k : Int} {f : Value} {to : ByteArray} {m : Value} {L : List RK} {up : Value} (h : Rc w nb k f to m L up) : Calls Tryz.prog 37 #[Pt nb] w fun e w' => e = .returned (.int .i8 k) ∧ w' = w := by
  obtain ⟨a, c, h1, -⟩ := h.cells
  have hc : w.cell? ⟨nb, 0, none⟩ = some (.int .i8 k) := by rw [cell_of_row w nb 0 _ _ _ h1]; rfl
  clear h h1
  go_enter Tryz.func37, Tryz.ntmps37
  go_wp2_with fail
  go_ret
  exact ⟨rfl, rfl⟩
theorem Rt.kind {F : World → Nat → B → Prop} {lo : Nat} {w : World} {S : List En} {rb : List B → Nat} (h : Rt F lo w S rb) {d : En} (hd : d ∈ S) : Calls Tryz.prog 37 #[Pt (rb d.p)] w fun e w' => e = .returned (.int .i8 (d.k : Int)) ∧ w' = w := by
  by_cases hk : d.k = 1
  · rw [hk]; exact rKind_any (h.dir d hd hk)
  · obtain ⟨f, t, m, hR⟩ := h.lef hd hk
    exact rKind_any hR
theorem Rt.lt {F : World → Nat → B → Prop} {lo : Nat} {w : World} {S : List En} {rb : List B → Nat} (h : Rt F lo w S rb) {c : En} (hc : c ∈ S) : rb c.p < w.heap.size := by
  by_cases hk : c.k = 1
  · exact (h.dir c hc hk).lt
  · obtain ⟨f, t, m, hR⟩ := h.lef hc hk
    exact hR.lt
end Go.Proofs.YtbnaegoahdcejaaGreatDoor

namespace Go.Proofs.YtbnaegoahdcejaaGreatDoor
open Go.RowKit Go.ChangeMaps

/-- Rising lists that hold the same are one. -/
theorem pw_ext : ∀ {L M : List RK}, L.Pairwise (fun a b => a.1 < b.1) → M.Pairwise (fun a b => a.1 < b.1) → (∀ q, q ∈ L ↔ q ∈ M) → L = M
  | [], [], _, _, _ => rfl
  | [], q :: M, _, _, h => absurd ((h q).2 (by simp)) (by simp)
  | q :: L, [], _, _, h => absurd ((h q).1 (by simp)) (by simp)
  | p :: L, q :: M, hL, hM, h => by
    obtain ⟨l1, l2⟩ := List.pairwise_cons.1 hL
    obtain ⟨m1, m2⟩ := List.pairwise_cons.1 hM
    have hpq : p = q := by
      rcases List.mem_cons.1 ((h p).1 (by simp)) with e | hp
      · exact e
      · rcases List.mem_cons.1 ((h q).2 (by simp)) with e | hq
        · exact e.symm
        · exact absurd (m1 _ hp) (List.lt_asymm (l1 _ hq))
    subst hpq
    rw [pw_ext l2 m2 (fun r => ⟨fun hr => ?_, fun hr => ?_⟩)]
    · rcases List.mem_cons.1 ((h r).1 (by simp [hr])) with e | hr2
      · rw [e] at hr
        exact absurd (l1 _ hr) (List.lt_irrefl _)
      · exact hr2
    · rcases List.mem_cons.1 ((h r).2 (by simp [hr])) with e | hr2
      · rw [e] at hr
        exact absurd (m1 _ hr) (List.lt_irrefl _)
      · exact hr2
theorem ins_mem {L : List RK} {x : B} {b : Nat} {q : RK} : q ∈ ins L x b ↔ q ∈ L ∨ q = (x, b) := by
  unfold ins
  have hL : q ∈ L ↔ q ∈ L.take (rpl L x) ∨ q ∈ L.drop (rpl L x) := by
    conv => lhs; rw [← List.take_append_drop (rpl L x) L]
    exact List.mem_append
  rw [List.mem_append, List.mem_append, List.mem_singleton, hL]
  constructor
  · rintro ((h | h) | h)
    · exact .inl (.inl h)
    · exact .inr h
    · exact .inl (.inr h)
  · rintro ((h | h) | h)
    · exact .inl (.inl h)
    · exact .inr h
    · exact .inl (.inr h)
theorem ins_cons_lt {p : RK} {L : List RK} {x : B} {b : Nat} (h : p.1 < x) : ins (p :: L) x b = p :: ins L x b := by
  unfold ins
  have e : rpl (p :: L) x = rpl L x + 1 := by
    conv => lhs; unfold rpl
    exact if_pos h
  rw [e]
  simp
theorem ins_cons_ge {p : RK} {L : List RK} {x : B} {b : Nat} (h : ¬ p.1 < x) : ins (p :: L) x b = (x, b) :: p :: L := by
  unfold ins
  have e : rpl (p :: L) x = 0 := by
    conv => lhs; unfold rpl
    exact if_neg h
  rw [e]
  simp
theorem ins_pw {x : B} {b : Nat} : ∀ {L : List RK}, L.Pairwise (fun a b => a.1 < b.1) → (∀ q ∈ L, q.1 ≠ x) → (ins L x b).Pairwise (fun a b => a.1 < b.1)
  | [], _, _ => by simp [ins]
  | p :: L, h, hx => by
    obtain ⟨h1, h2⟩ := List.pairwise_cons.1 h
    by_cases hp : p.1 < x
    · rw [ins_cons_lt hp, List.pairwise_cons]
      refine ⟨fun q hq => ?_, ins_pw h2 (fun q hq => hx q (by simp [hq]))⟩
      rcases ins_mem.1 hq with hq | rfl
      · exact h1 q hq
      · exact hp
    · have hlt : x < p.1 := b_lt (List.not_lt.1 hp) (fun e => hx p (by simp) e.symm)
      rw [ins_cons_ge hp, List.pairwise_cons]
      refine ⟨fun q hq => ?_, h⟩
      rcases List.mem_cons.1 hq with rfl | hq
      · exact hlt
      · exact List.lt_trans hlt (h1 q hq)
/-- Blocks by paths, one more. -/
def rbu (rb : List B → Nat) (p : List B) (b : Nat) : List B → Nat := fun q => if q = p then b else rb q
theorem rkd_add {S : List En} {rb : List B → Nat} {d e : En} {x : B} {b : Nat} (h : (S.map En.p).Nodup) (hn : ¬ ∃ c ∈ S, c.p = d.p ++ [x]) (he : e.p = d.p ++ [x]) (q : List B) : rkd (S ++ [e]) (rbu rb (d.p ++ [x]) b) q = if q = d.p then ins (rkd S rb d.p) x b else rkd S rb q := by
  have hnd : ((S ++ [e]).map En.p).Nodup := by
    rw [List.map_append, List.nodup_append]
    refine ⟨h, by simp, fun a ha c hc => ?_⟩
    simp only [List.map_cons, List.map_nil, List.mem_singleton] at hc
    rintro rfl
    obtain ⟨c, hc1, hc2⟩ := List.mem_map.1 ha
    exact hn ⟨c, hc1, by rw [hc2, hc, he]⟩
  have hmem : ∀ y v, (y, v) ∈ rkd (S ++ [e]) (rbu rb (d.p ++ [x]) b) q ↔ ((y, v) ∈ rkd S rb q ∧ q ++ [y] ≠ d.p ++ [x]) ∨ (q = d.p ∧ y = x ∧ v = b) := fun y v => by
    rw [rkd_mem, rkd_mem]
    constructor
    · rintro ⟨⟨c, hc, hcp⟩, rfl⟩
      by_cases hq : q ++ [y] = d.p ++ [x]
      · refine .inr ?_
        have := List.append_inj' hq rfl
        exact ⟨this.1, by simpa using this.2, by unfold rbu; rw [if_pos hq]⟩
      · refine .inl ⟨⟨?_, by unfold rbu; rw [if_neg hq]⟩, hq⟩
        rcases List.mem_append.1 hc with hc | hc
        · exact ⟨c, hc, hcp⟩
        · rw [List.mem_singleton.1 hc, he] at hcp
          exact absurd hcp.symm hq
    · rintro (⟨⟨⟨c, hc, hcp⟩, rfl⟩, hq⟩ | ⟨rfl, rfl, rfl⟩)
      · exact ⟨⟨c, by simp [hc], hcp⟩, by unfold rbu; rw [if_neg hq]⟩
      · exact ⟨⟨e, by simp, he⟩, by unfold rbu; rw [if_pos rfl]⟩
  by_cases hq : q = d.p
  · rw [if_pos hq]
    refine pw_ext (rkd_pw hnd _ _) (ins_pw (rkd_pw h rb d.p) (fun r hr hx => ?_)) (fun r => ?_)
    · obtain ⟨y, v⟩ := r
      simp only at hx
      subst hx
      exact hn (rkd_mem.1 hr).1
    · obtain ⟨y, v⟩ := r
      rw [hmem, ins_mem, hq]
      constructor
      · rintro (⟨h1, -⟩ | ⟨-, rfl, rfl⟩)
        · exact .inl h1
        · exact .inr rfl
      · rintro (h1 | h1)
        · refine .inl ⟨h1, fun e2 => ?_⟩
          have := List.append_inj' e2 rfl
          have hy : y = x := by simpa using this.2
          subst hy
          exact hn (rkd_mem.1 h1).1
        · simp only [Prod.mk.injEq] at h1
          exact .inr ⟨rfl, h1.1, h1.2⟩
  · rw [if_neg hq]
    refine pw_ext (rkd_pw hnd _ _) (rkd_pw h rb q) (fun r => ?_)
    obtain ⟨y, v⟩ := r
    rw [hmem]
    constructor
    · rintro (⟨h1, -⟩ | ⟨h1, -⟩)
      · exact h1
      · exact absurd h1 hq
    · intro h1
      refine .inl ⟨h1, fun e2 => ?_⟩
      have := List.append_inj' e2 rfl
      exact hq this.1
end Go.Proofs.YtbnaegoahdcejaaGreatDoor

namespace Go.Proofs.YtbnaegoahdcejaaGreatDoor
open Go.RowKit Go.ChangeMaps

/-- The blocks on the way up from p. -/
def rway (rb : List B → Nat) : Nat → List B → List Nat
  | 0, _ => []
  | n + 1, p => rb p.dropLast :: rway rb n p.dropLast
theorem rway_len (rb : List B → Nat) : ∀ (n : Nat) (p : List B), (rway rb n p).length = n
  | 0, _ => rfl
  | n + 1, p => by unfold rway; rw [List.length_cons, rway_len rb n]
theorem Rt.dcel {F : World → Nat → B → Prop} {lo : Nat} {w : World} {S : List En} {rb : List B → Nat} (h : Rt F lo w S rb) {d : En} (hd : d ∈ S) (hk : d.k = 1) : ∃ a b c e f, w.heap[rb d.p]? = some (.cells #[a, b, c, e, f, if d.p = [] then .pointer none else Pt (rb d.p.dropLast)] 127 (0, 0)) := by
  obtain ⟨a, c, h1, -⟩ := (h.dir d hd hk).cel
  exact ⟨_, _, _, _, _, h1⟩
theorem Rt.up {F : World → Nat → B → Prop} {lo : Nat} {w : World} {S : List En} {rb : List B → Nat} (h : Rt F lo w S rb) : ∀ (n : Nat) {d : En}, d ∈ S → d.k = 1 → d.p.length = n → RUp w (Pt (rb d.p)) (rb d.p :: rway rb n d.p)
  | 0, d, hd, hk, hn => by
    have hp : d.p = [] := List.eq_nil_of_length_eq_zero hn
    obtain ⟨a, b, c, e, f, h1⟩ := h.dcel hd hk
    rw [if_pos hp] at h1
    exact ⟨rfl, a, b, c, e, f, _, h1, rfl⟩
  | n + 1, d, hd, hk, hn => by
    have hp : d.p ≠ [] := fun e => by rw [e] at hn; simp at hn
    obtain ⟨a, b, c, e, f, h1⟩ := h.dcel hd hk
    rw [if_neg hp] at h1
    obtain ⟨u, hu, hup, huk⟩ := h.par d hd hp
    have ih := Rt.up h n hu huk (by rw [hup, List.length_dropLast]; omega)
    rw [hup] at ih
    exact ⟨rfl, a, b, c, e, f, _, h1, ih⟩
theorem rway_mem {rb : List B → Nat} : ∀ {n : Nat} {p : List B} {b : Nat}, b ∈ rway rb n p → ∃ q, q <+: p ∧ b = rb q
  | 0, p, b, h => by simp [rway] at h
  | n + 1, p, b, h => by
    unfold rway at h
    rcases List.mem_cons.1 h with rfl | h
    · exact ⟨_, List.dropLast_prefix p, rfl⟩
    · obtain ⟨q, hq, e⟩ := rway_mem h
      exact ⟨q, hq.trans (List.dropLast_prefix p), e⟩
/-- All above stands, too. -/
theorem Rt.pre {F : World → Nat → B → Prop} {lo : Nat} {w : World} {S : List En} {rb : List B → Nat} (h : Rt F lo w S rb) : ∀ (n : Nat) {d : En} {q : List B}, d ∈ S → d.p.length = n → q <+: d.p → ∃ c ∈ S, c.p = q
  | 0, d, q, hd, hn, hq => by
    have hp : d.p = [] := List.eq_nil_of_length_eq_zero hn
    rw [hp] at hq
    exact ⟨d, hd, by rw [hp, List.prefix_nil.1 hq]⟩
  | n + 1, d, q, hd, hn, hq => by
    have hp : d.p ≠ [] := fun e => by rw [e] at hn; simp at hn
    by_cases he : q = d.p
    · exact ⟨d, hd, he.symm⟩
    · obtain ⟨u, hu, hup, -⟩ := h.par d hd hp
      refine Rt.pre h n hu (by rw [hup, List.length_dropLast]; omega) ?_
      rw [hup]
      obtain ⟨t, ht⟩ := hq
      have htn : t ≠ [] := fun e => he (by rw [e, List.append_nil] at ht; exact ht)
      rw [← ht, List.dropLast_append_of_ne_nil htn]
      exact List.prefix_append _ _
/-- What Add of a new node answers. -/
def rac (S : List En) (d : En) (x : B) : Int := if nameOk (ba x) = false then 190 else if (∃ e ∈ S, e.p = d.p ++ [x]) then 191 else if 4096 ≤ (kidE S d.p).length then 4 else tcode d.p.length 0
end Go.Proofs.YtbnaegoahdcejaaGreatDoor

namespace Go.Proofs.YtbnaegoahdcejaaGreatDoor
open Go.RowKit Go.ChangeMaps

/-- What a file holds does not hang on the nodes (whose first cell is their kind). -/
def Fst (F : World → Nat → B → Prop) : Prop := ∀ (w w' : World) (fb : Nat) (x : B), w.heap.size ≤ w'.heap.size → (∀ (g : Nat), g < w.heap.size → (∀ k : Int, w.cell? ⟨g, 0, none⟩ ≠ some (.int .i8 k)) → w'.heap[g]? = w.heap[g]?) → F w fb x → F w' fb x
/-- A new node of an entry. -/
def RNew (F : World → Nat → B → Prop) (w : World) (eb : Nat) (e : En) : Prop :=
  (e.k = 0 ∧ ∃ fb, Rc w eb 0 (Pt fb) ⟨#[]⟩ (.pointer none) [] (.pointer none) ∧ F w fb e.x) ∨ (e.k = 1 ∧ Rc w eb 1 (.pointer none) ⟨#[]⟩ (.pointer none) [] (.pointer none)) ∨ (e.k = 2 ∧ Rc w eb 2 (.pointer none) (ba e.x) (.pointer none) [] (.pointer none)) ∨
    ((e.k = 3 ∨ e.k = 4) ∧ e.x = [] ∧ ∃ m, Rc w eb (e.k : Int) (.pointer none) ⟨#[]⟩ m [] (.pointer none) ∧ (e.k = 3 → ∃ mb, m = Pt mb))
theorem rac_code {F : World → Nat → B → Prop} {lo : Nat} {w : World} {S : List En} {rb : List B → Nat} (h : Rt F lo w S rb) {d : En} (hd : d ∈ S) {x : B} {k2 : Int} {eb : Nat} (hne : ∀ c ∈ S, rb c.p ≠ eb) : rcd x (rkd S rb d.p) k2 (eb ∈ rb d.p :: rway rb d.p.length d.p) false (rway rb d.p.length d.p).length = rac S d x := by
  have hin : ¬ eb ∈ rb d.p :: rway rb d.p.length d.p := fun hm => by
    rcases List.mem_cons.1 hm with e | hm
    · exact hne d hd e.symm
    · obtain ⟨q, hq, e⟩ := rway_mem hm
      obtain ⟨c, hc, hcp⟩ := h.pre _ hd rfl hq
      exact hne c hc (by rw [hcp]; exact e.symm)
  have hth : rth (rkd S rb d.p) x = true ↔ ∃ e ∈ S, e.p = d.p ++ [x] := by
    rw [rth_pw x (rkd_pw h.one rb d.p)]
    exact ⟨fun ⟨v, hv⟩ => (rkd_mem.1 hv).1, fun he => ⟨_, rkd_mem.2 ⟨he, rfl⟩⟩⟩
  have hl : (rkd S rb d.p).length = (kidE S d.p).length := by unfold rkd; rw [List.length_map]
  unfold rcd rac
  rw [rway_len, hl]
  by_cases c1 : nameOk (ba x) = false
  · rw [if_pos c1, if_pos c1]
  · rw [if_neg c1, if_neg c1]
    by_cases c2 : ∃ e ∈ S, e.p = d.p ++ [x]
    · rw [if_pos (hth.2 c2), if_pos c2]
    · rw [if_neg (fun e => c2 (hth.1 e)), if_neg c2]
      by_cases c3 : 4096 ≤ (kidE S d.p).length
      · rw [if_pos c3, if_pos c3]
      · rw [if_neg c3, if_neg c3, if_neg (fun e => hin e.2), if_neg (fun e => by cases e.2)]
/-- One entry more. -/
theorem Rt.add {F : World → Nat → B → Prop} (hF : Fst F) {lo : Nat} {w w' : World} {S : List En} {rb : List B → Nat} (h : Rt F lo w S rb) {d e : En} (hd : d ∈ S) (hk : d.k = 1) {x : B} (hn : ¬ ∃ c ∈ S, c.p = d.p ++ [x]) (he : e.p = d.p ++ [x]) {eb : Nat} (hne : ∀ c ∈ S, rb c.p ≠ eb) (hlo : lo ≤ eb) (hnew : RNew F w eb e) (hl : S.length < 100000)
    (h1 : Rc w' (rb d.p) 1 (.pointer none) ⟨#[]⟩ (.pointer none) (ins (rkd S rb d.p) x eb) (if d.p = [] then .pointer none else Pt (rb d.p.dropLast))) (h2 : e.k = 1 → Rc w' eb 1 (.pointer none) ⟨#[]⟩ (.pointer none) [] (Pt (rb d.p))) (hu : Upd (fun k => k = rb d.p ∨ (e.k : Int) = 1 ∧ k = eb) w w') : Rt F lo w' (S ++ [e]) (rbu rb (d.p ++ [x]) eb) := by
  have hrb : ∀ c ∈ S, rbu rb (d.p ++ [x]) eb c.p = rb c.p := fun c hc => by unfold rbu; rw [if_neg (fun e2 => hn ⟨c, hc, e2⟩)]
  have hrd : ∀ q, (∃ c ∈ S, c.p = q) → rbu rb (d.p ++ [x]) eb q = rb q := fun q ⟨c, hc, hcp⟩ => by rw [← hcp]; exact hrb c hc
  have hre : rbu rb (d.p ++ [x]) eb e.p = eb := by unfold rbu; rw [if_pos he]
  obtain ⟨ca, hca⟩ : ∃ ca : Array Value, w.heap[rb d.p]? = some (.cells ca 127 (0, 0)) := by
    obtain ⟨a, c, g1, -⟩ := (h.dir d hd hk).cel
    exact ⟨_, g1⟩
  obtain ⟨ce, hce⟩ : ∃ ce : Array Value, w.heap[eb]? = some (.cells ce 127 (0, 0)) := by
    rcases hnew with ⟨-, fb, hR, -⟩ | ⟨-, hR⟩ | ⟨-, hR⟩ | ⟨-, -, m, hR, -⟩ <;> (obtain ⟨a, c, g1, -⟩ := hR.cel; exact ⟨_, g1⟩)
  have hoth : ∀ (T : TypeId), T ≠ 127 → ∀ (g : Nat) (cs : Array Value), w.heap[g]? = some (Obj.cells cs T (0, 0)) → w'.heap[g]? = w.heap[g]? := fun T hT g cs hg => by
    refine hu.block g (Array.getElem?_eq_some_iff.1 hg).1 ?_
    rintro (e1 | ⟨-, e1⟩)
    · rw [e1, hca] at hg
      simp only [Option.some.injEq, Obj.cells.injEq] at hg
      exact hT hg.2.1.symm
    · rw [e1, hce] at hg
      simp only [Option.some.injEq, Obj.cells.injEq] at hg
      exact hT hg.2.1.symm
  obtain ⟨kd, hcd0⟩ : ∃ k : Int, w.cell? ⟨rb d.p, 0, none⟩ = some (.int .i8 k) := by
    obtain ⟨a, c, g1, -⟩ := (h.dir d hd hk).cel
    exact ⟨1, by rw [cell_of_row w _ 0 _ _ _ g1]; rfl⟩
  obtain ⟨ke, hce0⟩ : ∃ k : Int, w.cell? ⟨eb, 0, none⟩ = some (.int .i8 k) := by
    rcases hnew with ⟨-, fb, hR, -⟩ | ⟨-, hR⟩ | ⟨-, hR⟩ | ⟨-, -, m, hR, -⟩ <;> (obtain ⟨a, c, g1, -⟩ := hR.cel; exact ⟨_, by rw [cell_of_row w _ 0 _ _ _ g1]; rfl⟩)
  have hot2 : ∀ (g : Nat), g < w.heap.size → (∀ k : Int, w.cell? ⟨g, 0, none⟩ ≠ some (.int .i8 k)) → w'.heap[g]? = w.heap[g]? := fun g hg hk2 => by
    refine hu.block g hg ?_
    rintro (e1 | ⟨-, e1⟩)
    · exact hk2 kd (by rw [e1]; exact hcd0)
    · exact hk2 ke (by rw [e1]; exact hce0)
  have hkeep : ∀ {c : En} {k : Int} {f : Value} {t : ByteArray} {m : Value} {L : List RK} {up : Value}, c ∈ S → c.p ≠ d.p → Rc w (rb c.p) k f t m L up → Rc w' (rb c.p) k f t m L up := fun {c} {k} {f} {t} {m} {L} {up} hc hcd hR => by
    refine hR.keep (hu.block _ hR.lt ?_) (hoth _ (by decide))
    rintro (e1 | ⟨-, e1⟩)
    · exact hcd (h.inj c hc d hd e1)
    · exact hne c hc e1
  have hknew : e.k ≠ 1 → ∀ {k : Int} {f : Value} {t : ByteArray} {m : Value} {L : List RK} {up : Value}, Rc w eb k f t m L up → Rc w' eb k f t m L up := fun hek {k} {f} {t} {m} {L} {up} hR => by
    refine hR.keep (hu.block _ hR.lt ?_) (hoth _ (by decide))
    rintro (e1 | ⟨e1, -⟩)
    · exact hne d hd e1.symm
    · exact hek (by omega)
  have hep : e.p ≠ [] := by rw [he]; simp
  have hed : e.p.dropLast = d.p := by rw [he, List.dropLast_concat]
  have hSe : ∀ c ∈ S, c.p ≠ e.p := fun c hc e2 => hn ⟨c, hc, by rw [e2, he]⟩
  refine ⟨?_, ?_, ?_, ?_, ?_, ?_, ?_, ?_, ?_, ?_, ?_⟩
  · rw [List.map_append, List.nodup_append]
    refine ⟨h.one, by simp, fun a ha c hc => ?_⟩
    simp only [List.map_cons, List.map_nil, List.mem_singleton] at hc
    rintro rfl
    obtain ⟨c, hc1, hc2⟩ := List.mem_map.1 ha
    exact hSe c hc1 (by rw [hc2, hc])
  · obtain ⟨r, hr, h5⟩ := h.root
    exact ⟨r, by simp [hr], h5⟩
  · intro c hc hcp
    rcases List.mem_append.1 hc with hc | hc
    · obtain ⟨u, hu1, h5⟩ := h.par c hc hcp
      exact ⟨u, by simp [hu1], h5⟩
    · rw [List.mem_singleton.1 hc]
      exact ⟨d, by simp [hd], hed.symm, hk⟩
  · intro c hc
    rcases List.mem_append.1 hc with hc | hc
    · exact h.knd c hc
    · rw [List.mem_singleton.1 hc]
      rcases hnew with ⟨h5, -⟩ | ⟨h5, -⟩ | ⟨h5, -⟩ | ⟨h5, -⟩
      · exact .inl h5
      · exact .inr (.inl h5)
      · exact .inr (.inr (.inl h5))
      · exact .inr (.inr (.inr h5))
  · rw [List.length_append]; simp; omega
  · intro a ha c hc hac
    rcases List.mem_append.1 ha with ha | ha
    · rw [hrb a ha] at hac
      rcases List.mem_append.1 hc with hc | hc
      · rw [hrb c hc] at hac
        exact h.inj a ha c hc hac
      · rw [List.mem_singleton.1 hc, hre] at hac
        exact absurd hac (hne a ha)
    · rw [List.mem_singleton.1 ha, hre] at hac
      rcases List.mem_append.1 hc with hc | hc
      · rw [hrb c hc] at hac
        exact absurd hac.symm (hne c hc)
      · rw [List.mem_singleton.1 ha, List.mem_singleton.1 hc]
  · intro c hc
    rcases List.mem_append.1 hc with hc | hc
    · rw [hrb c hc]; exact h.low c hc
    · rw [List.mem_singleton.1 hc, hre]; exact hlo
  · intro c hc hck
    rw [rkd_add h.one hn he]
    rcases List.mem_append.1 hc with hc | hc
    · rw [hrb c hc]
      have hup : (if c.p = [] then Value.pointer none else Pt (rbu rb (d.p ++ [x]) eb c.p.dropLast)) = if c.p = [] then .pointer none else Pt (rb c.p.dropLast) := by
        by_cases hcp : c.p = []
        · rw [if_pos hcp, if_pos hcp]
        · rw [if_neg hcp, if_neg hcp]
          obtain ⟨u, hu1, hu2, -⟩ := h.par c hc hcp
          rw [hrd _ ⟨u, hu1, hu2⟩]
      rw [hup]
      by_cases hcd : c.p = d.p
      · rw [if_pos hcd, hcd]
        exact h1
      · rw [if_neg hcd]
        exact hkeep hc hcd (h.dir c hc hck)
    · obtain rfl := List.mem_singleton.1 hc
      rw [hre, if_neg (by rw [he]; intro e2; have := congrArg List.length e2; simp at this), if_neg hep, hed, hrb d hd]
      have hnil : rkd S rb c.p = [] := by
        cases hL : rkd S rb c.p with
        | nil => rfl
        | cons q L =>
          obtain ⟨y, v⟩ := q
          have hm : (y, v) ∈ rkd S rb c.p := by rw [hL]; simp
          obtain ⟨⟨g, hg, hgp⟩, -⟩ := rkd_mem.1 hm
          obtain ⟨u, hu1, hu2, -⟩ := h.par g hg (by rw [hgp]; simp)
          rw [hgp, List.dropLast_concat] at hu2
          exact absurd hu2 (hSe u hu1)
      rw [hnil]
      exact h2 hck
  · intro c hc hck
    rcases List.mem_append.1 hc with hc | hc
    · rw [hrb c hc]
      exact hkeep hc (fun e2 => by have := rone_p h.one hc hd e2; rw [this, hk] at hck; cases hck) (h.lnk c hc hck)
    · obtain rfl := List.mem_singleton.1 hc
      rw [hre]
      rcases hnew with ⟨h5, -⟩ | ⟨h5, -⟩ | ⟨-, hR⟩ | ⟨h5, -⟩
      · omega
      · omega
      · exact hknew (by omega) hR
      · omega
  · intro c hc hck
    rcases List.mem_append.1 hc with hc | hc
    · rw [hrb c hc]
      obtain ⟨fb, hR, hFx⟩ := h.fil c hc hck
      exact ⟨fb, hkeep hc (fun e2 => by have := rone_p h.one hc hd e2; rw [this, hk] at hck; cases hck) hR, hF w w' fb c.x hu.size hot2 hFx⟩
    · obtain rfl := List.mem_singleton.1 hc
      rw [hre]
      rcases hnew with ⟨-, fb, hR, hFx⟩ | ⟨h5, -⟩ | ⟨h5, -⟩ | ⟨h5, -⟩
      · exact ⟨fb, hknew (by omega) hR, hF w w' fb c.x hu.size hot2 hFx⟩
      · omega
      · omega
      · omega
  · intro c hc hck
    rcases List.mem_append.1 hc with hc | hc
    · rw [hrb c hc]
      obtain ⟨hx0, m, hR, hm⟩ := h.mnt c hc hck
      exact ⟨hx0, m, hkeep hc (fun e2 => by have := rone_p h.one hc hd e2; rw [this, hk] at hck; omega) hR, hm⟩
    · obtain rfl := List.mem_singleton.1 hc
      rw [hre]
      rcases hnew with ⟨h5, -⟩ | ⟨h5, -⟩ | ⟨h5, -⟩ | ⟨-, h6, m, hR, hm⟩
      · omega
      · omega
      · omega
      · exact ⟨h6, m, hknew (by omega) hR, hm⟩
/-- Add of a new node. -/
theorem rt_add {F : World → Nat → B → Prop} (hF : Fst F) {lo : Nat} {w : World} {S : List En} {rb : List B → Nat} (h : Rt F lo w S rb) (hlw : lo ≤ w.heap.size) {d e : En} (hd : d ∈ S) (hk : d.k = 1) (hdp : d.p.length ≤ 1000) {x : B} (hx : x.length ≤ 1000000000) (he : e.p = d.p ++ [x]) {eb : Nat} (hne : ∀ c ∈ S, rb c.p ≠ eb) (hlo : lo ≤ eb) (hnew : RNew F w eb e) (hl : S.length < 100000) :
    Calls Tryz.prog 40 #[Pt (rb d.p), .string (ba x), Pt eb] w fun r w' => r = .returned (.int .i64 (rac S d x)) ∧ (rac S d x ≠ 0 → Below w.heap.size w w') ∧ (rac S d x = 0 → Rt F lo w' (S ++ [e]) (rbu rb (d.p ++ [x]) eb)) ∧ Below lo w w' ∧ Upd (fun k => k = rb d.p ∨ k = eb) w w' := by
  have hcode := fun k2 => rac_code h hd (x := x) (k2 := k2) hne
  have hU := h.up _ hd hk rfl
  have hn : rac S d x = 0 → ¬ ∃ c ∈ S, c.p = d.p ++ [x] := fun h0 hc => by
    unfold rac at h0
    by_cases c1 : nameOk (ba x) = false
    · rw [if_pos c1] at h0; cases h0
    · rw [if_neg c1, if_pos hc] at h0; cases h0
  have hkl := rkd_len h d.p
  have main : ∀ {k2 : Int} {f2 : Value} {t2 : ByteArray} {m2 : Value}, Rc w eb k2 f2 t2 m2 [] (.pointer none) → k2 = (e.k : Int) → (e.k = 1 → f2 = .pointer none ∧ t2 = ⟨#[]⟩ ∧ m2 = .pointer none) → Calls Tryz.prog 40 #[Pt (rb d.p), .string (ba x), Pt eb] w fun r w' => r = .returned (.int .i64 (rac S d x)) ∧ (rac S d x ≠ 0 → Below w.heap.size w w') ∧ (rac S d x = 0 → Rt F lo w' (S ++ [e]) (rbu rb (d.p ++ [x]) eb)) ∧ Below lo w w' ∧ Upd (fun k => k = rb d.p ∨ k = eb) w w' := by
    intro k2 f2 t2 m2 hE hk2 hk1
    refine (rAdd_any (h.dir d hd hk) hE x hx (rway rb d.p.length d.p) hU (by rw [rway_len]; omega) (by omega) false (.inl ⟨rfl, rfl⟩) (fun _ => .inr (.inr rfl)) (fun _ => rfl)).mono ?_
    rintro r w' ⟨h1, h2, h3⟩
    rw [hcode k2] at h1 h2 h3
    refine ⟨h1, h2, fun h0 => ?_, ?_⟩
    · obtain ⟨g1, g2, g3⟩ := h3 h0
      refine Rt.add hF h hd hk (hn h0) he hne hlo hnew hl g1 (fun hek => ?_) ?_
      · obtain ⟨rfl, rfl, rfl⟩ := hk1 hek
        exact g2 (by rw [hk2, hek]; rfl)
      · rw [hk2] at g3
        exact g3
    · by_cases h0 : rac S d x = 0
      · obtain ⟨-, -, g3⟩ := h3 h0
        refine ⟨g3.below hlw (fun k hk => ?_), g3.mono (fun _ _ h5 => h5.imp id (fun h6 => h6.2))⟩
        rcases hk with rfl | ⟨-, rfl⟩
        · exact h.low d hd
        · exact hlo
      · exact ⟨(h2 h0).mono hlw, Upd.of_below (h2 h0)⟩
  rcases id hnew with ⟨h0, fb, hR, -⟩ | ⟨h1, hR⟩ | ⟨h2, hR⟩ | ⟨h3, -, m, hR, -⟩
  · exact main hR (by rw [h0]; rfl) (fun h1 => by omega)
  · exact main hR (by rw [h1]; rfl) (fun _ => ⟨rfl, rfl, rfl⟩)
  · exact main hR (by rw [h2]; rfl) (fun h1 => by omega)
  · exact main hR rfl (fun h1 => by omega)
end Go.Proofs.YtbnaegoahdcejaaGreatDoor
