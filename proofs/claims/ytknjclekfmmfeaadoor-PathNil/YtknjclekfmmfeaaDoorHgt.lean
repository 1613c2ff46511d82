/- How high a node is. -/
import Derived.Test.YtknjclekfmmfeaaDoorChn
import Derived.Maps.Range
namespace Go.Proofs.YtknjclekfmmfeaaDoor
open Go.RowKit Go.ChangeMaps

/-- How high v is, whatever else has come. -/
def Ht (w : World) (v : Value) (k : Nat) : Prop := ∀ W, Below w.heap.size w W → Calls Tryd.prog 46 #[v] W fun e W' => e = .returned (.int .i64 (k : Int)) ∧ Below W.heap.size W W'
theorem Ht.below {w w' : World} {v : Value} {k : Nat} (h : Ht w v k) (hb : Below w.heap.size w w') : Ht w' v k := fun W hW => h W (below_tr hb hW)

set_option maxRecDepth 20000 in
set_option maxHeartbeats 1000000 in
theorem ht_other (nb k : Nat) (t : TypeId) (w : World) (h : Nd w nb t k) (ht : t = 88 ∨ t = 92 ∨ t = 89 ∨ t = 59) : Ht w (Pt nb) 0 := fun W hW => by
  have h2 := h.below hW
  go_enter Tryd.func46, Tryd.ntmps46
  go_wp2_with fail
  refine (directory_other nb k t W h2 ht).mono ?_
  rintro e w' ⟨rfl, rfl⟩
  go_wp2
  go_ret
  exact ⟨rfl, Below.refl _ _⟩

def top (f : Value → Nat) (L : List KV) : Nat := L.foldr (fun p a => max (f p.2 + 1) a) 0
theorem top_le {f : Value → Nat} {n : Nat} : ∀ {L : List KV}, (∀ p ∈ L, f p.2 + 1 ≤ n) → top f L ≤ n
  | [], _ => Nat.zero_le _
  | p :: L, h => by
    have h1 := h p (by simp)
    have h2 := top_le (L := L) (fun q hq => h q (by simp [hq]))
    show max (f p.2 + 1) (top f L) ≤ n
    omega
theorem le_top {f : Value → Nat} : ∀ {L : List KV} {p : KV}, p ∈ L → f p.2 + 1 ≤ top f L
  | q :: L, p, h => by
    show _ ≤ max (f q.2 + 1) (top f L)
    rcases List.mem_cons.1 h with rfl | h
    · omega
    · have := le_top (f := f) h; omega

theorem Ents.mem {es : Array MapEntry} {clock : Nat} {L : List KV} (h : Ents es clock L) {x : MapEntry} (hx : x ∈ es.toList) : ∃ p ∈ L, x.val = p.2 := by
  have : (x.key, x.val) ∈ L.map (fun p => (Value.string p.1, p.2)) := by rw [← h.kv]; exact List.mem_map.2 ⟨x, hx, rfl⟩
  obtain ⟨p, hp, e⟩ := List.mem_map.1 this
  simp only [Prod.mk.injEq] at e
  exact ⟨p, hp, e.2.symm⟩
theorem Ents.has {es : Array MapEntry} {clock : Nat} {L : List KV} (h : Ents es clock L) {p : KV} (hp : p ∈ L) : ∃ x ∈ es.toList, x.val = p.2 := by
  have : (Value.string p.1, p.2) ∈ es.toList.map (fun e => (e.key, e.val)) := by rw [h.kv]; exact List.mem_map.2 ⟨p, hp, rfl⟩
  obtain ⟨x, hx, e⟩ := List.mem_map.1 this
  simp only [Prod.mk.injEq] at e
  exact ⟨x, hx, e.2⟩

set_option maxRecDepth 20000 in
set_option maxHeartbeats 2000000 in
theorem ht_dir (nb db mb : Nat) (up : Value) (L : List KV) (f : Value → Nat) (w : World) (h : Dr w nb db mb up L) (hf : ∀ p ∈ L, Ht w p.2 (f p.2) ∧ f p.2 ≤ 1000000) : Ht w (Pt nb) (top f L) := fun W hW => by
  have hD := h.below hW
  have hc2 := hD.c2
  obtain ⟨es, clock, hm, hE⟩ := hD.map
  have hrg := run_range_map (P := Tryd.prog) W 56 _ _ mb es clock Tryd.underlying56 hm
  have hlm := hD.lm
  have HH : ∀ x ∈ es.toList, ∀ V, Below W.heap.size W V → Calls Tryd.prog 46 #[x.val] V fun e V' => e = .returned (.int .i64 (f x.val : Int)) ∧ Below V.heap.size V V' := fun x hx V hV => by
    obtain ⟨p, hp, e⟩ := hE.mem hx
    rw [e]
    exact (hf p hp).1 V (below_tr hW hV)
  have HF : ∀ x ∈ es.toList, f x.val ≤ 1000000 := fun x hx => by
    obtain ⟨p, hp, e⟩ := hE.mem hx
    rw [e]
    exact (hf p hp).2
  have HT : ∀ (high : Nat), (∀ x ∈ es.toList, f x.val + 1 ≤ high) → (high = 0 ∨ ∃ x ∈ es.toList, high = f x.val + 1) → high = top f L := fun high h1 h2 => by
    apply Nat.le_antisymm
    · rcases h2 with rfl | ⟨x, hx, rfl⟩
      · exact Nat.zero_le _
      · obtain ⟨p, hp, e⟩ := hE.mem hx
        rw [e]; exact le_top hp
    · exact top_le fun p hp => by
        obtain ⟨x, hx, e⟩ := hE.has hp
        rw [← e]; exact h1 x hx
  have HNd := hD.nod
  have AH := aside HH
  have AF := aside HF
  have AT := aside HT
  have AE := aside hE
  have AM := aside hm
  clear hf HH HF HT hE hm hD h
  go_enter Tryd.func46, Tryd.ntmps46
  go_wp2_with fail
  refine (directory_dir nb db W HNd).mono ?_
  rintro e w' ⟨rfl, rfl⟩
  go_wp2_with fail
  go_loopw [5, 7] (fun s5 _ wx => ∃ (high : Nat) (seen : Array Nat) (c0 : Nat), s5 = .int .i64 (high : Int) ∧ wx.heap[w'.heap.size]? = some (.mapIter (some mb) clock seen c0) ∧ clock ≤ c0 ∧ Below w'.heap.size w' wx ∧ high ≤ 1000001 ∧ (∀ x ∈ es.toList, seen.contains x.born = true → f x.val + 1 ≤ high) ∧ (high = 0 ∨ ∃ x ∈ es.toList, high = f x.val + 1)) (fun _ _ wx => wx.rangeLeft mb w'.heap.size)
  case atStart => exact ⟨0, #[], clock, rfl, heap_alloc_new w' _, Nat.le_refl _, below_al w' _, by omega, fun x _ hx => by simp at hx, .inl rfl⟩
  case round =>
    obtain ⟨high, seen, c0, rfl, hit, hcc, hbl, hle, hs1, hs2⟩ := hrel
    have hmr : wr.heap[mb]? = some (.map es clock) := (hbl.block mb hlm).trans AM.out
    have hleft : wr.rangeLeft mb w'.heap.size = (leftOf es seen).size := by simp [World.rangeLeft, hmr, hit]
    have AB := aside hbl
    have AS1 := aside hs1
    have AS2 := aside hs2
    have AI := aside hit
    have AMR := aside hmr
    rcases run_next_at (P := Tryd.prog) wr 0 w'.heap.size mb clock c0 seen es clock hit hmr AE.out.old hcc with ⟨h0, hrun⟩ | ⟨x, hx, w1, hal, hrun⟩
    · clear hs1 hs2 hbl hit hmr
      go_wp2_with fail
      go_ret
      have hT := AT.out high (fun x hx => AS1.out x hx (all_seen es seen h0 x hx)) AS2.out
      exact ⟨by rw [← hT]; rfl, AB.out⟩
    · obtain ⟨hxm, hxs⟩ := mem_left hx
      have hit1 : w1.heap[w'.heap.size]? = some (.mapIter (some mb) clock seen c0) := by rcases hal with rfl | rfl <;> exact hit
      have hm1 : w1.heap[mb]? = some (.map es clock) := by rcases hal with rfl | rfl <;> exact hmr
      have hb1 : Below w'.heap.size w' w1 := by rcases hal with rfl | rfl
                                                · exact hbl
                                                · exact hbl.drew
      obtain ⟨w2, hw2⟩ : ∃ w2, w2 = setBlock w1 w'.heap.size (.mapIter (some mb) clock (seen.push x.born) clock) := ⟨_, rfl⟩
      rw [← hw2] at hrun
      have hit2 : w2.heap[w'.heap.size]? = some (.mapIter (some mb) clock (seen.push x.born) clock) := by rw [hw2]; exact heap_set_same hit1
      have hm2 : w2.heap[mb]? = some (.map es clock) := by rw [hw2]; exact heap_set_far hm1 (by omega)
      have hb2 : Below w'.heap.size w' w2 := by rw [hw2]; exact hb1.trans ((Upd.setBlock (F := fun k => k = w'.heap.size) _ _ _ rfl).below hb1.size (fun k hk => by omega))
      have hen := run_entry_at (P := Tryd.prog) w2 w'.heap.size mb clock seen es clock x hit2 hm2 hxm AE.out.nod
      have hfx := AF.out x hxm
      have hsh := left_shrinks es seen x hx
      have AB2 := aside hb2
      have AI2 := aside hit2
      have AX := aside hxm
      have hwr : IntKind.i64.wrap ((f x.val : Int) + 1) = ((f x.val + 1 : Nat) : Int) := by rw [wrap_small _ (by omega) (by omega)]; simp
      clear hs1 hs2 hbl hit hmr hit1 hm1 hb1 hw2 hit2 hm2 hb2 hx hxm hal
      go_wp2_with fail
      refine (AH.out x AX.out _ AB2.out).mono ?_
      rintro e w3 ⟨rfl, hb3⟩
      have AB3 := aside hb3
      clear hb3
      go_wp2_with fail
      have hlt2 := (Array.getElem?_eq_some_iff.1 AI2.out).1
      have hit3 := (AB3.out.block _ hlt2).trans AI2.out
      have hb3 := AB2.out.trans (AB3.out.mono AB2.out.size)
      have hm3 : w3.heap[mb]? = some (.map es clock) := (hb3.block mb hlm).trans AM.out
      refine ⟨⟨max high (f x.val + 1), seen.push x.born, clock, by congr 1; omega, hit3, Nat.le_refl _, hb3, by omega, fun y hy hc => ?_, ?_⟩, ?_⟩
      · rw [contains_push] at hc
        cases hq : seen.contains y.born
        · rw [hq, Bool.false_or] at hc
          have he : y = x := born_inj AE.out.nod hy AX.out (beq_iff_eq.1 hc)
          subst he
          omega
        · have := AS1.out y hy hq
          omega
      · by_cases hm : high ≤ f x.val + 1
        · exact .inr ⟨x, AX.out, by omega⟩
        · rw [show max high (f x.val + 1) = high by omega]
          exact AS2.out
      · rw [hleft]
        have : w3.rangeLeft mb w'.heap.size = (leftOf es (seen.push x.born)).size := by simp [World.rangeLeft, hm3, hit3]
        rw [this]
        exact hsh
end Go.Proofs.YtknjclekfmmfeaaDoor
