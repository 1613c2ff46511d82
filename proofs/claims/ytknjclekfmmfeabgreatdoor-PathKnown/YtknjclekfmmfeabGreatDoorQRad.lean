/- The document's own nodes: Add. -/
import Derived.Test.YtknjclekfmmfeabGreatDoorGE
import Derived.Test.YtknjclekfmmfeabGreatDoorGF
namespace Go.Proofs.YtknjclekfmmfeabGreatDoor
open Go.RowKit Go.ChangeMaps

theorem elemK : Tryz.prog.underlying 112 = some (.slice (Tryz.prog.elem 112)) := by kernel_rfl
theorem sizeK (w : World) : (sizeOf (Tryz.prog.elem 112)).run Tryz.prog w = .ok 2 w := by kernel_rfl
theorem infoK : (Tryz.prog.info? 131).map (fun i => (i.zero, i.size, i.bytes)) = some (some (.agg #[.string ByteArray.empty, .pointer none]), 2, 24) := by kernel_rfl
theorem kcs_len (L : List RK) : (kcs L).length = L.length * 2 := by
  induction L with
  | nil => rfl
  | cons p L ih =>
    have e : kcs (p :: L) = [.string (ba p.1), Pt p.2] ++ kcs L := rfl
    rw [e, List.length_append, ih, List.length_cons, List.length_cons, List.length_cons, List.length_nil]
    omega
theorem kcs_app (a b : List RK) : kcs (a ++ b) = kcs a ++ kcs b := by unfold kcs; rw [List.flatMap_append]
theorem kcs_one (L : List RK) : ∀ u ∈ kcs L, u.oneCell' = true := fun u hu => by
  unfold kcs at hu
  obtain ⟨p, -, hu⟩ := List.mem_flatMap.1 hu
  simp only [List.mem_cons, List.not_mem_nil, or_false] at hu
  rcases hu with rfl | rfl <;> rfl
/-- Kids that can be read. -/
def KsAt (w : World) (a : Option Addr) (L : List RK) : Prop := L ≠ [] → ∃ g o cs, a = some ⟨g, o, none⟩ ∧ w.heap[g]? = some (.cells cs 131 (0, 0)) ∧ ∀ (j : Nat) (v : Value), (kcs L)[j]? = some v → cs[o + j]? = some v
theorem KsAt.keep {w w' : World} {a : Option Addr} {L : List RK} (h : KsAt w a L) (hk : ∀ (g : Nat) (cs : Array Value), w.heap[g]? = some (Obj.cells cs 131 (0, 0)) → w'.heap[g]? = w.heap[g]?) : KsAt w' a L := fun hL => by
  obtain ⟨g, o, cs, e, h3, h4⟩ := h hL
  exact ⟨g, o, cs, e, (hk g cs h3).trans h3, h4⟩
theorem KsAt.src {w : World} {a : Option Addr} {L : List RK} (h : KsAt w a L) (c : Nat) : SrcAt w (.slice a L.length c) L.length (kcs L) := ⟨a, c, rfl, fun h0 => by
  obtain ⟨g, o, cs, rfl, h3, h4⟩ := h (fun e => by rw [e] at h0; simp at h0)
  refine ⟨_, rfl, fun j u hj => ?_⟩
  rw [Addr.add_lit, cell_of_row w g _ _ _ _ h3]
  exact h4 j u hj⟩
theorem KsAt.of_own {w : World} {a : Option Addr} {n c b : Nat} {L : List RK} (h : w.ownsRow b 131 2 (.slice a n c) n (kcs L)) : KsAt w a L ∧ n = L.length ∧ n ≤ c := by
  have hn : n = L.length := by have := h.1; rw [kcs_len] at this; omega
  refine ⟨fun hL => ?_, hn, ?_⟩
  · rcases h.2 with ⟨-, h0⟩ | ⟨g, c', cs, e, -, h2, h3, h4, h5, h6⟩
    · exact absurd (List.eq_nil_of_length_eq_zero (by omega)) hL
    · injection e with e1 e2 e3
      refine ⟨g, 0, cs, e1, h2, fun j v hj => ?_⟩
      rw [← h6, List.getElem?_take] at hj
      split at hj
      · rw [Nat.zero_add]; simpa using hj
      · cases hj
  · rcases h.2 with ⟨e, h0⟩ | ⟨g, c', cs, e, -, h2, h3, -⟩
    · injection e with e1 e2 e3; omega
    · injection e with e1 e2 e3; omega
/-- kids[:i] -/
theorem slice_hK (a : Option Addr) (n c j : Nat) (hj : j ≤ c) :
    ∀ W, (Instr.slice 112 (.slice a n c) none (some (.int .i64 (j : Int))) none).run Tryz.prog W = .ok (.slice a j c) W := by
  intro W
  rw [run_slice_h W 112 a n c elemK .i64 _ (by omega) (by omega), sizeK]
  simp only [Result.andThen, sliced, Int.toNat_natCast, Nat.sub_zero, Nat.zero_mul]
  have e : (if c = 0 then a else a.map fun x => x.add 0) = a := by
    split
    · rfl
    · cases a with
      | none => rfl
      | some x => simp [Addr.add]
  rw [e]
theorem KsAt.take {w : World} {a : Option Addr} {L : List RK} (h : KsAt w a L) (i : Nat) : KsAt w a (L.take i) := fun hL => by
  obtain ⟨g, o, cs, e, h3, h4⟩ := h (fun e => hL (by rw [e]; simp))
  refine ⟨g, o, cs, e, h3, fun j v hj => h4 j v ?_⟩
  have : kcs L = kcs (L.take i) ++ kcs (L.drop i) := by rw [← kcs_app, List.take_append_drop]
  rw [this, List.getElem?_append_left (List.getElem?_eq_some_iff.1 hj).1]
  exact hj
/-- kids[i:] -/
theorem slice_lK (a : Option Addr) (L : List RK) (c i : Nat) (hi : i ≤ L.length) (hc : L.length ≤ c) :
    ∃ a', (∀ W, (Instr.slice 112 (.slice a L.length c) (some (.int .i64 (i : Int))) none none).run Tryz.prog W = .ok (.slice a' (L.length - i) (c - i)) W) ∧ ∀ w, KsAt w a L → KsAt w a' (L.drop i) := by
  refine ⟨if c = i then a else a.map (·.add (i * 2)), fun W => ?_, fun w h hL => ?_⟩
  · rw [run_slice_l W 112 a L.length c elemK .i64 _ (by omega) (by omega), sizeK]
    simp only [Result.andThen, sliced, Int.toNat_natCast]
  · have hlt : i < L.length := by
      by_cases h0 : i < L.length
      · exact h0
      · exact absurd (List.drop_of_length_le (by omega)) hL
    obtain ⟨g, o, cs, rfl, h3, h4⟩ := h (fun e => by rw [e] at hlt; simp at hlt)
    rw [if_neg (by omega), Option.map_some, Addr.add_lit]
    refine ⟨g, o + i * 2, cs, rfl, h3, fun j v hj => ?_⟩
    have e : kcs L = kcs (L.take i) ++ kcs (L.drop i) := by rw [← kcs_app, List.take_append_drop]
    have hl : (kcs (L.take i)).length = i * 2 := by rw [kcs_len, List.length_take]; omega
    have := h4 (i * 2 + j) v (by rw [e, List.getElem?_append_right (by omega), hl, show i * 2 + j - i * 2 = j by omega]; exact hj)
    rw [show o + i * 2 + j = o + (i * 2 + j) by omega]
    exact this
/-- What Add answers there. -/
def rcd (x : B) (L : List RK) (k2 : Int) (inw : Prop) [Decidable inw] (stands : Bool) (dep : Nat) : Int :=
  if nameOk (ba x) = false then 190 else if rth L x = true then 191 else if 4096 ≤ L.length then 4 else if k2 = 1 ∧ inw then 200 else if k2 = 1 ∧ stands = true then 191 else tcode dep 0
def ins (L : List RK) (x : B) (b : Nat) : List RK := L.take (rpl L x) ++ [(x, b)] ++ L.drop (rpl L x)
theorem set_node {w : World} {nb : Nat} {cs : Array Value} {T : TypeId} (h : w.heap[nb]? = some (.cells cs T (0, 0))) (i : Nat) (v : Value) : (w.setCell ⟨nb, i, none⟩ v).heap[nb]? = some (.cells (cs.setIfInBounds i v) T (0, 0)) := by
  have := set_same (i := i) (v := v) h
  simpa using this
/-- A growing row of kids. -/
def GwK (w : World) (lo : Nat) (v : Value) (L : List RK) : Prop := w.ownsRow 0 131 2 v L.length (kcs L) ∧ ∀ k, v.ownBlock = some k → lo ≤ k
theorem GwK.nil (w : World) (lo : Nat) : GwK w lo (.slice none 0 0) [] := ⟨⟨rfl, .inl ⟨rfl, rfl⟩⟩, fun k hk => by simp [Value.ownBlock] at hk⟩
theorem GwK.below {w w' : World} {lo : Nat} {v : Value} {L : List RK} (h : GwK w lo v L) (b : Below w.heap.size w w') : GwK w' lo v L := ⟨row_below h.1 b, h.2⟩
theorem GwK.more {w w' : World} {lo : Nat} {v v' : Value} {L R : List RK} {n : Nat} (h : GwK w lo v L) (hlo : lo ≤ w.heap.size) (ho : w'.ownsRow 0 131 2 v' n (kcs L ++ kcs R)) (hu : Upd (fun k => v.ownBlock = some k) w w') (hv : v'.ownBlock = v.ownBlock ∨ v'.ownBlock = some w.heap.size) : GwK w' lo v' (L ++ R) ∧ Below lo w w' := by
  have hn : n = (L ++ R).length := by have := ho.1; rw [← kcs_app, kcs_len] at this; omega
  refine ⟨⟨by rw [kcs_app, ← hn]; exact ho, fun k hk => ?_⟩, hu.below hlo (fun k hk => h.2 k hk)⟩
  rcases hv with e | e
  · exact h.2 k (e ▸ hk)
  · rw [e] at hk
    simp only [Option.some.injEq] at hk
    omega
theorem GwK.ks {w : World} {lo : Nat} {v : Value} {L : List RK} (h : GwK w lo v L) : ∃ a c, v = .slice a L.length c ∧ L.length ≤ c ∧ KsAt w a L := by
  obtain ⟨a, c, rfl, -⟩ := own_slice h.1
  obtain ⟨h1, -, h3⟩ := KsAt.of_own h.1
  exact ⟨a, c, rfl, h3, h1⟩
theorem kid_src (w : World) {X : ByteArray} {x : B} (h : X = ba x) (eb : Nat) : SrcAt (w.alloc (.cells #[.string X, Pt eb] 131)) (.slice (some ⟨w.heap.size, 0, none⟩) 1 1) 1 (kcs [(x, eb)]) := ⟨_, _, rfl, fun _ => ⟨_, rfl, fun j u hj => by
  have hj' : ([.string (ba x), Pt eb] : List Value)[j]? = some u := hj
  rw [Addr.add_lit, Nat.zero_add, cell_of_row _ _ j _ _ _ (heap_alloc_new w _), h]
  simpa using hj'⟩⟩
theorem rAdd_end {w w3 w6 : World} {nb eb : Nat} {f1 : Value} {to1 : ByteArray} {m1 s1 up1 : Value} {k2 : Int} {f2 : Value} {to2 : ByteArray} {m2 s2 up2 : Value} {L2 : List RK} {I : List RK} {a6 : Option Addr} {n6 c6 : Nat} (B2 : Below w.heap.size w w3) (B6 : Below w3.heap.size w3 w6) (hne : eb ≠ nb)
    (N1 : w3.heap[nb]? = some (.cells #[.int .i8 1, f1, .string to1, m1, s1, up1] 114 (0, 0))) (N2 : w3.heap[eb]? = some (.cells #[.int .i8 k2, f2, .string to2, m2, s2, up2] 114 (0, 0))) (hE : Rc w3 eb k2 f2 to2 m2 L2 up2) (K6 : KsAt w6 a6 I) (An : n6 = I.length) (hc : n6 ≤ c6) :
    (Rc (w6.setCell ⟨nb, 4, none⟩ (.slice a6 n6 c6)) nb 1 f1 to1 m1 I up1 ∧ Upd (fun k => k = nb) w (w6.setCell ⟨nb, 4, none⟩ (.slice a6 n6 c6))) ∧
    (Rc ((w6.setCell ⟨nb, 4, none⟩ (.slice a6 n6 c6)).setCell ⟨eb, 5, none⟩ (Pt nb)) nb 1 f1 to1 m1 I up1 ∧ Rc ((w6.setCell ⟨nb, 4, none⟩ (.slice a6 n6 c6)).setCell ⟨eb, 5, none⟩ (Pt nb)) eb k2 f2 to2 m2 L2 (Pt nb) ∧ Upd (fun k => k = nb ∨ k = eb) w ((w6.setCell ⟨nb, 4, none⟩ (.slice a6 n6 c6)).setCell ⟨eb, 5, none⟩ (Pt nb))) := by
  have p1 := (B6.block _ (Array.getElem?_eq_some_iff.1 N1).1).trans N1
  have p2 := (B6.block _ (Array.getElem?_eq_some_iff.1 N2).1).trans N2
  obtain ⟨U, hU⟩ : ∃ U, U = w6.setCell ⟨nb, 4, none⟩ (.slice a6 n6 c6) := ⟨_, rfl⟩
  have u1 : U.heap[nb]? = some (.cells #[.int .i8 1, f1, .string to1, m1, .slice a6 n6 c6, up1] 114 (0, 0)) := by rw [hU]; exact set_node p1 4 _
  have u2 : U.heap[eb]? = some (.cells #[.int .i8 k2, f2, .string to2, m2, s2, up2] 114 (0, 0)) := by rw [hU]; exact set_far p2 hne
  have far : ∀ (T : TypeId) (hT : T ≠ 114) (g : Nat) (cs : Array Value), w6.heap[g]? = some (Obj.cells cs T (0, 0)) → U.heap[g]? = w6.heap[g]? := fun T hT g cs hg => by
    rw [hU]
    exact (set_far hg (fun e => by rw [e, p1] at hg; injection hg with hg; injection hg with h1 h2; exact hT h2.symm)).trans hg.symm
  have hB : Upd (fun k => k = nb) w U := by
    rw [hU]
    exact (Upd.of_below (below_tr B2 B6)).trans (Upd.setCell (F := fun k => k = nb) (p := ⟨nb, 4, none⟩) rfl _) (fun _ _ h => h)
  have kU := K6.keep (fun g cs => far _ (by decide) g cs)
  have r1 : Rc U nb 1 f1 to1 m1 I up1 := ⟨a6, c6, by rw [← An]; exact u1, by omega, kU⟩
  obtain ⟨V, hV⟩ : ∃ V, V = U.setCell ⟨eb, 5, none⟩ (Pt nb) := ⟨_, rfl⟩
  have v1 : V.heap[nb]? = U.heap[nb]? := by rw [hV]; exact set_far rfl (fun e => hne e.symm)
  have v2 : V.heap[eb]? = some (.cells #[.int .i8 k2, f2, .string to2, m2, s2, Pt nb] 114 (0, 0)) := by rw [hV]; exact set_node u2 5 _
  have farV : ∀ (T : TypeId) (hT : T ≠ 114) (g : Nat) (cs : Array Value), U.heap[g]? = some (Obj.cells cs T (0, 0)) → V.heap[g]? = U.heap[g]? := fun T hT g cs hg => by
    rw [hV]
    exact (set_far hg (fun e => by rw [e, u2] at hg; injection hg with hg; injection hg with h1 h2; exact hT h2.symm)).trans hg.symm
  rw [← hU]
  refine ⟨⟨r1, hB⟩, ?_⟩
  rw [← hV]
  refine ⟨r1.keep v1 (fun g cs => farV _ (by decide) g cs), ?_, ?_⟩
  · obtain ⟨a2, c2, q1, q2, q3⟩ := hE.cel
    have es : s2 = .slice a2 L2.length c2 := by
      rw [N2] at q1
      injection q1 with q1
      injection q1 with q1
      simpa using q1
    have k3 : KsAt w3 a2 L2 := q3
    refine ⟨a2, c2, by rw [← es]; exact v2, q2, ?_⟩
    exact ((k3.keep (fun g _ hg => B6.block g (Array.getElem?_eq_some_iff.1 hg).1)).keep (fun g cs => far _ (by decide) g cs)).keep (fun g cs => farV _ (by decide) g cs)
  · rw [hV]
    exact (hB.mono (G := fun k => k = nb ∨ k = eb) (fun _ _ h => .inl h)).trans (Upd.setCell (F := fun k => k = eb) (p := ⟨eb, 5, none⟩) rfl _) (fun _ _ h => .inr h)
end Go.Proofs.YtknjclekfmmfeabGreatDoor
