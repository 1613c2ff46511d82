/- Mounts, and what lies under them; nodes by their places. -/
import Derived.Test.YtknjclekfmmfeabGreatDoorGB
import Derived.Test.YtknjclekfmmfeabGreatDoorGD
namespace Go.Proofs.YtknjclekfmmfeabGreatDoor
open Go.RowKit Go.ChangeMaps

/-- A method that comes up through an embedded pointer: what lies in that field is the receiver. -/
theorem method_in {P : Program} {w : World} {n : Nat} {t : TypeId} {a : Addr} {name : String} {st : TypeId} {ix : Nat} {ft : TypeId} {off : Nat} {f : FuncId} {el : TypeId} {v' : Value}
    (h1 : ((P.info? t).bind fun i => (i.methods.find? (·.name == name)).map fun m => (m.path.toList.map fun s => (s.struct, s.index, s.deref), m.func)) = some ([(st, ix, true)], some (f, true)))
    (h2 : (match P.underlying st with | some (.struct fs) => fs[ix]?.map fun f => (f.type, f.offset) | _ => none) = some (ft, off))
    (h3 : (sizeOf ft).run P w = .ok 1 w) (h4 : (isAgg ft).run P w = .ok false w) (h5 : P.underlying ft = some (.pointer el)) (hc : w.cell? (a.add off) = some v') :
    (method (n + 1) t (.pointer (some a)) name).run P w = .ok (f, v') w := by
  obtain ⟨i, hi, h1⟩ := Option.bind_eq_some_iff.1 h1
  obtain ⟨m, hm, h1⟩ := Option.map_eq_some_iff.1 h1
  injection h1 with hp hf
  obtain ⟨s, hs, hp2⟩ : ∃ s, m.path.toList = [s] ∧ (s.struct, s.index, s.deref) = (st, ix, true) := by
    cases e : m.path.toList with
    | nil => rw [e] at hp; cases hp
    | cons s r =>
      rw [e] at hp
      cases r with
      | nil => simp only [List.map_cons, List.map_nil, List.cons.injEq, and_true] at hp; exact ⟨s, rfl, hp⟩
      | cons u v => simp at hp
  simp only [Prod.mk.injEq] at hp2
  obtain ⟨e1, e2, e3⟩ := hp2
  cases hu : P.underlying st with
  | none => rw [hu] at h2; cases h2
  | some d =>
    rw [hu] at h2
    cases d <;> first | (cases h2; done) | skip
    rename_i fs
    obtain ⟨f, hx, h2⟩ := Option.map_eq_some_iff.1 h2
    injection h2 with e4 e5
    subst e4 e5
    rw [method]
    simp only [Sem.run_bind, typeInfo, run_program, Result.andThen_ok, hi, Sem.run_pure, hm, hs, hf, follow, run_underlying (e1 ▸ hu), run_underlying h5, e2, hx, e3, Place.get, asAddr, fieldPlace, h3, receiverAt, loadVar, h4, run_load, hc, ↓reduceIte, Bool.false_eq_true, Nat.one_ne_zero]

/-- A mount, and the directory under it. -/
structure Mt (w : World) (nb k db : Nat) : Prop where
  nod : Nd w nb 85 k
  mnt : w.heap[k]? = some (.cells #[Pt db] 133 (0, 0))
theorem Mt.upd {w w' : World} {nb k db : Nat} {F : Nat → Prop} (h : Mt w nb k db) (u : Upd F w w') (h1 : ¬ F nb) (h2 : ¬ F k) : Mt w' nb k db := ⟨h.nod.upd u h1, (u.block _ (Array.getElem?_eq_some_iff.1 h.mnt).1 h2).trans h.mnt⟩
theorem Mt.below {w w' : World} {nb k db : Nat} (h : Mt w nb k db) (u : Below w.heap.size w w') : Mt w' nb k db := ⟨h.nod.below u, (u.block _ (Array.getElem?_eq_some_iff.1 h.mnt).1).trans h.mnt⟩
theorem Mt.cell {w : World} {nb k db : Nat} (h : Mt w nb k db) : w.cell? ⟨k, 0, none⟩ = some (Pt db) := by rw [cell_of_row w k 0 _ _ _ h.mnt]; rfl

theorem meth_mheld (w : World) (k db : Nat) (h : w.cell? ⟨k, 0, none⟩ = some (Pt db)) : (method 393 85 (Pt k) "mantle/node.held").run Tryz.prog w = .ok (147, Pt db) w :=
  method_in (n := 392) (st := 133) (ix := 0) (ft := 103) (off := 0) (f := 147) (el := 106) (a := ⟨k, 0, none⟩) (by kernel_rfl) (by kernel_rfl) (by kernel_rfl) (by kernel_rfl) Tryz.underlying103 h

set_option maxRecDepth 20000 in
set_option maxHeartbeats 400000 in
theorem mount_nil (w : World) : Calls Tryz.prog 51 #[.pointer none] w fun e w' => e = .returned (.tuple #[.pointer none, .int .i64 1]) ∧ w' = w := by
  go_enter Tryz.func51, Tryz.ntmps51
  go_wp2_with fail
  refine (what_nil w).mono ?_
  rintro e w' ⟨rfl, rfl⟩
  go_wp2
  go_ret2
  exact ⟨rfl, rfl⟩
set_option maxRecDepth 20000 in
set_option maxHeartbeats 400000 in
theorem mount_file (nb k : Nat) (w : World) (h : Nd w nb 83 k) : Calls Tryz.prog 51 #[Pt nb] w fun e w' => e = .returned (.tuple #[.pointer none, .int .i64 193]) ∧ w' = w := by
  have hh := file_holder
  go_enter Tryz.func51, Tryz.ntmps51
  go_wp2_with fail
  refine (what_node nb k _ w h).mono ?_
  rintro e w' ⟨rfl, rfl⟩
  go_wp2
  go_ret2
  exact ⟨rfl, rfl⟩
set_option maxRecDepth 20000 in
set_option maxHeartbeats 800000 in
theorem mount_dir (nb db : Nat) (w : World) (h : Nd w nb 103 db) : Calls Tryz.prog 51 #[Pt nb] w fun e w' => ∃ mn k, e = .returned (.tuple #[Pt mn, .int .i64 0]) ∧ w.heap.size ≤ mn ∧ w.heap.size ≤ k ∧ Mt w' mn k db ∧ Below w.heap.size w w' := by
  have hh := dir_holder
  have hm := meth_held db
  go_enter Tryz.func51, Tryz.ntmps51
  go_wp2_with fail
  refine (what_node nb db _ w h).mono ?_
  rintro e w' ⟨rfl, rfl⟩
  go_wp2_with fail
  refine (held_any db w').mono ?_
  rintro e w' ⟨rfl, rfl⟩
  go_wp2
  go_ret2
  exact ⟨w'.heap.size + 1, w'.heap.size, rfl, by omega, by omega, ⟨by unfold Nd; exact heap_alloc2_new w' _ _, by rw [(below_al (w'.alloc _) _).block _ (by simp)]; exact heap_alloc_new w' _⟩, below_tr (below_al _ _) (below_al _ _)⟩
set_option maxRecDepth 20000 in
set_option maxHeartbeats 800000 in
theorem mount_mount (nb k0 db : Nat) (w : World) (h : Mt w nb k0 db) : Calls Tryz.prog 51 #[Pt nb] w fun e w' => ∃ mn k, e = .returned (.tuple #[Pt mn, .int .i64 0]) ∧ w.heap.size ≤ mn ∧ w.heap.size ≤ k ∧ Mt w' mn k db ∧ Below w.heap.size w w' := by
  have hh := mount_holder
  have hm := meth_mheld w k0 db h.cell
  go_enter Tryz.func51, Tryz.ntmps51
  go_wp2_with fail
  refine (what_node nb k0 _ w h.nod).mono ?_
  rintro e w' ⟨rfl, rfl⟩
  go_wp2_with fail
  refine (held_any db w').mono ?_
  rintro e w' ⟨rfl, rfl⟩
  go_wp2
  go_ret2
  exact ⟨w'.heap.size + 1, w'.heap.size, rfl, by omega, by omega, ⟨by unfold Nd; exact heap_alloc2_new w' _ _, by rw [(below_al (w'.alloc _) _).block _ (by simp)]; exact heap_alloc_new w' _⟩, below_tr (below_al _ _) (below_al _ _)⟩
set_option maxRecDepth 20000 in
set_option maxHeartbeats 800000 in
theorem under_mount (nb k db n2 m2 : Nat) (up : Value) (L : List KV) (w : World) (h : Mt w nb k db) (hD : Dr w n2 db m2 up L) : Calls Tryz.prog 33 #[Pt nb] w fun e w' => e = .returned (.tuple #[Pt n2, .int .i64 0]) ∧ w' = w := by
  have h1 := ta_mm
  have hc := h.cell
  have hc0 := hD.c0
  go_enter Tryz.func33, Tryz.ntmps33
  go_wp2_with fail
  refine (what_node nb k _ w h.nod).mono ?_
  rintro e w' ⟨rfl, rfl⟩
  clear h hD
  go_wp2
  go_ret2
  exact ⟨rfl, rfl⟩
set_option maxRecDepth 20000 in
set_option maxHeartbeats 400000 in
theorem get_other (nb k : Nat) (t : TypeId) (name : ByteArray) (w : World) (h : Nd w nb t k) (ht : t = 83 ∨ t = 88 ∨ t = 85 ∨ t = 84) : Calls Tryz.prog 60 #[Pt nb, .string name] w fun e w' => e = .returned (.tuple #[.pointer none, .int .i64 193]) ∧ w' = w := by
  go_enter Tryz.func60, Tryz.ntmps60
  go_wp2_with fail
  refine (directory_other nb k t w h ht).mono ?_
  rintro e w' ⟨rfl, rfl⟩
  go_wp2
  go_ret2
  exact ⟨rfl, rfl⟩

theorem Lk.upd {w w' : World} {nb lb : Nat} {s : ByteArray} {F : Nat → Prop} (k : Lk w nb lb s) (u : Upd F w w') (h1 : ¬ F nb) (h2 : ¬ F lb) : Lk w' nb lb s := ⟨k.nod.upd u h1, (u.block _ (Array.getElem?_eq_some_iff.1 k.lnk).1 h2).trans k.lnk⟩
theorem Lk.below {w w' : World} {nb lb : Nat} {s : ByteArray} (k : Lk w nb lb s) (u : Below w.heap.size w w') : Lk w' nb lb s := ⟨k.nod.below u, (u.block _ (Array.getElem?_eq_some_iff.1 k.lnk).1).trans k.lnk⟩
/-- The node at a place, in memory. -/
def NAt (w : World) (ad : Nat → Nat) (G : Gr) (i : Nat) : Prop :=
  ((nk G i).k = 0 ∧ ∃ b, Nd w (ad i) 83 b) ∨ ((nk G i).k = 1 ∧ ∃ db mb up L, Dr w (ad i) db mb up L ∧ ∀ s, lk L (ba s) = (lkp (nk G i).L s).map fun j => Pt (ad j)) ∨
  ((nk G i).k = 2 ∧ ((nk G i).to ≠ [] ∧ (nk G i).to.length ≤ 4096) ∧ ∃ lb, Lk w (ad i) lb (ba (nk G i).to)) ∨ ((nk G i).k = 3 ∧ ∃ b db mb up L, Mt w (ad i) b db ∧ Dr w (ad (nk G i).u) db mb up L) ∨ ((nk G i).k = 4 ∧ ∃ b, Nd w (ad i) 88 b)
theorem NAt.below {w w' : World} {ad : Nat → Nat} {G : Gr} {i : Nat} (h : NAt w ad G i) (b : Below w.heap.size w w') : NAt w' ad G i := by
  rcases h with ⟨hk, c, h⟩ | ⟨hk, db, mb, up, L, h, hl⟩ | ⟨hk, ht, lb, h⟩ | ⟨hk, c, db, mb, up, L, h, hl⟩ | ⟨hk, c, h⟩
  · exact .inl ⟨hk, c, h.below b⟩
  · exact .inr (.inl ⟨hk, db, mb, up, L, h.below b, hl⟩)
  · exact .inr (.inr (.inl ⟨hk, ht, lb, h.below b⟩))
  · exact .inr (.inr (.inr (.inl ⟨hk, c, db, mb, up, L, h.below b, hl.below b⟩)))
  · exact .inr (.inr (.inr (.inr ⟨hk, c, h.below b⟩)))
/-- Nodes in memory: each at its place. -/
structure GAt (w : World) (G : Gr) (ad : Nat → Nat) : Prop where
  nod : ∀ i, i < G.length → NAt w ad G i
  kid : ∀ i x j, lkp (nk G i).L x = some j → j < G.length
  und : ∀ i, (nk G i).k = 3 → (nk G i).u < G.length ∧ (nk G (nk G i).u).k = 1
theorem GAt.below {w w' : World} {ad : Nat → Nat} {G : Gr} (h : GAt w G ad) (b : Below w.heap.size w w') : GAt w' G ad := ⟨fun i hi => (h.nod i hi).below b, h.kid, h.und⟩
theorem GAt.nd {w : World} {ad : Nat → Nat} {G : Gr} (h : GAt w G ad) {i : Nat} (hi : i < G.length) : ∃ t b, Nd w (ad i) t b := by
  rcases h.nod i hi with ⟨-, c, h⟩ | ⟨-, db, mb, up, L, h, -⟩ | ⟨-, -, lb, h⟩ | ⟨-, c, db, mb, up, L, h, -⟩ | ⟨-, c, h⟩
  · exact ⟨_, _, h⟩
  · exact ⟨_, _, h.nod⟩
  · exact ⟨_, _, h.nod⟩
  · exact ⟨_, _, h.nod⟩
  · exact ⟨_, _, h⟩
theorem kind_at {w : World} {ad : Nat → Nat} {G : Gr} (h : GAt w G ad) {i : Nat} (hi : i < G.length) : Calls Tryz.prog 18 #[Pt (ad i)] w fun e w' => e = .returned (.int .i8 (nk G i).k) ∧ w' = w := by
  rcases h.nod i hi with ⟨hk, c, h⟩ | ⟨hk, db, mb, up, L, h, -⟩ | ⟨hk, -, lb, h⟩ | ⟨hk, c, db, mb, up, L, h, -⟩ | ⟨hk, c, h⟩
  · rw [hk]; exact kind_file _ _ w h
  · rw [hk]; exact kind_dir _ _ w h.nod
  · rw [hk]; exact kind_link _ _ w h.nod
  · rw [hk]; exact kind_mount _ _ w h.nod
  · rw [hk]; exact kind_white _ _ w h
theorem get_at {w : World} {ad : Nat → Nat} {G : Gr} (h : GAt w G ad) {i : Nat} (hi : i < G.length) (hk : (nk G i).k = 1) (x : B) : Calls Tryz.prog 60 #[Pt (ad i), .string (ba x)] w fun e w' => e = .returned (match lkp (nk G i).L x with | some j => .tuple #[Pt (ad j), .int .i64 0] | none => .tuple #[.pointer none, .int .i64 192]) ∧ w' = w := by
  rcases h.nod i hi with ⟨hk2, -⟩ | ⟨-, db, mb, up, L, hD, hL⟩ | ⟨hk2, -⟩ | ⟨hk2, -⟩ | ⟨hk2, -⟩
  · omega
  · have := hL x
    cases hl : lkp (nk G i).L x with
    | none => rw [hl] at this; exact get_no _ _ _ _ _ _ _ hD this
    | some j => rw [hl] at this; exact get_yes _ _ _ _ _ _ _ _ hD this
  · omega
  · omega
  · omega
theorem under_at {w : World} {ad : Nat → Nat} {G : Gr} (h : GAt w G ad) {i : Nat} (hi : i < G.length) (hk : (nk G i).k = 3) : Calls Tryz.prog 33 #[Pt (ad i)] w fun e w' => e = .returned (.tuple #[Pt (ad (nk G i).u), .int .i64 0]) ∧ w' = w := by
  rcases h.nod i hi with ⟨hk2, -⟩ | ⟨hk2, -⟩ | ⟨hk2, -⟩ | ⟨-, c, db, mb, up, L, hM, hD⟩ | ⟨hk2, -⟩
  · omega
  · omega
  · omega
  · exact under_mount _ _ _ _ _ _ _ w hM hD
  · omega
theorem leads_at {w : World} {ad : Nat → Nat} {G : Gr} (h : GAt w G ad) {i : Nat} (hi : i < G.length) (hk : (nk G i).k = 2) : Calls Tryz.prog 61 #[Pt (ad i)] w fun e w' => e = .returned (.tuple #[.string (ba (nk G i).to), .int .i64 0]) ∧ w' = w := by
  rcases h.nod i hi with ⟨hk2, -⟩ | ⟨hk2, -⟩ | ⟨-, -, lb, hL⟩ | ⟨hk2, -⟩ | ⟨hk2, -⟩
  · omega
  · omega
  · exact leads_link _ _ _ w hL
  · omega
  · omega
theorem to_at {w : World} {ad : Nat → Nat} {G : Gr} (h : GAt w G ad) {i : Nat} (hi : i < G.length) (hk : (nk G i).k = 2) : (nk G i).to ≠ [] ∧ (nk G i).to.length ≤ 4096 := by
  rcases h.nod i hi with ⟨hk2, -⟩ | ⟨hk2, -⟩ | ⟨-, ht, -⟩ | ⟨hk2, -⟩ | ⟨hk2, -⟩
  · omega
  · omega
  · exact ht
  · omega
  · omega
end Go.Proofs.YtknjclekfmmfeabGreatDoor
