/- Trees that are parted and joined: what stands below a node is taken out of a tree, and put into one. within: does a node stand at or below another? Take and Add in trees, of what stands at a node and below; Move. Move. The document's Names and Last; at. The document's Last; at. The mathematics of TreeMoved: paths behind a move, items behind a move, a move back. TreeMoved: the place in the list, the three nodes, Move of either kind, the list that is changed in place. -/
import Derived.Test.YtbnaegoahdcejaaGreatDoorGG
import Derived.Test.YtbnaegoahdcejaaGreatDoorGN
import Derived.Test.YtbnaegoahdcejaaGreatDoorGI
import Derived.Test.YtbnaegoahdcejaaGreatDoorGJ
namespace Go.Proofs.YtbnaegoahdcejaaGreatDoor
open Go.RowKit Go.ChangeMaps

/-- The same entry, told from below q; and put below q. -/
def En.rel (q : List B) (e : En) : En := { e with p := e.p.drop q.length }
def En.ins (q : List B) (e : En) : En := { e with p := q ++ e.p }
def und (q : List B) (S : List En) : List En := S.filter fun e => q.isPrefixOf e.p
def out (q : List B) (S : List En) : List En := S.filter fun e => !(q.isPrefixOf e.p)
def sub (q : List B) (S : List En) : List En := (und q S).map (En.rel q)
theorem mem_und {q : List B} {S : List En} {e : En} : e ∈ und q S ↔ e ∈ S ∧ q <+: e.p := by simp [und]
theorem mem_out {q : List B} {S : List En} {e : En} : e ∈ out q S ↔ e ∈ S ∧ ¬ q <+: e.p := by
  simp only [out, List.mem_filter, Bool.not_eq_true', ← Bool.not_eq_true, List.isPrefixOf_iff_prefix]
theorem mem_sub {q : List B} {S : List En} {e : En} : e ∈ sub q S ↔ ∃ x ∈ S, q <+: x.p ∧ e = x.rel q := by
  unfold sub
  rw [List.mem_map]
  exact ⟨fun ⟨x, h1, h2⟩ => ⟨x, (mem_und.1 h1).1, (mem_und.1 h1).2, h2.symm⟩, fun ⟨x, h1, h2, h3⟩ => ⟨x, mem_und.2 ⟨h1, h2⟩, h3.symm⟩⟩
theorem rel_p {q : List B} {x : En} (h : q <+: x.p) : q ++ (x.rel q).p = x.p := by
  obtain ⟨t, ht⟩ := h
  show q ++ x.p.drop q.length = x.p
  rw [← ht, List.drop_left]
theorem ins_rel {q : List B} {x : En} (h : q <+: x.p) : (x.rel q).ins q = x := by
  have := rel_p h
  cases x
  simp only [En.ins, En.rel] at this ⊢
  rw [this]
theorem rel_ins (q : List B) (x : En) : (x.ins q).rel q = x := by
  cases x
  simp [En.ins, En.rel]
theorem sub_ins (q : List B) (S : List En) : (sub q S).map (En.ins q) = und q S := by
  unfold sub
  rw [List.map_map]
  refine (List.map_congr_left fun x hx => ?_).trans (List.map_id _)
  exact ins_rel (mem_und.1 hx).2
theorem out_und (q : List B) (S : List En) : (out q S ++ und q S).Perm S := by
  unfold out und
  refine List.perm_append_comm.trans ?_
  exact List.filter_append_perm _ S
theorem Tr.perm {lo : Nat} {w : World} {S S' : List En} (h : Tr lo w S) (hp : S.Perm S') : Tr lo w S' := by
  have hm : ∀ e, e ∈ S' ↔ e ∈ S := fun e => hp.symm.mem_iff
  refine ⟨(hp.map En.p).nodup_iff.1 h.one, ?_, ?_, fun e he => h.nam e ((hm e).1 he), fun e he => h.dep e ((hm e).1 he), hp.length_eq ▸ h.few, fun d hd c hc => h.nbs d ((hm d).1 hd) c ((hm c).1 hc), fun d hd c hc => h.dbs d ((hm d).1 hd) c ((hm c).1 hc), ?_, fun e he => h.lef e ((hm e).1 he)⟩
  · obtain ⟨r, h1, h2⟩ := h.root
    exact ⟨r, (hm r).2 h1, h2⟩
  · intro e he hn
    obtain ⟨d, h1, h2⟩ := h.par e ((hm e).1 he) hn
    exact ⟨d, (hm d).2 h1, h2⟩
  · intro d hd hk
    obtain ⟨h1, h2, h3, h4, up, L, h5, h6, h7⟩ := h.dir d ((hm d).1 hd) hk
    refine ⟨h1, h2, h3, h4, up, L, h5, ?_, fun n v => (h7 n v).trans ⟨fun ⟨c, k1, k2⟩ => ⟨c, (hm c).2 k1, k2⟩, fun ⟨c, k1, k2⟩ => ⟨c, (hm c).1 k1, k2⟩⟩⟩
    exact h6.imp id fun ⟨k0, c, k1, k2⟩ => ⟨k0, c, (hm c).2 k1, k2⟩
theorem lk_del {s : ByteArray} : ∀ {L : List KV} {s' : ByteArray}, (L.map (·.1)).Nodup → lk (del L s) s' = if s' = s then none else lk L s'
  | [], s', _ => by simp [del, lk]
  | x :: L, s', h => by
    simp only [List.map_cons, List.nodup_cons] at h
    unfold del
    by_cases hs : s = x.1
    · rw [if_pos hs]
      by_cases h' : s' = s
      · rw [if_pos h', h', hs]
        have : ∀ {L : List KV} {a : ByteArray}, a ∉ L.map (·.1) → lk L a = none := by
          intro L
          induction L with
          | nil => intro a _; rfl
          | cons y L ih =>
            intro a ha
            simp only [List.map_cons, List.mem_cons, not_or] at ha
            unfold lk
            rw [if_neg ha.1]
            exact ih ha.2
        exact this h.1
      · rw [if_neg h']
        conv => rhs; unfold lk
        rw [if_neg (by rw [← hs]; exact h')]
    · rw [if_neg hs]
      unfold lk
      by_cases h1 : s' = x.1
      · rw [if_pos h1, if_pos h1, if_neg (by rw [h1]; exact fun e => hs e.symm)]
      · rw [if_neg h1, if_neg h1]
        exact lk_del h.2
/-- A directory stays where a map that is not its own and a directory that it is not were changed. -/
theorem dr_keep {w w' : World} {nb db mb m b : Nat} {up : Value} {L : List KV} {es : Array MapEntry} {cl : Nat} {cs : Array Value} (h : Dr w nb db mb up L) (hm : w.heap[m]? = some (.map es cl)) (hb : w.heap[b]? = some (.cells cs 95 (0, 0))) (u : Upd (fun k => k = m ∨ k = b) w w') (h1 : mb ≠ m) (h2 : db ≠ b) : Dr w' nb db mb up L := by
  refine h.upd u ?_ ?_ ?_
  · rintro (e | e)
    · have := h.nod
      unfold Nd at this
      rw [e, hm] at this
      cases this
    · have := h.nod
      unfold Nd at this
      rw [e, hb] at this
      injection this with this
      injection this with _ this _
      exact absurd this (by decide)
  · rintro (e | e)
    · have := h.dir
      rw [e, hm] at this
      cases this
    · exact h2 e
  · rintro (e | e)
    · exact h1 e
    · obtain ⟨es3, cl3, m3, -⟩ := h.map
      rw [e, hb] at m3
      cases m3
theorem tob_upd {w w' : World} {m b : Nat} {es es' : Array MapEntry} {cl cl' : Nat} {cs cs' : Array Value} {f' : Nat × Nat} (hm : w.heap[m]? = some (.map es cl)) (hb : w.heap[b]? = some (.cells cs 95 (0, 0))) (hm' : w'.heap[m]? = some (.map es' cl')) (hb' : w'.heap[b]? = some (.cells cs' 95 f')) (u : Upd (fun k => k = m ∨ k = b) w w') : Ch 0 Tob w w' :=
  Ch.of_upd u (fun k _ _ e1 => by
    rcases e1 with rfl | rfl
    · exact ⟨_, _, hm, hm', .inl ⟨_, _, rfl⟩, .inl ⟨_, _, rfl⟩⟩
    · exact ⟨_, _, hb, hb', .inr ⟨_, _, _, by simp, rfl⟩, .inr ⟨_, _, _, by simp, rfl⟩⟩)
theorem pre_snoc {q x : List B} {n : B} (h : q <+: x ++ [n]) : q = x ++ [n] ∨ q <+: x := by
  rcases List.prefix_concat_iff.1 h with h | h
  · exact .inl h
  · exact .inr h
/-- The tree without what stands at c and below. -/
theorem Tr.cut {lo : Nat} {w w' : World} {S : List En} (h : Tr lo w S) {d c : En} {n : B} {up : Value} {L : List KV} {b : Nat} {cs cs' : Array Value} {f' : Nat × Nat} (hd : d ∈ S) (hk : d.k = 1) (hp : c.p = d.p ++ [n]) (hD : Dr w d.nb d.db d.mb up L) (hK : Kids S d.p L) (hU : UpOf S d up) (hD' : Dr w' d.nb d.db d.mb up (del L (ba n)))
    (hb : w.heap[b]? = some (.cells cs 95 (0, 0))) (hb' : w'.heap[b]? = some (.cells cs' 95 f')) (u : Upd (fun k => k = d.mb ∨ k = b) w w') (hbx : ∀ x ∈ S, x.k = 1 → x ≠ d → x ≠ c → x.db ≠ b) : Tr lo w' (out c.p S) := by
  have hcp : c.p ≠ [] := by rw [hp]; simp
  obtain ⟨es, cl, m1, hE⟩ := hD.map
  obtain ⟨es', cl', m2, -⟩ := hD'.map
  have ch := tob_upd m1 hb m2 hb' u
  have hpar : ∀ e ∈ S, ¬ c.p <+: e.p → ∀ x : En, x.p = e.p.dropLast → ¬ c.p <+: x.p := fun e _ hn x hx hc => hn (hc.trans (hx ▸ List.dropLast_prefix e.p))
  refine ⟨?_, ?_, ?_, fun e he => h.nam e (mem_out.1 he).1, fun e he => h.dep e (mem_out.1 he).1, Nat.le_trans (List.length_filter_le _ _) h.few, fun a ha b hb => h.nbs a (mem_out.1 ha).1 b (mem_out.1 hb).1, fun a ha b hb => h.dbs a (mem_out.1 ha).1 b (mem_out.1 hb).1, ?_, fun e he hk => (h.lef e (mem_out.1 he).1 hk).ch (ch.lo (Nat.zero_le _)) saf_tob⟩
  · exact h.one.sublist ((List.filter_sublist).map En.p)
  · obtain ⟨r, h1, h2, h3⟩ := h.root
    exact ⟨r, mem_out.2 ⟨h1, fun e => hcp (List.prefix_nil.1 (h2 ▸ e))⟩, h2, h3⟩
  · intro e he hn
    obtain ⟨h1, h2⟩ := mem_out.1 he
    obtain ⟨x, k1, k2, k3⟩ := h.par e h1 hn
    exact ⟨x, mem_out.2 ⟨k1, hpar e h1 h2 x k2⟩, k2, k3⟩
  · intro x hx xk
    obtain ⟨hx1, hx2⟩ := mem_out.1 hx
    obtain ⟨k1, k2, k3, k4, up', L', k5, k6, k7⟩ := h.dir x hx1 xk
    have hup : ∀ {v : Value}, UpOf S x v → UpOf (out c.p S) x v := fun hv => hv.imp id fun ⟨j0, y, j1, j2, j3, j4⟩ => ⟨j0, y, mem_out.2 ⟨j1, hpar x hx1 hx2 y j3⟩, j2, j3, j4⟩
    refine ⟨k1, k2, k3, k4, ?_⟩
    by_cases hxd : x = d
    · subst hxd
      refine ⟨up, _, hD', hup hU, fun m v => ?_⟩
      rw [lk_del hE.one]
      by_cases hmn : m = n
      · subst hmn
        rw [if_pos rfl]
        refine ⟨fun e => (by cases e), ?_⟩
        rintro ⟨y, hy, hyp, -⟩
        exact absurd (show c.p <+: y.p by rw [hyp, hp]; exact List.prefix_refl _) (mem_out.1 hy).2
      · rw [if_neg (fun e => hmn (ba_inj e)), hK m v]
        refine ⟨fun ⟨y, j1, j2, j3⟩ => ⟨y, mem_out.2 ⟨j1, fun hc2 => ?_⟩, j2, j3⟩, fun ⟨y, j1, j2⟩ => ⟨y, (mem_out.1 j1).1, j2⟩⟩
        rw [j2] at hc2
        rcases pre_snoc hc2 with e | e
        · rw [hp] at e; exact hmn (snoc_inj e).2.symm
        · exact hx2 e
    · have hxc : x ≠ c := fun e => hx2 (e ▸ List.prefix_refl _)
      refine ⟨up', L', dr_keep k5 m1 hb u (fun e => hxd (h.dbs x hx1 d hd xk hk (.inr e))) (hbx x hx1 xk hxd hxc), hup k6, fun m v => (k7 m v).trans ⟨fun ⟨y, j1, j2, j3⟩ => ⟨y, mem_out.2 ⟨j1, fun hc2 => ?_⟩, j2, j3⟩, fun ⟨y, j1, j2⟩ => ⟨y, (mem_out.1 j1).1, j2⟩⟩⟩
      rw [j2] at hc2
      rcases pre_snoc hc2 with e | e
      · rw [hp] at e
        exact hxd (one_p h.one hx1 hd (snoc_inj e).1.symm)
      · exact hx2 e
theorem drop_snoc {q x : List B} {n : B} (h : q <+: x) : (x ++ [n]).drop q.length = x.drop q.length ++ [n] := List.drop_append_of_le_length h.length_le
/-- What stands at c and below, as a tree of its own. -/
theorem Tr.part {lo : Nat} {w w' : World} {S : List En} (h : Tr lo w S) {d c : En} {n : B} {XL : List KV} {m : Nat} {es es' : Array MapEntry} {cl cl' : Nat} (hd : d ∈ S) (hk : d.k = 1) (hc : c ∈ S) (hck : c.k = 1) (hp : c.p = d.p ++ [n]) {xup : Value} (hX : Dr w c.nb c.db c.mb xup XL) (hKX : Kids S c.p XL) (hX' : Dr w' c.nb c.db c.mb (.pointer none) XL)
    (hm : w.heap[m]? = some (.map es cl)) (hm' : w'.heap[m]? = some (.map es' cl')) (hmd : m = d.mb) (u : Upd (fun k => k = m ∨ k = c.db) w w') : Tr lo w' (sub c.p S) := by
  have ch := tob_upd hm hX.dir hm' hX'.dir u
  have hcd : ¬ c.p <+: d.p := fun e => by
    have := e.length_le
    rw [hp, List.length_append, List.length_singleton] at this
    omega
  have hpar : ∀ e ∈ S, c.p <+: e.p → (e.rel c.p).p ≠ [] → c.p <+: e.p.dropLast ∧ (e.rel c.p).p.dropLast = e.p.dropLast.drop c.p.length := fun e _ he hn => by
    have h1 := rel_p he
    have h2 : e.p.dropLast = c.p ++ (e.rel c.p).p.dropLast := by rw [← h1, List.dropLast_append_of_ne_nil hn]
    exact ⟨h2 ▸ List.prefix_append _ _, by rw [h2, List.drop_left]⟩
  refine ⟨?_, ⟨c.rel c.p, mem_sub.2 ⟨c, hc, List.prefix_refl _, rfl⟩, by simp [En.rel], hck⟩, ?_, ?_, ?_, ?_, ?_, ?_, ?_, ?_⟩
  · unfold sub
    rw [List.map_map]
    have h1 : ((und c.p S).map En.p).Nodup := h.one.sublist ((List.filter_sublist).map En.p)
    rw [List.Nodup, List.pairwise_map] at h1 ⊢
    refine h1.imp_of_mem fun {a b} ha hb hab e => hab ?_
    have e2 : (a.rel c.p).p = (b.rel c.p).p := e
    rw [← rel_p (mem_und.1 ha).2, ← rel_p (mem_und.1 hb).2, e2]
  · intro e he hn
    obtain ⟨x, hx, hpx, rfl⟩ := mem_sub.1 he
    have hn2 : x.p ≠ [] := fun e0 => hn (by simp [En.rel, e0])
    obtain ⟨y, h1, h2, h3⟩ := h.par x hx hn2
    obtain ⟨k1, k2⟩ := hpar x hx hpx hn
    exact ⟨y.rel c.p, mem_sub.2 ⟨y, h1, h2 ▸ k1, rfl⟩, by rw [k2, ← h2]; rfl, h3⟩
  · intro e he m hm
    obtain ⟨x, hx, hpx, rfl⟩ := mem_sub.1 he
    exact h.nam x hx m (List.mem_of_mem_drop hm)
  · intro e he
    obtain ⟨x, hx, hpx, rfl⟩ := mem_sub.1 he
    have := h.dep x hx
    show (x.p.drop c.p.length).length ≤ 64
    rw [List.length_drop]
    omega
  · show (List.map _ _).length ≤ _
    rw [List.length_map]
    exact Nat.le_trans (List.length_filter_le _ _) h.few
  · intro a ha b hb hab
    obtain ⟨x, hx, hpx, rfl⟩ := mem_sub.1 ha
    obtain ⟨y, hy, hpy, rfl⟩ := mem_sub.1 hb
    rw [h.nbs x hx y hy hab]
  · intro a ha b hb ka kb hab
    obtain ⟨x, hx, hpx, rfl⟩ := mem_sub.1 ha
    obtain ⟨y, hy, hpy, rfl⟩ := mem_sub.1 hb
    rw [h.dbs x hx y hy ka kb hab]
  · intro a ha ka
    obtain ⟨x, hx, hpx, rfl⟩ := mem_sub.1 ha
    obtain ⟨k1, k2, k3, k4, up', L', k5, k6, k7⟩ := h.dir x hx ka
    have hkid : ∀ {L : List KV}, Kids S x.p L → Kids (sub c.p S) (x.rel c.p).p L := fun {L} hL i v => (hL i v).trans
      ⟨fun ⟨y, j1, j2, j3⟩ => ⟨y.rel c.p, mem_sub.2 ⟨y, j1, by rw [j2]; exact hpx.trans (List.prefix_append _ _), rfl⟩, by show y.p.drop _ = _; rw [j2, drop_snoc hpx]; rfl, j3⟩,
       fun ⟨z, j1, j2, j3⟩ => by
        obtain ⟨y, hy, hpy, rfl⟩ := mem_sub.1 j1
        refine ⟨y, hy, ?_, j3⟩
        rw [← rel_p hpy, j2, ← List.append_assoc, rel_p hpx]⟩
    refine ⟨k1, k2, k3, k4, ?_⟩
    by_cases hxc : x = c
    · subst hxc
      exact ⟨_, XL, hX', .inl ⟨by simp [En.rel], rfl⟩, hkid hKX⟩
    · have hxd : x ≠ d := fun e => hcd (e ▸ hpx)
      have hxn : (x.rel c.p).p ≠ [] := fun e => hxc (one_p h.one hx hc (by have := rel_p hpx; rw [e, List.append_nil] at this; exact this.symm))
      refine ⟨up', L', dr_keep k5 hm hX.dir u (fun e => hxd (h.dbs x hx d hd ka hk (.inr (e.trans hmd)))) (fun e => hxc (h.dbs x hx c hc ka hck (.inl e))), .inr ⟨hxn, ?_⟩, hkid k7⟩
      rcases k6 with ⟨j1, -⟩ | ⟨-, y, j1, j2, j3, j4⟩
      · exact absurd (List.prefix_nil.1 (j1 ▸ hpx)) (by rw [hp]; simp)
      · obtain ⟨i1, i2⟩ := hpar x hx hpx hxn
        exact ⟨y.rel c.p, mem_sub.2 ⟨y, j1, j3 ▸ i1, rfl⟩, j2, by rw [i2, ← j3]; rfl, j4⟩
  · intro a ha ka
    obtain ⟨x, hx, hpx, rfl⟩ := mem_sub.1 ha
    have := (h.lef x hx ka).ch (ch.lo (Nat.zero_le _)) saf_tob
    exact this
/-- A tree is put below a directory of another. -/
theorem Tr.graft {lo : Nat} {w w' : World} {R C : List En} (h : Tr lo w R) (g : Tr lo w C) {t c : En} {a : B} {up : Value} {L XL : List KV} (ht : t ∈ R) (hk : t.k = 1) (hc : c ∈ C) (hcp : c.p = []) (hn : nameOk (ba a) = true) (hnew : ∀ x ∈ R, x.p ≠ t.p ++ [a])
    (hdep : ∀ x ∈ C, t.p.length + 1 + x.p.length ≤ 64) (hfew : R.length + C.length ≤ 100000) (hnb : ∀ x ∈ R, ∀ y ∈ C, x.nb ≠ y.nb) (hdb : ∀ x ∈ R, ∀ y ∈ C, x.k = 1 → y.k = 1 → x.db ≠ y.db ∧ x.mb ≠ y.mb)
    (hD : Dr w t.nb t.db t.mb up L) (hK : Kids R t.p L) (hU : UpOf R t up) (hX : Dr w c.nb c.db c.mb (.pointer none) XL) (hKX : Kids C [] XL) (hD' : Dr w' t.nb t.db t.mb up (L ++ [(ba a, Pt c.nb)])) (hX' : Dr w' c.nb c.db c.mb (Pt t.db) XL) (u : Upd (fun k => k = t.mb ∨ k = c.db) w w') : Tr lo w' (R ++ C.map (En.ins (t.p ++ [a]))) := by
  obtain ⟨es, cl, m1, hE⟩ := hD.map
  obtain ⟨es', cl', m2, -⟩ := hD'.map
  have ch := tob_upd m1 hX.dir m2 hX'.dir u
  have hck : c.k = 1 := by
    obtain ⟨r, r1, r2, r3⟩ := g.root
    rw [one_p g.one hc r1 (hcp.trans r2.symm)]; exact r3
  have hq : ∀ x ∈ R, ¬ (t.p ++ [a]) <+: x.p := fun x hx e => by
    obtain ⟨y, h1, h2, -⟩ := h.anc (x.p.length - (t.p ++ [a]).length) x hx (by have := e.length_le; omega) e
    exact hnew y h1 h2
  have hmem : ∀ {x : En}, x ∈ R ++ C.map (En.ins (t.p ++ [a])) ↔ x ∈ R ∨ ∃ y ∈ C, x = y.ins (t.p ++ [a]) := fun {x} => by
    rw [List.mem_append, List.mem_map]
    exact or_congr Iff.rfl ⟨fun ⟨y, h1, h2⟩ => ⟨y, h1, h2.symm⟩, fun ⟨y, h1, h2⟩ => ⟨y, h1, h2.symm⟩⟩
  have hup : ∀ {x : En} {v : Value}, UpOf R x v → UpOf (R ++ C.map (En.ins (t.p ++ [a]))) x v := fun hv => hv.imp id fun ⟨j0, y, j1, j2⟩ => ⟨j0, y, hmem.2 (.inl j1), j2⟩
  refine ⟨?_, ?_, ?_, ?_, ?_, by simpa using hfew, ?_, ?_, ?_, ?_⟩
  · rw [List.map_append, List.map_map]
    refine List.nodup_append.2 ⟨h.one, ?_, fun x hx y hy e => ?_⟩
    · have h1 := g.one
      rw [List.Nodup, List.pairwise_map] at h1 ⊢
      exact h1.imp fun {a b} hab e => hab (List.append_cancel_left e)
    · obtain ⟨z, hz, rfl⟩ := List.mem_map.1 hx
      obtain ⟨v, hv, rfl⟩ := List.mem_map.1 hy
      exact hq z hz (e ▸ List.prefix_append _ _)
  · obtain ⟨r, h1, h2⟩ := h.root
    exact ⟨r, hmem.2 (.inl h1), h2⟩
  · intro x hx hp
    replace hx := hmem.1 hx
    rcases hx with hx | ⟨y, hy, rfl⟩
    · obtain ⟨z, h1, h2⟩ := h.par x hx hp
      exact ⟨z, hmem.2 (.inl h1), h2⟩
    · by_cases hy0 : y.p = []
      · exact ⟨t, hmem.2 (.inl ht), by show t.p = ((t.p ++ [a]) ++ y.p).dropLast; rw [hy0]; simp, hk⟩
      · obtain ⟨z, h1, h2, h3⟩ := g.par y hy hy0
        exact ⟨z.ins _, hmem.2 (.inr ⟨z, h1, rfl⟩), by show (t.p ++ [a]) ++ z.p = ((t.p ++ [a]) ++ y.p).dropLast; rw [List.dropLast_append_of_ne_nil hy0, h2], h3⟩
  · intro x hx m hm
    replace hx := hmem.1 hx
    rcases hx with hx | ⟨y, hy, rfl⟩
    · exact h.nam x hx m hm
    · rcases List.mem_append.1 (show m ∈ (t.p ++ [a]) ++ y.p from hm) with hm | hm
      · rcases List.mem_append.1 hm with hm | hm
        · exact h.nam t ht m hm
        · rw [List.mem_singleton.1 hm]; exact hn
      · exact g.nam y hy m hm
  · intro x hx
    replace hx := hmem.1 hx
    rcases hx with hx | ⟨y, hy, rfl⟩
    · exact h.dep x hx
    · show ((t.p ++ [a]) ++ y.p).length ≤ 64
      have := hdep y hy
      simp only [List.length_append, List.length_singleton]
      omega
  · intro x hx y hy e
    replace hx := hmem.1 hx
    replace hy := hmem.1 hy
    rcases hx with hx | ⟨x, hx, rfl⟩ <;> rcases hy with hy | ⟨y, hy, rfl⟩
    · exact h.nbs x hx y hy e
    · exact absurd e (hnb x hx y hy)
    · exact absurd e.symm (hnb y hy x hx)
    · rw [g.nbs x hx y hy e]
  · intro x hx y hy kx ky e
    replace hx := hmem.1 hx
    replace hy := hmem.1 hy
    rcases hx with hx | ⟨x, hx, rfl⟩ <;> rcases hy with hy | ⟨y, hy, rfl⟩
    · exact h.dbs x hx y hy kx ky e
    · exact absurd e (by rintro (e | e); exact (hdb x hx y hy kx ky).1 e; exact (hdb x hx y hy kx ky).2 e)
    · exact absurd e (by rintro (e | e); exact (hdb y hy x hx ky kx).1 e.symm; exact (hdb y hy x hx ky kx).2 e.symm)
    · rw [g.dbs x hx y hy kx ky e]
  · intro x hx kx
    replace hx := hmem.1 hx
    rcases hx with hx | ⟨x, hx, rfl⟩
    · obtain ⟨k1, k2, k3, k4, up', L', k5, k6, k7⟩ := h.dir x hx kx
      refine ⟨k1, k2, k3, k4, ?_⟩
      by_cases hxt : x = t
      · subst hxt
        refine ⟨up, _, hD', hup hU, fun m v => ?_⟩
        rw [lk_app]
        constructor
        · intro e
          cases hl : lk L (ba m) with
          | some v' =>
            rw [hl] at e
            obtain ⟨y, j1, j2⟩ := (hK m v').1 hl
            injection e with e
            exact ⟨y, hmem.2 (.inl j1), e ▸ j2⟩
          | none =>
            rw [hl] at e
            simp only at e
            split at e
            · next h1 =>
              injection e with e
              exact ⟨c.ins _, hmem.2 (.inr ⟨c, hc, rfl⟩), by show (x.p ++ [a]) ++ c.p = _; rw [hcp, ba_inj h1]; simp, e.symm⟩
            · cases e
        · rintro ⟨y, hy, j2, j3⟩
          replace hy := hmem.1 hy
          rcases hy with hy | ⟨y, hy, rfl⟩
          · rw [(hK m v).2 ⟨y, hy, j2, j3⟩]
          · have j4 : (x.p ++ [a]) ++ y.p = x.p ++ [m] := j2
            have hy0 : y.p = [] := by
              have := congrArg List.length j4
              simp only [List.length_append, List.length_singleton] at this
              exact List.eq_nil_of_length_eq_zero (by omega)
            rw [hy0, List.append_nil] at j4
            have ham := (snoc_inj j4).2
            subst ham
            have hyc : y = c := one_p g.one hy hc (hy0.trans hcp.symm)
            have hl : lk L (ba a) = none := by
              cases hl : lk L (ba a) with
              | none => rfl
              | some v' =>
                obtain ⟨z, i1, i2, -⟩ := (hK a v').1 hl
                exact absurd i2 (hnew z i1)
            rw [hl]
            simp only [↓reduceIte]
            rw [j3, hyc]
            rfl
      · refine ⟨up', L', dr_keep k5 m1 hX.dir u (fun e => hxt (h.dbs x hx t ht kx hk (.inr e))) (hdb x hx c hc kx hck).1, hup k6, fun m v => (k7 m v).trans ⟨fun ⟨y, j1, j2⟩ => ⟨y, hmem.2 (.inl j1), j2⟩, ?_⟩⟩
        rintro ⟨y, hy, j2, j3⟩
        replace hy := hmem.1 hy
        rcases hy with hy | ⟨y, hy, rfl⟩
        · exact ⟨y, hy, j2, j3⟩
        · have j4 : (t.p ++ [a]) <+: x.p ++ [m] := by rw [← j2]; exact List.prefix_append _ _
          rcases pre_snoc j4 with e | e
          · exact absurd (one_p h.one hx ht (snoc_inj e).1.symm) hxt
          · exact absurd e (hq x hx)
    · obtain ⟨k1, k2, k3, k4, up', L', k5, k6, k7⟩ := g.dir x hx kx
      refine ⟨k1, k2, k3, k4, ?_⟩
      have hkid : ∀ {L : List KV}, Kids C x.p L → Kids (R ++ C.map (En.ins (t.p ++ [a]))) (x.ins (t.p ++ [a])).p L := fun {L} hL i v => (hL i v).trans
        ⟨fun ⟨y, j1, j2, j3⟩ => ⟨y.ins _, hmem.2 (.inr ⟨y, j1, rfl⟩), by show (t.p ++ [a]) ++ y.p = ((t.p ++ [a]) ++ x.p) ++ [i]; rw [j2, List.append_assoc (t.p ++ [a])], j3⟩,
         fun ⟨z, j1, j2, j3⟩ => by
          have j4 : z.p = ((t.p ++ [a]) ++ x.p) ++ [i] := j2
          rcases hmem.1 j1 with hz | ⟨y, hy, rfl⟩
          · exact absurd (show (t.p ++ [a]) <+: z.p by rw [j4, List.append_assoc]; exact List.prefix_append _ _) (hq z hz)
          · refine ⟨y, hy, ?_, j3⟩
            have j5 : (t.p ++ [a]) ++ y.p = (t.p ++ [a]) ++ (x.p ++ [i]) := by rw [← List.append_assoc (t.p ++ [a])]; exact j4
            exact List.append_cancel_left j5⟩
      by_cases hxc : x = c
      · subst hxc
        refine ⟨_, XL, hX', .inr ⟨by show (t.p ++ [a]) ++ x.p ≠ []; simp, t, hmem.2 (.inl ht), hk, by show t.p = ((t.p ++ [a]) ++ x.p).dropLast; rw [hcp]; simp, rfl⟩, hkid (by rw [hcp]; exact hKX)⟩
      · have hx0 : x.p ≠ [] := fun e => hxc (one_p g.one hx hc (e.trans hcp.symm))
        refine ⟨up', L', dr_keep k5 m1 hX.dir u (fun e => (hdb t ht x hx hk kx).2 e.symm) (fun e => hxc (g.dbs x hx c hc kx hck (.inl e))), .inr ⟨by show (t.p ++ [a]) ++ x.p ≠ []; simp, ?_⟩, hkid k7⟩
        rcases k6 with ⟨j1, -⟩ | ⟨-, y, j1, j2, j3, j4⟩
        · exact absurd j1 hx0
        · exact ⟨y.ins _, hmem.2 (.inr ⟨y, j1, rfl⟩), j2, by show (t.p ++ [a]) ++ y.p = ((t.p ++ [a]) ++ x.p).dropLast; rw [List.dropLast_append_of_ne_nil hx0, j3], j4⟩
  · intro x hx kx
    replace hx := hmem.1 hx
    rcases hx with hx | ⟨x, hx, rfl⟩
    · exact (h.lef x hx kx).ch (ch.lo (Nat.zero_le _)) saf_tob
    · exact (g.lef x hx kx).ch (ch.lo (Nat.zero_le _)) saf_tob
end Go.Proofs.YtbnaegoahdcejaaGreatDoor

namespace Go.Proofs.YtbnaegoahdcejaaGreatDoor
open Go.RowKit Go.ChangeMaps

abbrev NP : Obj → Prop := fun _ => False
theorem vis_NP : Vis NP := ⟨fun _ _ _ _ h => h, fun _ _ h => h, fun _ _ h => h, fun _ _ h => h, fun _ _ h => h, fun _ _ h => h⟩
/-- The variable that holds the node asked for; none of the first k is it. -/
structure Wv (lo : Nat) (S D : List En) (t : En) (w0 : World) (cb : Nat) (k : Nat) (W : World) : Prop where
  tr : Tr lo W S
  bel : Below w0.heap.size w0 W
  cel : W.heap[cb]? = some (.cells #[Pt t.nb] 26 (0, 0))
  not : ∀ j, j < k → D[j]? ≠ some t
set_option maxRecDepth 20000 in
set_option maxHeartbeats 1000000 in
theorem within1_any {lo : Nat} {S D : List En} {t : En} {w0 : World} {cb : Nat} (ht : t ∈ S) (hDS : ∀ x ∈ D, x ∈ S) (s : ByteArray) (k : Nat) (x : En) (W : World) (hx : D[k]? = some x) (hI : Wv lo S D t w0 cb k W) :
    Calls Tryz.prog 90 #[.string s, Pt x.nb, Pt cb] W fun e W' => ∃ c : Int, e = .returned (.int .i64 c) ∧ Ch 0 NP W W' ∧ ((c = 0 ∧ Wv lo S D t w0 cb (k + 1) W') ∨ (c ≠ 0 ∧ (c = 200 ∧ Below w0.heap.size w0 W' ∧ t ∈ D))) := by
  obtain ⟨t1, k1, hn1⟩ := hI.tr.nd ht
  obtain ⟨t2, k2, hn2⟩ := hI.tr.nd (hDS x (List.mem_of_getElem? hx))
  have heq := eq_node hn2 hn1
  have hc : W.cell? ⟨cb, 0, none⟩ = some (Pt t.nb) := by rw [cell_of_row W cb 0 _ _ _ hI.cel]; rfl
  have AI := aside hI
  have AX := aside hx
  have hxt : x.nb = t.nb ↔ x = t := ⟨fun e => hI.tr.nbs x (hDS x (List.mem_of_getElem? hx)) t ht e, fun e => by rw [e]⟩
  have AXT := aside hxt
  obtain ⟨a, ha⟩ : ∃ a, a = x.nb := ⟨_, rfl⟩
  obtain ⟨b, hb⟩ : ∃ b, b = t.nb := ⟨_, rfl⟩
  have Aa := aside ha
  have Ab := aside hb
  rw [← ha, ← hb] at heq
  rw [← ha]
  rw [← hb] at hc
  clear hI hx hxt hn1 hn2 ha hb
  by_cases hab : a = b
  · subst hab
    rw [decide_eq_true rfl] at heq
    go_enter Tryz.func90, Tryz.ntmps90
    go_wp2_with fail
    first | go_ret | go_ret2
    have : x = t := AXT.out.1 (by rw [← Aa.out, ← Ab.out])
    exact ⟨200, rfl, Ch.refl _ _ _, .inr ⟨by decide, rfl, AI.out.bel, List.mem_of_getElem? (this ▸ AX.out)⟩⟩
  · rw [decide_eq_false hab] at heq
    go_enter Tryz.func90, Tryz.ntmps90
    go_wp2_with fail
    first | go_ret | go_ret2
    refine ⟨0, rfl, Ch.refl _ _ _, .inl ⟨rfl, AI.out.tr, AI.out.bel, AI.out.cel, fun j hj e => ?_⟩⟩
    by_cases hjk : j = k
    · rw [hjk, AX.out] at e
      injection e with e
      exact hab (by rw [Aa.out, Ab.out, e])
    · exact AI.out.not j (by omega) e
theorem Tr.notdir {lo : Nat} {w : World} {S : List En} (h : Tr lo w S) {t c : En} (ht : t ∈ S) (hc : c ∈ S) (hk : c.k ≠ 1) (hne : t ≠ c) : ¬ c.p <+: t.p := fun hp => by
  obtain ⟨y, h1, h2, h3⟩ := h.anc (t.p.length - c.p.length) t ht (by have := hp.length_le; omega) hp
  have hyc : y = c := one_p h.one h1 hc h2
  refine hk (hyc ▸ h3 fun e => hne ?_)
  exact one_p h.one ht hc (hp.eq_of_length (by have := hp.length_le; omega)).symm
set_option maxRecDepth 20000 in
set_option maxHeartbeats 1000000 in
theorem twithin_any {lo : Nat} {S : List En} {w : World} (h : Tr lo w S) {t c : En} (ht : t ∈ S) (hc : c ∈ S) : Calls Tryz.prog 58 #[Pt t.nb, Pt c.nb] w fun e w' => e = .returned (.bool (decide (c.p <+: t.p))) ∧ Below w.heap.size w w' := by
  obtain ⟨w1, hw1⟩ : ∃ w1, w1 = w.alloc (.cells #[Pt t.nb] 26) := ⟨_, rfl⟩
  have hB : Below w.heap.size w w1 := by rw [hw1]; exact below_al w _
  have hcel : w1.heap[w.heap.size]? = some (.cells #[Pt t.nb] 26 (0, 0)) := by rw [hw1]; exact heap_alloc_new w _
  have h1 := h.below hB
  obtain ⟨t1, k1, hn1⟩ := h1.nd ht
  obtain ⟨t2, k2, hn2⟩ := h1.nd hc
  have heq := eq_node hn1 hn2
  have hc1 : w1.cell? ⟨w.heap.size, 0, none⟩ = some (Pt t.nb) := by rw [cell_of_row w1 _ 0 _ _ _ hcel]; rfl
  have hnb : t.nb = c.nb ↔ t = c := ⟨fun e => h.nbs t ht c hc e, fun e => by rw [e]⟩
  have AK : Aside (t ≠ c → Calls Tryz.prog 51 #[Pt c.nb, visF 90 #[Pt w.heap.size]] w1 fun e W' => ∃ r : Int, e = .returned (.int .i64 r) ∧ (r = 200 ↔ c.p <+: t.p) ∧ Below w.heap.size w W') := by
    intro hne
    by_cases hk : c.k = 1
    · have hDS : ∀ x ∈ dsc S 65 c.p, x ∈ S := fun x hx => (dsc_mem hx).1
      have hV : Visit lo S (dsc S 65 c.p) c.p.length NP 90 #[Pt w.heap.size] (fun k W => Wv lo S (dsc S 65 c.p) t w w.heap.size k W) (fun _ r W => r = 200 ∧ Below w.heap.size w W ∧ t ∈ dsc S 65 c.p) :=
        ⟨vis_NP, fun args w => by rfl, fun k W W' g b => ⟨g.tr.below b, below_tr g.bel b, (b.block _ (Array.getElem?_eq_some_iff.1 g.cel).1).trans g.cel, g.not⟩, fun k W g => g.tr, fun k x W hx hI => within1_any ht hDS _ k x W hx hI⟩
      refine (through_any c hc hk hV w1 ⟨h1, hB, hcel, fun j hj => by omega⟩).mono ?_
      rintro e w2 ⟨r, rfl, -, ⟨rfl, hI⟩ | ⟨hr, k, rfl, hb, hm⟩⟩
      · refine ⟨0, rfl, ⟨fun e => absurd e (by decide), fun hp => ?_⟩, hI.bel⟩
        obtain ⟨r, hr⟩ := hp
        have hr0 : r ≠ [] := fun e => hne (one_p h.one ht hc (by rw [← hr, e, List.append_nil]))
        have hm := mem_dsc h.closed r (f := 65) hr0 (by have := h.dep t ht; rw [← hr, List.length_append] at this; omega) hr.symm ht
        obtain ⟨j, hj⟩ := List.getElem?_of_mem hm
        exact absurd hj (hI.not j (List.getElem?_eq_some_iff.1 hj).1)
      · obtain ⟨-, r, -, -, he⟩ := dsc_mem hm
        exact ⟨200, rfl, ⟨fun _ => ⟨r, he.symm⟩, fun _ => rfl⟩, hb⟩
    · obtain ⟨tt, kk, hnd, htt⟩ := (h1.lef c hc hk).nd
      refine (through_err (nod_other hnd htt) 90 #[Pt w.heap.size]).mono ?_
      rintro e w2 ⟨rfl, hb⟩
      exact ⟨193, rfl, ⟨fun e => absurd e (by decide), fun hp => absurd hp (h.notdir ht hc hk hne)⟩, below_tr hB hb⟩
  have ABn := aside hB
  have Anb := aside hnb
  obtain ⟨a, ha⟩ : ∃ a, a = t.nb := ⟨_, rfl⟩
  obtain ⟨b, hb⟩ : ∃ b, b = c.nb := ⟨_, rfl⟩
  rw [← ha, ← hb] at heq Anb
  rw [← ha] at hc1 hw1
  rw [← hb] at AK
  rw [← ha, ← hb]
  have AT := aside h
  clear h h1 hB hcel hn1 hn2 hnb ha hb
  rw [hw1] at heq hc1
  by_cases hab : a = b
  · subst hab
    have Atc := aside (Anb.out.1 rfl)
    clear Anb AK
    rw [decide_eq_true rfl] at heq
    go_enter Tryz.func58, Tryz.ntmps58
    go_wp2_with fail
    first | go_ret | go_ret2
    rw [← hw1]
    exact ⟨by rw [Atc.out, decide_eq_true (List.prefix_refl _)]; rfl, ABn.out⟩
  · rw [decide_eq_false hab] at heq
    have AK2 := aside (AK.out (fun e => hab (Anb.out.2 e)))
    clear AK
    go_enter Tryz.func58, Tryz.ntmps58
    go_wp2_with fail
    rw [← hw1]
    refine AK2.out.mono ?_
    rintro e w2 ⟨r, rfl, hr, hb2⟩
    by_cases hp : c.p <+: t.p
    · obtain rfl := hr.2 hp
      go_wp2_with fail
      first | go_ret | go_ret2
      exact ⟨by rw [decide_eq_true hp]; rfl, hb2⟩
    · have hr2 : (r == 200) = false := beq_eq_false_iff_ne.2 (fun e => hp (hr.1 e))
      go_wp2_with fail
      first | go_ret | go_ret2
      exact ⟨by rw [decide_eq_false hp]; rfl, hb2⟩
end Go.Proofs.YtbnaegoahdcejaaGreatDoor

namespace Go.Proofs.YtbnaegoahdcejaaGreatDoor
open Go.RowKit Go.ChangeMaps

/-- The blocks of a tree's directories. -/
def blk (S : List En) (k : Nat) : Prop := ∃ e ∈ S, e.k = 1 ∧ (k = e.db ∨ k = e.mb)
/-- What stands nowhere: a node c and all below it, paths told from it. -/
structure Free (lo : Nat) (w : World) (C : List En) (c : En) : Prop where
  mem : c ∈ C
  top : c.p = []
  dir : c.k = 1 → Tr lo w C
  lef : c.k ≠ 1 → C = [c] ∧ Lf lo w c
theorem Free.below {lo : Nat} {w w' : World} {C : List En} {c : En} (h : Free lo w C c) (b : Below w.heap.size w w') : Free lo w' C c :=
  ⟨h.mem, h.top, fun k => (h.dir k).below b, fun k => ⟨(h.lef k).1, (h.lef k).2.ch (P := fun _ => False) (Ch.of_below b) (fun _ _ _ _ h => h)⟩⟩
theorem und_leaf {lo : Nat} {w : World} {S : List En} (h : Tr lo w S) {c : En} (hc : c ∈ S) (hk : c.k ≠ 1) : und c.p S = [c] := by
  have h1 : ((und c.p S).map En.p).Nodup := h.one.sublist ((List.filter_sublist).map En.p)
  have h2 : ∀ x ∈ und c.p S, x = c := fun x hx => by
    obtain ⟨hx1, hx2⟩ := mem_und.1 hx
    by_cases e : x = c
    · exact e
    · exact absurd hx2 (h.notdir hx1 hc hk e)
  have h3 : c ∈ und c.p S := mem_und.2 ⟨hc, List.prefix_refl _⟩
  cases hu : und c.p S with
  | nil => rw [hu] at h3; simp at h3
  | cons a l =>
    rw [hu] at h1 h2
    have ha := h2 a (by simp)
    cases l with
    | nil => rw [ha]
    | cons b l =>
      have hb := h2 b (by simp)
      rw [ha, hb] at h1
      simp at h1
theorem blk_dir {S : List En} {e : En} (he : e ∈ S) (hk : e.k = 1) : blk S e.db ∧ blk S e.mb := ⟨⟨e, he, hk, .inl rfl⟩, ⟨e, he, hk, .inr rfl⟩⟩
theorem tr_take {lo : Nat} {w : World} {S : List En} (h : Tr lo w S) {d c : En} {n : B} (hd : d ∈ S) (hk : d.k = 1) (hc : c ∈ S) (hp : c.p = d.p ++ [n]) :
    Calls Tryz.prog 59 #[Pt d.nb, .string (ba n)] w fun e w' => e = .returned (.tuple #[Pt c.nb, .int .i64 0]) ∧ Tr lo w' (out c.p S) ∧ Free lo w' (sub c.p S) (c.rel c.p) ∧ Upd (blk S) w w' := by
  obtain ⟨h1, h2, h3, h4, up, L, h5, h6, h7⟩ := h.dir d hd hk
  have hl := (h7 n (Pt c.nb)).2 ⟨c, hc, hp, rfl⟩
  have hcd : c ≠ d := fun e => by
    have := congrArg List.length (e ▸ hp)
    simp at this
  have hmem : c.rel c.p ∈ sub c.p S := mem_sub.2 ⟨c, hc, List.prefix_refl _, rfl⟩
  by_cases hck : c.k = 1
  · obtain ⟨k1, k2, k3, k4, xup, XL, k5, k6, k7⟩ := h.dir c hc hck
    have hne : ∀ {x y : Nat}, (c.db = d.db ∨ c.mb = d.mb) → False := fun e => hcd (h.dbs c hc d hd hck hk e)
    refine (take_dir d.nb d.db d.mb up L (ba n) c.nb c.db c.mb xup XL w h5 hl k5 (fun e => hcd (h.dbs c hc d hd hck hk (.inr e))) (fun e => hcd (h.dbs c hc d hd hck hk (.inl e)))).mono ?_
    rintro e w' ⟨rfl, hD', hX', u⟩
    obtain ⟨es, cl, m1, -⟩ := h5.map
    obtain ⟨es', cl', m2, -⟩ := hD'.map
    refine ⟨rfl, h.cut hd hk hp h5 h7 h6 hD' k5.dir hX'.dir u (fun x hx xk _ hxc e => hxc (h.dbs x hx c hc xk hck (.inl e))), ⟨hmem, by simp [En.rel], fun _ => h.part hd hk hc hck hp k5 k7 hX' m1 m2 rfl u, fun e => absurd hck e⟩, u.mono fun j _ hj => ?_⟩
    rcases hj with rfl | rfl
    · exact (blk_dir hd hk).2
    · exact (blk_dir hc hck).1
  · obtain ⟨t, k, hnd, ht⟩ := (h.lef c hc hck).nd
    refine (take_other d.nb d.db d.mb up L (ba n) c.nb k t w h5 hl hnd ht).mono ?_
    rintro e w' ⟨rfl, hD', u⟩
    have u2 : Upd (fun k => k = d.mb ∨ k = d.db) w w' := u.mono fun j _ hj => .inl hj
    obtain ⟨es, cl, m1, -⟩ := h5.map
    obtain ⟨es', cl', m2, -⟩ := hD'.map
    have ch := tob_upd m1 h5.dir m2 hD'.dir u2
    refine ⟨rfl, h.cut hd hk hp h5 h7 h6 hD' h5.dir hD'.dir u2 (fun x hx xk hxd _ e => hxd (h.dbs x hx d hd xk hk (.inl e))), ⟨hmem, by simp [En.rel], fun e => absurd e hck, fun _ => ⟨by unfold sub; rw [und_leaf h hc hck]; rfl, (h.lef c hc hck).ch (ch.lo (Nat.zero_le _)) saf_tob⟩⟩, u.mono fun j _ hj => ?_⟩
    rw [hj]
    exact (blk_dir hd hk).2
/-- What Add answers. -/
def adc (R C : List En) (p : List B) (a : B) : Int := if nameOk (ba a) = false then 190 else if (R.any fun c => decide (c.p = p ++ [a])) then 191 else if 64 < p.length + hgt C [] + 1 then 3 else 0
theorem adc_zero {R C : List En} {p : List B} {a : B} (h : adc R C p a = 0) : nameOk (ba a) = true ∧ (∀ x ∈ R, x.p ≠ p ++ [a]) ∧ p.length + hgt C [] + 1 ≤ 64 := by
  unfold adc at h
  split at h
  · exact absurd h (by decide)
  · next h1 =>
    split at h
    · exact absurd h (by decide)
    · next h2 =>
      split at h
      · exact absurd h (by decide)
      · next h3 =>
        refine ⟨by simpa using h1, fun x hx e => h2 (List.any_eq_true.2 ⟨x, hx, by simpa using e⟩), by omega⟩
theorem adc_of {R C : List En} {p : List B} {a : B} (h1 : nameOk (ba a) = true) (h2 : ∀ x ∈ R, x.p ≠ p ++ [a]) (h3 : p.length + hgt C [] + 1 ≤ 64) : adc R C p a = 0 := by
  unfold adc
  rw [if_neg (by rw [h1]; decide), if_neg (fun e => ?_), if_neg (by omega)]
  obtain ⟨x, hx, e⟩ := List.any_eq_true.1 e
  exact h2 x hx (by simpa using e)
theorem Free.ht {lo : Nat} {w : World} {C : List En} {c : En} (g : Free lo w C c) : Ht w (Pt c.nb) (hgt C []) ∧ hgt C [] ≤ 64 := by
  by_cases hk : c.k = 1
  · have h1 := (g.dir hk).ht 64 c g.mem (by omega)
    rw [g.top] at h1
    exact ⟨h1, (g.dir hk).hgt64 []⟩
  · obtain ⟨rfl, h2⟩ := g.lef hk
    obtain ⟨t, k, hnd, ht⟩ := h2.nd
    have hz : hgt [c] [] = 0 := (hgt_eq (fun e he _ => by rw [List.mem_singleton.1 he, g.top]; simp) (.inl rfl)).symm
    rw [hz]
    exact ⟨ht_other c.nb k t w hnd ht, by omega⟩
theorem tr_add {lo : Nat} {w : World} {R C : List En} (h : Tr lo w R) {t c : En} (g : Free lo w C c) (ht : t ∈ R) (hk : t.k = 1) (a : B) (hR : R.length ≤ 4096) (hC : C.length ≤ 50000) (hnb : ∀ x ∈ R, ∀ y ∈ C, x.nb ≠ y.nb) (hdb : ∀ x ∈ R, ∀ y ∈ C, x.k = 1 → y.k = 1 → x.db ≠ y.db ∧ x.mb ≠ y.mb) :
    Calls Tryz.prog 47 #[Pt t.nb, .string (ba a), Pt c.nb] w fun e w' => e = .returned (.int .i64 (adc R C t.p a)) ∧ ((adc R C t.p a = 0 ∧ Tr lo w' (R ++ C.map (En.ins (t.p ++ [a]))) ∧ Upd (fun k => blk R k ∨ blk C k) w w') ∨ (adc R C t.p a ≠ 0 ∧ Below w.heap.size w w')) := by
  obtain ⟨up, L, l, h1, h2, h3, h4, h5, h6, -⟩ := h.way _ t rfl ht hk
  have hkl := (h.kidlen h1 h2).1
  have hlen : L.length < 4096 := by
    rw [hkl]
    have : (kidU R t.p).length < R.length := by
      unfold kidU
      refine List.length_filter_lt_length_iff_exists.2 ⟨t, ht, ?_⟩
      simp only [decide_eq_true_eq, not_and]
      intro hn e
      have := congrArg List.length e
      rw [List.length_dropLast] at this
      have := List.length_pos_iff.2 hn
      omega
    omega
  have hdep := h.dep t ht
  obtain ⟨hH, h64⟩ := g.ht
  have hdl : ∀ y ∈ C, y.k = 1 → y.db ∉ t.db :: l := fun y hy ky hm => by
    rcases List.mem_cons.1 hm with e | e
    · exact (hdb t ht y hy hk ky).1 e.symm
    · obtain ⟨x, x1, x2, x3, -⟩ := h6 _ e
      exact (hdb x x1 y hy x2 ky).1 x3.symm
  have hrc : ∀ x, (x = none ∨ ∃ d, x = some (d, false) ∧ d ∉ t.db :: l) → rcode (ba a) L x (t.db :: l) (hgt C []) = adc R C t.p a := fun x hx => by
    unfold rcode adc
    rw [h2.some_iff a, if_neg (show ¬ 4096 ≤ L.length by omega)]
    have : xcode x (t.db :: l) (hgt C []) = if 64 < t.p.length + hgt C [] + 1 then 3 else 0 := by
      rcases hx with rfl | ⟨d, rfl, hd⟩
      · simp only [xcode, tcode, List.length_cons, h5, Nat.add_sub_cancel]
      · simp only [xcode, tcode, List.length_cons, h5, Nat.add_sub_cancel, if_neg hd]
        simp
    rw [this]
  have hdeps : adc R C t.p a = 0 → ∀ x ∈ C, t.p.length + 1 + x.p.length ≤ 64 := fun h0 x hx => by
    have h7 := (adc_zero h0).2.2
    have h8 := hgt_le (p := []) hx (List.nil_prefix)
    simp only [List.length_nil] at h8
    omega
  by_cases hck : c.k = 1
  · have gT := g.dir hck
    obtain ⟨k1, k2, k3, k4, xup, XL, k5, k6, k7⟩ := gT.dir c g.mem hck
    obtain rfl : xup = .pointer none := by
      rcases k6 with ⟨-, e⟩ | ⟨e, -⟩
      · exact e
      · exact absurd g.top e
    have hr := hrc (some (c.db, false)) (.inr ⟨c.db, rfl, hdl c g.mem hck⟩)
    by_cases h0 : adc R C t.p a = 0
    · refine (add_dir t.nb t.db t.mb up L l (ba a) c.nb c.db c.mb XL (hgt C []) w h1 h4 (by omega) k5 hH (by omega) (by omega) (fun e => (hdb t ht c g.mem hk hck).2 e.symm) (hr.trans h0)).mono ?_
      rintro e w' ⟨rfl, hD', hX', u⟩
      obtain ⟨a1, a2, a3⟩ := adc_zero h0
      rw [g.top] at k7
      refine ⟨by rw [h0], .inl ⟨h0, h.graft gT ht hk g.mem g.top a1 a2 (hdeps h0) (by omega) hnb hdb h1 h2 h3 k5 k7 hD' hX' u, u.mono fun j _ hj => ?_⟩⟩
      rcases hj with rfl | rfl
      · exact .inl (blk_dir ht hk).2
      · exact .inr (blk_dir g.mem hck).1
    · refine (add_no t.nb t.db t.mb up L l (ba a) c.nb (some (c.db, false)) (hgt C []) _ w h1 h4 (by omega) (Mk.free _ _ _ k5) hH (by omega) (by omega) hr h0).mono ?_
      rintro e w' ⟨rfl, hb⟩
      exact ⟨rfl, .inr ⟨h0, hb⟩⟩
  · obtain ⟨hC1, hL⟩ := g.lef hck
    obtain ⟨tt, k, hnd, htt⟩ := hL.nd
    have hz : hgt C [] = 0 := by rw [hC1]; exact (hgt_eq (fun e he _ => by rw [List.mem_singleton.1 he, g.top]; simp) (.inl rfl)).symm
    have hr := hrc none (.inl rfl)
    by_cases h0 : adc R C t.p a = 0
    · refine (add_other t.nb t.db t.mb up L l (ba a) c.nb k tt w h1 h4 (by omega) hnd htt (by omega) (by rw [← hz]; exact hr.trans h0)).mono ?_
      rintro e w' ⟨rfl, hD', u⟩
      obtain ⟨a1, a2, a3⟩ := adc_zero h0
      have u2 : Upd (fun k => k = t.mb ∨ k = t.db) w w' := u.mono fun j _ hj => .inl hj
      obtain ⟨es, cl, m1, -⟩ := h1.map
      obtain ⟨es', cl', m2, -⟩ := hD'.map
      have ch := tob_upd m1 h1.dir m2 hD'.dir u2
      refine ⟨by rw [h0], .inl ⟨h0, ?_, u.mono fun j _ hj => .inl (by rw [hj]; exact (blk_dir ht hk).2)⟩⟩
      rw [hC1, List.map_cons, List.map_nil]
      refine h.put (e := c.ins (t.p ++ [a])) ht hk (show (t.p ++ [a]) ++ c.p = _ by rw [g.top, List.append_nil]) a1 ?_ (by omega) ?_ (fun x hx => hnb x hx c g.mem) (fun e => absurd e hck) h1 h2 h3 hD' (u.mono fun j _ hj => .inl hj) (fun e => absurd e hck) (fun _ => ?_)
      · show ((t.p ++ [a]) ++ c.p).length ≤ 64
        have := hdeps h0 c g.mem
        simp only [List.length_append, List.length_singleton]
        omega
      · intro x hx
        show x.p ≠ (t.p ++ [a]) ++ c.p
        rw [g.top, List.append_nil]
        exact a2 x hx
      · exact hL.ch (ch.lo (Nat.zero_le _)) saf_tob
    · refine (add_no t.nb t.db t.mb up L l (ba a) c.nb none (hgt C []) _ w h1 h4 (by omega) (Mk.other tt k hnd htt) hH (by omega) (by omega) hr h0).mono ?_
      rintro e w' ⟨rfl, hb⟩
      exact ⟨rfl, .inr ⟨h0, hb⟩⟩
end Go.Proofs.YtbnaegoahdcejaaGreatDoor

namespace Go.Proofs.YtbnaegoahdcejaaGreatDoor
open Go.RowKit Go.ChangeMaps

/-- The tree behind a move of c to q. -/
def mvd (S : List En) (c : En) (q : List B) : List En := out c.p S ++ (sub c.p S).map (En.ins q)
/-- What Move answers. -/
def mvc (S : List En) (d t c : En) (n a : B) : Int :=
  if t.p = d.p ∧ a = n then 0 else if rnc S t.p a ≠ 0 then rnc S t.p a else if c.p <+: t.p then 200 else adc (out c.p S) (sub c.p S) t.p a
theorem mvd_back {S : List En} {c : En} : (mvd S c c.p).Perm S := by
  unfold mvd
  rw [sub_ins]
  exact out_und _ _
theorem out_len {S : List En} {c : En} (hc : c ∈ S) : (out c.p S).length < S.length := by
  unfold out
  exact List.length_filter_lt_length_iff_exists.2 ⟨c, hc, by simp⟩
theorem sub_len (S : List En) (q : List B) : (sub q S).length ≤ S.length := by
  unfold sub und
  rw [List.length_map]
  exact List.length_filter_le _ _
theorem Tr.apart {lo : Nat} {w : World} {S : List En} (h : Tr lo w S) (q : List B) : (∀ x ∈ out q S, ∀ y ∈ sub q S, x.nb ≠ y.nb) ∧ (∀ x ∈ out q S, ∀ y ∈ sub q S, x.k = 1 → y.k = 1 → x.db ≠ y.db ∧ x.mb ≠ y.mb) := by
  have hne : ∀ x ∈ out q S, ∀ z ∈ S, q <+: z.p → x ≠ z := fun x hx z _ hz e => (mem_out.1 hx).2 (e ▸ hz)
  refine ⟨fun x hx y hy e => ?_, fun x hx y hy kx ky => ?_⟩
  · obtain ⟨z, hz, hp, rfl⟩ := mem_sub.1 hy
    exact hne x hx z hz hp (h.nbs x (mem_out.1 hx).1 z hz e)
  · obtain ⟨z, hz, hp, rfl⟩ := mem_sub.1 hy
    exact ⟨fun e => hne x hx z hz hp (h.dbs x (mem_out.1 hx).1 z hz kx ky (.inl e)), fun e => hne x hx z hz hp (h.dbs x (mem_out.1 hx).1 z hz kx ky (.inr e))⟩
theorem blk_parts {S : List En} {q : List B} {k : Nat} (h : blk (out q S) k ∨ blk (sub q S) k) : blk S k := by
  rcases h with ⟨e, h1, h2⟩ | ⟨e, h1, h2⟩
  · exact ⟨e, (mem_out.1 h1).1, h2⟩
  · obtain ⟨z, hz, -, rfl⟩ := mem_sub.1 h1
    exact ⟨z, hz, h2⟩
/-- It may stand where it stood. -/
theorem adc_back {lo : Nat} {w : World} {S : List En} (h : Tr lo w S) {d c : En} {n : B} (hc : c ∈ S) (hp : c.p = d.p ++ [n]) : adc (out c.p S) (sub c.p S) d.p n = 0 := by
  refine adc_of (h.nam c hc n (by rw [hp]; simp)) (fun x hx e => (mem_out.1 hx).2 (by rw [e, ← hp]; exact List.prefix_refl _)) ?_
  have hcl : c.p.length = d.p.length + 1 := by rw [hp]; simp
  rcases hgt_is (sub c.p S) [] with e | ⟨e, he, -, hl⟩
  · have := h.dep c hc
    omega
  · obtain ⟨z, hz, hpz, rfl⟩ := mem_sub.1 he
    have h1 := h.dep z hz
    have h2 : (z.rel c.p).p.length = z.p.length - c.p.length := by simp [En.rel]
    have h3 := hpz.length_le
    simp only [List.length_nil] at hl
    omega
/-- What a move leaves. -/
def MovP (lo : Nat) (S : List En) (c : En) (q : List B) (r : Int) (w : World) (e : Ending) (w' : World) : Prop :=
  e = .returned (.int .i64 r) ∧ Upd (blk S) w w' ∧ ((r = 0 ∧ Tr lo w' (mvd S c q)) ∨ (r ≠ 0 ∧ Tr lo w' S))
set_option maxRecDepth 20000 in
set_option maxHeartbeats 2000000 in
theorem tmove_any {lo : Nat} {w : World} {S : List En} (h : Tr lo w S) {d t c : En} {n : B} (hd : d ∈ S) (hdk : d.k = 1) (ht : t ∈ S) (htk : t.k = 1) (hc : c ∈ S) (hp : c.p = d.p ++ [n]) (a : B) (hS : S.length ≤ 4097) :
    Calls Tryz.prog 21 #[Pt d.nb, .string (ba n), Pt t.nb, .string (ba a)] w fun e w' => MovP lo S c (t.p ++ [a]) (mvc S d t c n a) w e w' := by
  have AKd : Aside (Kd w (Pt d.nb) 1) := by have := h.kind hd; rw [hdk] at this; exact this
  have AKt : Aside (Kd w (Pt t.nb) 1) := by have := h.kind ht; rw [htk] at this; exact this
  have AG := aside (h.get_yes hd hdk hc hp)
  have AR := aside (rn_any h ht htk a)
  obtain ⟨t1, k1, hn1⟩ := h.nd ht
  obtain ⟨t2, k2, hn2⟩ := h.nd hd
  have heq := eq_node hn1 hn2
  have hnb : t.nb = d.nb ↔ t = d := ⟨fun e => h.nbs t ht d hd e, fun e => by rw [e]⟩
  have AH := aside h
  have Ahc := aside hc
  have Aht := aside ht
  have Ahd := aside hd
  have Ahp := aside hp
  have Ahdk := aside hdk
  have Ahtk := aside htk
  have AhS := aside hS
  clear h hn1 hn2 hc ht hd hp hdk htk hS
  by_cases hsame : t.p = d.p ∧ a = n
  · obtain ⟨htd, rfl⟩ := hsame
    obtain rfl : t = d := one_p AH.out.one Aht.out Ahd.out htd
    clear htd
    have hm : mvc S t t c a a = 0 := by unfold mvc; rw [if_pos ⟨rfl, rfl⟩]
    rw [hm]
    rw [decide_eq_true rfl] at heq
    obtain ⟨fb, hfb⟩ : ∃ fb, fb = t.nb := ⟨_, rfl⟩
    obtain ⟨cb, hcb⟩ : ∃ cb, cb = c.nb := ⟨_, rfl⟩
    obtain ⟨N, hN⟩ : ∃ N, N = ba a := ⟨_, rfl⟩
    rw [← hfb] at AKd AKt AG heq
    rw [← hN, ← hcb] at AG
    rw [← hfb, ← hN]
    clear hm hfb hcb hN hnb
    go_enter Tryz.func21, Tryz.ntmps21
    go_wp2_with fail
    refine AKd.out.mono ?_
    rintro e w' ⟨rfl, rfl⟩
    go_wp2_with fail
    refine AKt.out.mono ?_
    rintro e w' ⟨rfl, rfl⟩
    go_wp2_with fail
    refine AKd.out.mono ?_
    rintro e w' ⟨rfl, rfl⟩
    go_wp2_with fail
    refine AKt.out.mono ?_
    rintro e w' ⟨rfl, rfl⟩
    go_wp2_with fail
    refine AG.out.mono ?_
    rintro e w' ⟨rfl, rfl⟩
    go_wp2_with fail
    go_ret
    exact ⟨rfl, Upd.refl _ _, .inl ⟨rfl, AH.out.perm (by rw [← Ahp.out]; exact mvd_back.symm)⟩⟩
  · obtain ⟨r, hr⟩ : ∃ r, r = rnc S t.p a := ⟨_, rfl⟩
    have hm : mvc S d t c n a = if r ≠ 0 then r else if c.p <+: t.p then 200 else adc (out c.p S) (sub c.p S) t.p a := by unfold mvc; rw [if_neg hsame, ← hr]
    rw [← hr] at AR
    obtain ⟨cd, hcd⟩ : ∃ cd, cd = mvc S d t c n a := ⟨_, rfl⟩
    rw [← hcd]
    have Acd := aside (hcd.trans hm)
    have hcase : (decide (t.nb = d.nb) = true ∧ ((ba a).toList == (ba n).toList) = false) ∨ decide (t.nb = d.nb) = false := by
      by_cases e : t = d
      · left
        refine ⟨decide_eq_true (hnb.2 e), ?_⟩
        refine beq_eq_false_iff_ne.2 fun e0 => hsame ⟨by rw [e], ?_⟩
        rw [Lib.toList_data, Lib.toList_data, ba_list, ba_list] at e0
        exact e0
      · exact .inr (decide_eq_false fun e2 => e (hnb.1 e2))
    obtain ⟨fb, hfb⟩ : ∃ fb, fb = d.nb := ⟨_, rfl⟩
    obtain ⟨tb, htb⟩ : ∃ tb, tb = t.nb := ⟨_, rfl⟩
    obtain ⟨cb, hcb⟩ : ∃ cb, cb = c.nb := ⟨_, rfl⟩
    obtain ⟨N, hN⟩ : ∃ N, N = ba n := ⟨_, rfl⟩
    obtain ⟨A, hA⟩ : ∃ A, A = ba a := ⟨_, rfl⟩
    have Afb := aside hfb
    have Atb := aside htb
    have Acb := aside hcb
    have AN := aside hN
    have AA := aside hA
    rw [← hfb] at AKd AG
    rw [← htb] at AKt
    rw [← htb, ← hA] at AR
    rw [← hN, ← hcb] at AG
    rw [← hfb, ← htb] at heq
    rw [← hfb, ← htb, ← hN, ← hA] at hcase
    rw [← hfb, ← htb, ← hN, ← hA]
    clear hm hfb htb hcb hN hA hnb hcd hr hsame
    rcases hcase with ⟨hq1, hq2⟩ | hq1 <;> rw [hq1] at heq <;> clear hq1 <;>
    · go_enter Tryz.func21, Tryz.ntmps21
      go_wp2_with fail
      refine AKd.out.mono ?_
      rintro e w' ⟨rfl, rfl⟩
      go_wp2_with fail
      refine AKt.out.mono ?_
      rintro e w' ⟨rfl, rfl⟩
      go_wp2_with fail
      refine AKd.out.mono ?_
      rintro e w' ⟨rfl, rfl⟩
      go_wp2_with fail
      refine AKt.out.mono ?_
      rintro e w' ⟨rfl, rfl⟩
      go_wp2_with fail
      refine AG.out.mono ?_
      rintro e w' ⟨rfl, rfl⟩
      go_wp2_with fail
      refine AR.out.mono ?_
      rintro e w1 ⟨rfl, hb1⟩
      have AB1 := aside hb1
      clear hb1 AR AG AKd AKt
      by_cases hr0 : r = 0
      · subst hr0
        have AW := aside (twithin_any (AH.out.below AB1.out) Aht.out Ahc.out)
        rw [← Atb.out, ← Acb.out] at AW
        have Acd1 := aside (Acd.out)
        simp only [ne_eq, not_true_eq_false, ↓reduceIte] at Acd1
        clear Acd
        go_wp2_with fail
        refine AW.out.mono ?_
        rintro e w2 ⟨rfl, hb2⟩
        have AB2 := aside (below_tr AB1.out hb2)
        clear hb2 AW AB1
        by_cases hw : c.p <+: t.p
        · rw [decide_eq_true hw]
          have Acd2 := aside (Acd1.out.trans (if_pos hw))
          clear Acd1
          go_wp2_with fail
          go_ret
          rw [Acd2.out]
          exact ⟨rfl, Upd.of_below AB2.out, .inr ⟨by decide, AH.out.below AB2.out⟩⟩
        · rw [decide_eq_false hw]
          have Acd2 := aside (Acd1.out.trans (if_neg hw))
          have Ahw := aside hw
          clear Acd1 hw
          have AT := aside (tr_take (AH.out.below AB2.out) Ahd.out Ahdk.out Ahc.out Ahp.out)
          rw [← Afb.out, ← Acb.out, ← AN.out] at AT
          go_wp2_with fail
          refine AT.out.mono ?_
          rintro e w3 ⟨rfl, hR, hF, hu⟩
          obtain ⟨ap1, ap2⟩ := AH.out.apart c.p
          have hl1 := out_len Ahc.out
          have hl2 := sub_len S c.p
          have hl3 := AhS.out
          have htR : t ∈ out c.p S := mem_out.2 ⟨Aht.out, Ahw.out⟩
          have hdR : d ∈ out c.p S := mem_out.2 ⟨Ahd.out, fun e => by have := e.length_le; rw [Ahp.out, List.length_append, List.length_singleton] at this; omega⟩
          have AU3 := aside ((Upd.of_below (F := blk S) AB2.out).trans hu (fun j _ hj => hj))
          have AA3 := aside (tr_add hR hF htR Ahtk.out a (by omega) (by omega) ap1 ap2)
          rw [← Atb.out, ← AA.out, show (c.rel c.p).nb = c.nb from rfl, ← Acb.out] at AA3
          have AF3 := aside hF
          have AR3 := aside hR
          have AtR := aside htR
          have AdR := aside hdR
          have Aap := aside (And.intro ap1 ap2)
          have Al := aside (And.intro hl1 (And.intro hl2 hl3))
          rw [← Acd2.out] at AA3
          clear hR hF hu ap1 ap2 hl1 hl2 hl3 htR hdR AT
          go_wp2_with fail
          refine AA3.out.mono ?_
          rintro e w4 ⟨rfl, h4⟩
          have A4 := aside h4
          clear AA3 h4
          by_cases hcd0 : cd = 0
          · subst hcd0
            go_wp2_with fail
            go_ret
            rcases A4.out with ⟨-, hT4, hu4⟩ | ⟨h40, -⟩
            · exact ⟨rfl, AU3.out.trans hu4 (fun j _ hj => blk_parts hj), .inl ⟨rfl, hT4⟩⟩
            · exact absurd rfl h40
          · have hcb0 : (cd == 0) = false := beq_eq_false_iff_ne.2 hcd0
            have hb4 : Below w3.heap.size w3 w4 := by
              rcases A4.out with ⟨h40, -⟩ | ⟨-, hb⟩
              · exact absurd h40 hcd0
              · exact hb
            have hz := adc_back AH.out Ahc.out Ahp.out
            have AA5 := aside (tr_add (AR3.out.below hb4) (AF3.out.below hb4) AdR.out Ahdk.out n (by have := Al.out; omega) (by have := Al.out; omega) Aap.out.1 Aap.out.2)
            rw [← Afb.out, ← AN.out, show (c.rel c.p).nb = c.nb from rfl, ← Acb.out, hz] at AA5
            have AB4 := aside hb4
            clear hb4 hz
            go_wp2_with fail
            refine AA5.out.mono ?_
            rintro e w5 ⟨rfl, h5⟩
            have A5 := aside h5
            clear AA5 h5
            go_wp2_with fail
            go_ret
            rcases A5.out with ⟨-, hT5, hu5⟩ | ⟨h50, -⟩
            · refine ⟨rfl, (AU3.out.trans (Upd.of_below (F := blk S) AB4.out) (fun j _ hj => hj)).trans hu5 (fun j _ hj => blk_parts hj), .inr ⟨hcd0, hT5.perm ?_⟩⟩
              rw [← Ahp.out]
              exact mvd_back
            · exact absurd rfl h50
      · have hrb : (r == 0) = false := beq_eq_false_iff_ne.2 hr0
        have Acd2 := aside (Acd.out.trans (if_pos hr0))
        clear Acd
        go_wp2_with fail
        go_ret
        rw [Acd2.out]
        exact ⟨rfl, Upd.of_below AB1.out, .inr ⟨hr0, AH.out.below AB1.out⟩⟩
end Go.Proofs.YtbnaegoahdcejaaGreatDoor

namespace Go.Proofs.YtbnaegoahdcejaaGreatDoor
open Go.RowKit Go.ChangeMaps

abbrev stl (l : List B) : List Value := l.map fun n => Value.string (ba n)
theorem st_cell (W : World) (x : ByteArray) : ∀ j u, [Value.string x][j]? = some u → (W.alloc (.cells #[.string x] 9)).cell? ((⟨W.heap.size, 0, none⟩ : Addr).add j) = some u := fun j u hj => by
  rw [Addr.add_lit, Nat.zero_add, cell_of_row _ _ j _ _ _ (heap_alloc_new W _)]
  simpa using hj
theorem st_one (x : ByteArray) : ∀ u ∈ [Value.string x], u.oneCell' = true := by
  intro u hm
  rw [List.mem_singleton.1 hm]; rfl
/-- Names that were found so far. -/
structure Nl (W wx : World) (zs : List B) (v : Value) : Prop where
  bel : Below W.heap.size W wx
  row : wx.ownsRow 0 9 1 v zs.length (stl zs)
  rb : ∀ b, v.ownBlock = some b → W.heap.size ≤ b
theorem Nl.below {W wx wy : World} {zs : List B} {v : Value} (h : Nl W wx zs v) (b : Below wx.heap.size wx wy) : Nl W wy zs v := ⟨h.bel.trans (b.mono h.bel.size), row_below h.row b, h.rb⟩
theorem nl_app {W wx w7 : World} {zs : List B} {x : B} {v v' : Value} {o : Obj} (h : Nl W wx zs v) (ho : w7.ownsRow 0 9 1 v' (zs.length + 1) (stl zs ++ [.string (ba x)])) (hg : (wx.alloc o).grownBy w7 v.ownBlock)
    (hwh : (v'.ownBlock = v.ownBlock ∧ ∃ g, v.ownBlock = some g) ∨ (v'.ownBlock = some (wx.alloc o).heap.size ∧ Below (wx.alloc o).heap.size (wx.alloc o) w7)) : Nl W w7 (zs ++ [x]) v' := by
  have hs := h.bel.size
  refine ⟨?_, ?_, fun b hv => ?_⟩
  · exact (h.bel.trans ((below_al wx o).mono hs)).trans ((Upd.of_grown hg (F := fun k => v.ownBlock = some k) (fun k hk => hk)).below (by rw [World.size_alloc]; omega) (fun k hk => h.rb k hk))
  · have : stl (zs ++ [x]) = stl zs ++ [.string (ba x)] := by simp
    rw [this, List.length_append]
    exact ho
  · rcases hwh with ⟨e, -⟩ | ⟨e, -⟩
    · exact h.rb b (e ▸ hv)
    · rw [e] at hv
      injection hv with hv
      rw [World.size_alloc] at hv
      omega
/-- How far Names has come. -/
structure Nmi (s : B) (zs : List B) (fr i : Nat) : Prop where
  le : i ≤ s.length + 1
  on : i ≤ s.length → fr ≤ i ∧ spl s = zs ++ spl (s.drop fr) ∧ (47 : UInt8) ∉ (s.drop fr).take (i - fr)
  off : i = s.length + 1 → spl s = zs
theorem Nmi.few {s : B} {zs : List B} {fr i : Nat} (h : Nmi s zs fr i) (hi : i ≤ s.length) : zs.length < s.length + 1 := by
  obtain ⟨-, h2, -⟩ := h.on hi
  have h3 := spl_len s
  have h4 := List.count_le_length (a := (47 : UInt8)) (l := s)
  have h5 := List.length_pos_iff.2 (spl_ne (s.drop fr))
  rw [h2, List.length_append] at h3
  omega
theorem take_more {s : B} {fr i : Nat} {c : UInt8} (hf : fr ≤ i) (hi : s[i]? = some c) : (s.drop fr).take (i + 1 - fr) = (s.drop fr).take (i - fr) ++ [c] := by
  rw [show i + 1 - fr = (i - fr) + 1 by omega, List.take_add_one, List.getElem?_drop, show fr + (i - fr) = i by omega, hi]
  rfl
theorem Nmi.cut {s : B} {zs : List B} {fr i : Nat} (h : Nmi s zs fr i) (hi : s[i]? = some 47) : Nmi s (zs ++ [(s.drop fr).take (i - fr)]) (i + 1) (i + 1) := by
  have hil := (List.getElem?_eq_some_iff.1 hi).1
  obtain ⟨h1, h2, h3⟩ := h.on (by omega)
  refine ⟨by omega, fun _ => ⟨Nat.le_refl _, ?_, by simp⟩, fun e => by omega⟩
  have h4 : s.drop fr = (s.drop fr).take (i - fr) ++ 47 :: s.drop (i + 1) := by
    conv => lhs; rw [← List.take_append_drop (i - fr) (s.drop fr)]
    rw [List.drop_drop, show fr + (i - fr) = i by omega, List.drop_eq_getElem_cons hil]
    rw [(List.getElem?_eq_some_iff.1 hi).2]
  rw [h2]
  conv => lhs; rw [h4]
  rw [spl_cut _ h3, List.append_assoc]
  rfl
theorem Nmi.step {s : B} {zs : List B} {fr i : Nat} {c : UInt8} (h : Nmi s zs fr i) (hi : s[i]? = some c) (hc : c ≠ 47) : Nmi s zs fr (i + 1) := by
  have hil := (List.getElem?_eq_some_iff.1 hi).1
  obtain ⟨h1, h2, h3⟩ := h.on (by omega)
  refine ⟨by omega, fun _ => ⟨by omega, h2, ?_⟩, fun e => by omega⟩
  rw [take_more h1 hi]
  intro hm
  rcases List.mem_append.1 hm with hm | hm
  · exact h3 hm
  · exact hc (List.mem_singleton.1 hm).symm
theorem Nmi.last {s : B} {zs : List B} {fr : Nat} (h : Nmi s zs fr s.length) : Nmi s (zs ++ [(s.drop fr).take (s.length - fr)]) (s.length + 1) (s.length + 1) := by
  obtain ⟨h1, h2, h3⟩ := h.on (Nat.le_refl _)
  refine ⟨Nat.le_refl _, fun e => by omega, fun _ => ?_⟩
  have h4 : (s.drop fr).take (s.length - fr) = s.drop fr := List.take_of_length_le (by rw [List.length_drop]; exact Nat.le_refl _)
  rw [h4] at h3 ⊢
  rw [h2, spl_plain h3]
theorem extract_list (s : B) (fr i : Nat) (_h : fr ≤ i) : (ba s).extract fr i = ba ((s.drop fr).take (i - fr)) := by
  rw [← ba_of ((ba s).extract fr i)]
  congr 1
  rw [ByteArray.data_extract, Array.toList_extract, ba_list]
set_option maxRecDepth 20000 in
set_option maxHeartbeats 4000000 in
theorem names_any (s : B) (w : World) (hs : s.length ≤ 1000000000) : Calls Tryz.prog 35 #[.string (ba s)] w fun e w' => ∃ a c, e = .returned (.slice a (spl s).length c) ∧ Nl w w' (spl s) (.slice a (spl s).length c) := by
  obtain ⟨S, hS⟩ : ∃ S, S = ba s := ⟨_, rfl⟩
  have hsz : S.size = s.length := by rw [hS, ba_size]
  have AS := aside hS
  obtain ⟨n, hn⟩ : ∃ n, n = s.length := ⟨_, rfl⟩
  have AN := aside hn
  rw [← hn] at hsz
  rw [← hS]
  have hnl : n ≤ 1000000000 := by rw [hn]; exact hs
  have A0 : Aside (Nmi s [] 0 0) := ⟨by omega, fun _ => ⟨Nat.le_refl _, by simp, by simp⟩, fun e => by omega⟩
  clear hS hn
  go_enter Tryz.func35, Tryz.ntmps35
  go_wp2_with fail
  go_loopg [3, 4, 5] (n + 1) (fun g s3 s4 s5 wx => ∃ (zs : List B) (fr i k : Nat) (a : Option Addr) (c : Nat), i + g = n + 1 ∧ k = zs.length ∧ fr ≤ n + 1 ∧ s5 = .int .i64 (i : Int) ∧ s4 = .int .i64 (fr : Int) ∧ s3 = .slice a k c ∧ Nl w wx zs (.slice a k c) ∧ Nmi s zs fr i)
  case atStart => exact ⟨[], 0, 0, 0, none, 0, by omega, rfl, by omega, rfl, rfl, rfl, ⟨Below.refl _ _, World.ownsRow_nil _ _ _ _, fun b hb => by simp [Value.ownBlock] at hb⟩, A0.out⟩
  case round =>
    obtain ⟨zs, fr, i, k, a, c, hig, hk, hfr, rfl, rfl, rfl, hN, hM⟩ := hrel
    have ANl := aside hN
    have ANi := aside hM
    have AK := aside hk
    clear hN hM A0 hk
    cases gk with
    | zero =>
      obtain rfl : i = n + 1 := by omega
      have hi : ¬ (((n + 1 : Nat) : Int) ≤ (n : Int)) := by omega
      go_wp2_with fail
      go_ret
      have hz := ANi.out.off (by rw [AN.out])
      exact ⟨a, c, by rw [hz, ← AK.out]; rfl, by rw [hz, ← AK.out]; exact ANl.out⟩
    | succ gk =>
      have hi : ((i : Int) ≤ (n : Int)) := by omega
      have hin : i ≤ s.length := by have := AN.out; omega
      have hfi := (ANi.out.on hin).1
      have hkn : k ≤ n := by rw [AK.out]; have := ANi.out.few hin; have := AN.out; omega
      have hwi : IntKind.i64.wrap ((i : Int) + 1) = ((i + 1 : Nat) : Int) := by rw [wrap_small _ (by omega) (by omega)]; simp
      have H63 : Aside (k + 1 ≤ maxLen) := by show k + 1 ≤ maxLen; unfold maxLen; omega
      have hby : (k + 1) * 16 ≤ 140737488355328 := by omega
      have ARb : Aside (∀ o1, (wr.alloc o1).ownsRow 0 9 1 (.slice a k c) k (stl zs)) := fun o1 => by
        have := row_below ANl.out.row (below_al _ o1)
        rwa [← AK.out] at this
      have hex := extract_list s fr i hfi
      rw [← AS.out] at hex
      have Aex := aside hex
      have h1 : (0 : Int) ≤ (fr : Int) := by omega
      have h2 : (fr : Int) ≤ (i : Int) := by omega
      have h3 : (i : Int) ≤ (S.size : Int) := by omega
      clear hex
      by_cases hl : i = n
      · subst hl
        have hle : ((i : Int) == (i : Int)) = true := beq_self_eq_true _
        go_wp2_with (at_builtin; refine M.wpList_append_where _ rfl _ _ 69 rfl 9 (.string ByteArray.empty) 1 16 Tryz.underlying69 infoS rfl (by decide) (.slice a k c) k (stl zs) rfl (ARb.out _) _ 1 _ [.string (S.extract fr i)] rfl rfl (st_cell wr _) (st_one _) H63.out hby (by decide) ?_; intro v' w7 ho hg hwh; obtain ⟨a9, c9, rfl, -⟩ := own_slice ho; rw [Aex.out] at ho; have A1 := aside (nl_app (x := (s.drop fr).take (i - fr)) ANl.out (by rw [← AK.out]; exact ho) hg hwh); clear ho hg hwh)
        go_roundg gk
        case measure => omega
        case rel =>
          have h4 := ANi.out
          rw [AN.out] at h4
          exact ⟨_, i + 1, i + 1, k + 1, a9, c9, by omega, by rw [List.length_append, AK.out]; rfl, by omega, by first | rfl | simp, by first | rfl | simp, rfl, A1.out, by have := h4.last; rw [← AN.out] at this; exact this⟩
      · have hle : ((i : Int) == (n : Int)) = false := beq_eq_false_iff_ne.2 (by omega)
        have hi1 : i < S.size := by omega
        have hi2 : (i : Int) < (S.size : Int) := by omega
        have hil : i < s.length := by have := AN.out; omega
        have hSi : S[i]'hi1 = s[i]'hil := by
          have := AS.out
          subst this
          rfl
        have hg47 : s[i]? = some (s[i]'hil) := List.getElem?_eq_getElem hil
        by_cases hb : s[i]'hil = 47
        · have hc : (((S[i]'hi1).toNat : Int) == 47) = true := by rw [hSi, hb]; rfl
          have Acut := aside (ANi.out.cut (by rw [hg47, hb]))
          clear hb hSi hg47
          go_wp2_with (at_builtin; refine M.wpList_append_where _ rfl _ _ 69 rfl 9 (.string ByteArray.empty) 1 16 Tryz.underlying69 infoS rfl (by decide) (.slice a k c) k (stl zs) rfl (ARb.out _) _ 1 _ [.string (S.extract fr i)] rfl rfl (st_cell wr _) (st_one _) H63.out hby (by decide) ?_; intro v' w7 ho hg hwh; obtain ⟨a9, c9, rfl, -⟩ := own_slice ho; rw [Aex.out] at ho; have A1 := aside (nl_app (x := (s.drop fr).take (i - fr)) ANl.out (by rw [← AK.out]; exact ho) hg hwh); clear ho hg hwh)
          go_roundg gk
          case measure => omega
          case rel => exact ⟨_, i + 1, i + 1, k + 1, a9, c9, by omega, by rw [List.length_append, AK.out]; rfl, by omega, by first | rfl | simp, by first | rfl | simp, rfl, A1.out, Acut.out⟩
        · have hc : (((S[i]'hi1).toNat : Int) == 47) = false := by
            rw [hSi]
            refine beq_eq_false_iff_ne.2 fun e => hb ?_
            apply UInt8.toNat_inj.1
            have : (s[i]'hil).toNat = 47 := by omega
            rw [this]; rfl
          have Ast := aside (ANi.out.step hg47 hb)
          clear hb hSi hg47
          go_wp2_with fail
          go_roundg gk
          case measure => omega
          case rel => exact ⟨zs, fr, i + 1, k, a, c, by omega, AK.out, by omega, by first | rfl | simp, rfl, rfl, ANl.out, Ast.out⟩
end Go.Proofs.YtbnaegoahdcejaaGreatDoor

namespace Go.Proofs.YtbnaegoahdcejaaGreatDoor
open Go.RowKit Go.ChangeMaps

theorem Nl.at {W wx : World} {zs : List B} {a : Option Addr} {n c i : Nat} {z : B} (h : Nl W wx zs (.slice a n c)) (hi : zs[i]? = some z) : ∃ g, a = some ⟨g, 0, none⟩ ∧ wx.cell? ⟨g, i, none⟩ = some (.string (ba z)) := by
  rcases h.row.2 with ⟨-, h0⟩ | ⟨g, cap, cur, e, -⟩
  · rw [List.eq_nil_of_length_eq_zero h0] at hi
    simp at hi
  · injection e with e1 e2 e3
    refine ⟨g, e1, ?_⟩
    have := h.row.cells (g := g) (by rw [e1]; rfl) i (.string (ba z)) (by rw [List.getElem?_map, hi]; rfl)
    simpa [Addr.add_lit] using this
/-- A path's last name. -/
def lst (s : B) : B := (spl s).getLast (spl_ne s)
theorem spl_lst (s : B) : spl s = (spl s).dropLast ++ [lst s] := (List.dropLast_concat_getLast (spl_ne s)).symm
set_option maxRecDepth 20000 in
set_option maxHeartbeats 1000000 in
theorem last_any (s : B) (w : World) (hs : s.length ≤ 1000000000) : Calls Tryz.prog 27 #[.string (ba s)] w fun e w' => e = .returned (.string (ba (lst s))) ∧ Below w.heap.size w w' := by
  have AN := aside (names_any s w hs)
  obtain ⟨m, hm⟩ : ∃ m, (spl s).length = m + 1 := ⟨(spl s).length - 1, by have := List.length_pos_iff.2 (spl_ne s); omega⟩
  have hml : m ≤ 1000000000 := by have := spl_len s; have := List.count_le_length (a := (47 : UInt8)) (l := s); omega
  have hg : (spl s)[m]? = some (lst s) := by
    unfold lst
    rw [List.getLast_eq_getElem, List.getElem?_eq_getElem (by omega)]
    simp [hm]
  rw [hm] at AN
  have hsub : IntKind.i64.wrap (((m + 1 : Nat) : Int) - 1) = (m : Int) := by rw [wrap_in _ (by omega) (by omega)]; omega
  have Ag := aside hg
  obtain ⟨N, hN⟩ : ∃ N, N = ba s := ⟨_, rfl⟩
  rw [← hN] at AN ⊢
  obtain ⟨l, hl⟩ : ∃ l, l = spl s := ⟨_, rfl⟩
  obtain ⟨z, hz⟩ : ∃ z, z = lst s := ⟨_, rfl⟩
  rw [← hl] at AN
  rw [← hl, ← hz] at Ag
  rw [← hz]
  clear hg hm hN hl hz
  go_enter Tryz.func27, Tryz.ntmps27
  go_wp2_with fail
  refine AN.out.mono ?_
  rintro e w1 ⟨a, c, rfl, hNl⟩
  obtain ⟨g, rfl, hc⟩ := hNl.at Ag.out
  have hb := aside hNl.bel
  have h1 : (0 : Int) ≤ (m : Int) := by omega
  have h2 : (m : Int) < ((m + 1 : Nat) : Int) := by omega
  clear hNl AN
  go_wp2_with fail
  go_ret
  exact ⟨rfl, hb.out⟩
set_option maxRecDepth 20000 in
set_option maxHeartbeats 2000000 in
theorem at_any {lo : Nat} {w : World} {S : List En} (h : Tr lo w S) {r e : En} (hr : r ∈ S) (hrp : r.p = []) (he : e ∈ S) (s : B) (hs : s.length ≤ 1000000000) (hse : (s = [] ∧ e = r) ∨ (s ≠ [] ∧ e.p = spl s)) :
    Calls Tryz.prog 26 #[Pt r.nb, .string (ba s)] w fun v w' => v = .returned (Pt e.nb) ∧ Below w.heap.size w w' := by
  have AN := aside (names_any s w hs)
  have hk := spl_len s
  have hkc := List.count_le_length (a := (47 : UInt8)) (l := s)
  obtain ⟨k, hkk⟩ : ∃ k, k = (spl s).length := ⟨_, rfl⟩
  rw [← hkk] at AN
  have hk1 : k ≤ 1000000001 := by omega
  have hk0 : 0 < k := by omega
  have Akk := aside hkk
  have AH := aside h
  have Ar := aside hr
  have Arp := aside hrp
  have Ae := aside he
  obtain ⟨N, hN⟩ : ∃ N, N = ba s := ⟨_, rfl⟩
  rw [← hN] at AN ⊢
  obtain ⟨nb, hnb⟩ : ∃ nb, nb = r.nb := ⟨_, rfl⟩
  have Anb := aside hnb
  rw [← hnb]
  rcases hse with ⟨hs0, rfl⟩ | ⟨hs0, hep⟩
  · have hN0 : N = ⟨#[]⟩ := by rw [hN, hs0]; rfl
    subst hN0
    clear h hr hrp he hk hkc hkk hN hnb
    go_enter Tryz.func26, Tryz.ntmps26
    go_wp2_with fail
    refine AN.out.mono ?_
    rintro v w1 ⟨a, c, rfl, hNl⟩
    have hb := aside hNl.bel
    clear hNl AN
    go_wp2_with fail
    go_loopg [0, 6] 0 (fun g s0 s6 wx => g = 0 ∧ s6 = .int .i64 0 ∧ s0 = Pt nb ∧ wx = w1)
    case atStart => exact ⟨rfl, rfl, rfl, rfl⟩
    case round =>
      obtain ⟨-, rfl, rfl, rfl⟩ := hrel
      have h0 : ((0 : Int) < (k : Int)) := by omega
      go_wp2_with fail
      go_ret
      exact ⟨by rw [← Anb.out]; rfl, hb.out⟩
  · have hNe : (N.toList == []) = false := by
      rw [hN, Lib.toList_data, ba_list]
      exact beq_eq_false_iff_ne.2 hs0
    have Aep := aside hep
    clear h hr hrp he hk hkc hkk hN hnb hep
    go_enter Tryz.func26, Tryz.ntmps26
    go_wp2_with fail
    refine AN.out.mono ?_
    rintro v w1 ⟨a, c, rfl, hNl⟩
    have hb := aside hNl
    clear hNl AN
    go_wp2_with fail
    go_loopg [0, 6] k (fun g s0 s6 wx => ∃ (i : Nat) (x : En), i + g = k ∧ s6 = .int .i64 (i : Int) ∧ x ∈ S ∧ x.p = (spl s).take i ∧ s0 = Pt x.nb ∧ wx = w1)
    case atStart => exact ⟨0, r, by omega, rfl, Ar.out, by rw [Arp.out]; rfl, by rw [← Anb.out], rfl⟩
    case round =>
      obtain ⟨i, x, hig, rfl, hx, hxp, rfl, rfl⟩ := hrel
      have Ax := aside hx
      have Axp := aside hxp
      clear hx hxp
      obtain ⟨m, hm⟩ : ∃ m, m = x.nb := ⟨_, rfl⟩
      have Am := aside hm
      rw [← hm]
      clear hm
      cases gk with
      | zero =>
        obtain rfl : i = k := by omega
        have h0 : ¬ ((i : Int) < (i : Int)) := by omega
        go_wp2_with fail
        go_ret
        refine ⟨?_, hb.out.bel⟩
        have : x = e := one_p AH.out.one Ax.out Ae.out (by rw [Axp.out, Aep.out, Akk.out, List.take_length])
        rw [← this, ← Am.out]; rfl
      | succ gk =>
        have h0 : ((i : Int) < (k : Int)) := by omega
        have hil : i < (spl s).length := by rw [← Akk.out]; omega
        obtain ⟨g, hg, hc⟩ := hb.out.at (List.getElem?_eq_getElem hil)
        subst hg
        obtain ⟨y, hy, hyp, hyk⟩ := AH.out.anc (p := (spl s).take (i + 1)) (e.p.length - (i + 1)) e Ae.out (by rw [Aep.out, List.length_take]; omega) (by rw [Aep.out]; exact List.take_prefix _ _)
        have hyx : y.p = x.p ++ [(spl s)[i]] := by rw [hyp, Axp.out, List.take_add_one, List.getElem?_eq_getElem hil]; rfl
        have hxk : x.k = 1 := by
          obtain ⟨d, hd, hdp, hdk⟩ := AH.out.par y hy (by rw [hyx]; simp)
          rw [hyx, List.dropLast_concat] at hdp
          rw [← one_p AH.out.one hd Ax.out hdp]; exact hdk
        have AG := aside ((AH.out.below hb.out.bel).get_yes Ax.out hxk hy hyx)
        rw [← Am.out] at AG
        have Ay := aside (And.intro hy hyp)
        obtain ⟨Z, hZ⟩ : ∃ Z, Z = ba (spl s)[i] := ⟨_, rfl⟩
        rw [← hZ] at AG hc
        have h1 : (0 : Int) ≤ (i : Int) := by omega
        have hwi : IntKind.i64.wrap ((i : Int) + 1) = ((i + 1 : Nat) : Int) := by rw [wrap_small _ (by omega) (by omega)]; simp
        clear hy hyp hyx hyk hxk hZ hil
        go_wp2_with fail
        refine AG.out.mono ?_
        rintro v w2 ⟨rfl, rfl⟩
        go_wp2_with fail
        go_roundg gk
        case measure => omega
        case rel => exact ⟨i + 1, y, by omega, by first | rfl | simp, Ay.out.1, Ay.out.2, rfl, rfl⟩
end Go.Proofs.YtbnaegoahdcejaaGreatDoor

namespace Go.Proofs.YtbnaegoahdcejaaGreatDoor
open Go.RowKit Go.ChangeMaps

theorem ahd_app (u v : List B) : ahd (u ++ v) = ahd u ++ ahd v := by simp [ahd, List.flatMap_append]
/-- What stands behind a path. -/
def tail (v : List B) : B := if v = [] then [] else 47 :: pth v
theorem pth_app {u v : List B} (hu : u ≠ []) : pth (u ++ v) = pth u ++ tail v := by
  unfold tail
  by_cases hv : v = []
  · rw [if_pos hv, hv, List.append_nil, List.append_nil]
  · rw [if_neg hv]
    have h1 : ahd v ≠ [] := by
      rw [ahd_pth hv]; simp
    rw [pth, ahd_app, List.dropLast_append_of_ne_nil h1, ahd_pth hu, pth]
    simp [pth]
/-- Is p at x or below? As the statement asks it. -/
theorem pre_iff (x p : B) : spl x <+: spl p ↔ p = x ∨ p.take (x.length + 1) = x ++ [47] := by
  constructor
  · rintro ⟨v, hv⟩
    have h1 : p = x ++ tail v := by rw [← pth_spl p, ← hv, pth_app (spl_ne x), pth_spl]
    unfold tail at h1
    by_cases h : v = []
    · left; rw [if_pos h, List.append_nil] at h1; exact h1
    · right
      rw [if_neg h] at h1
      rw [h1, show x ++ 47 :: pth v = (x ++ [47]) ++ pth v by simp, List.take_left' (by simp)]
  · rintro (rfl | h)
    · exact List.prefix_refl _
    · have h1 : p = x ++ [47] ++ p.drop (x.length + 1) := by rw [← h, List.take_append_drop]
      have h2 : x ++ [47] = ahd (spl x) := by rw [ahd_pth (spl_ne x), pth_spl]
      rw [h1, h2, spl_ahd _ (spl_nostroke x)]
      exact List.prefix_append _ _
/-- A path behind the move. -/
def rnm (x y a p : B) : B := if spl x <+: spl p then y ++ 47 :: (a ++ p.drop x.length) else p
def rni (x y a : B) (i : It) : It := (ba (rnm x y a i.1.data.toList), i.2)
theorem rnm_entry {x y a : B} {v : List B} : pth ((spl y ++ [a]) ++ v) = rnm x y a (pth (spl x ++ v)) ∨ (nostroke v → False) := by
  by_cases hn : nostroke v
  · left
    have h1 : spl (pth (spl x ++ v)) = spl x ++ v := spl_pth (fun n hm => by
      rcases List.mem_append.1 hm with hm | hm
      · exact spl_nostroke x n hm
      · exact hn n hm) (by simp [spl_ne])
    unfold rnm
    rw [h1, if_pos (List.prefix_append _ _), pth_app (by simp), pth_app (spl_ne x), pth_spl, pth_snoc, ahd_pth (spl_ne y), pth_spl, List.drop_left]
    simp
  · exact .inr hn
theorem itOf_rni {lo : Nat} {w : World} {S : List En} (h : Tr lo w S) {c e : En} {x y a : B} (hc : c.p = spl x) (he : e ∈ S) (h0 : e.p ≠ []) :
    (c.p <+: e.p → itOf 0 ((e.rel c.p).ins (spl y ++ [a])) = rni x y a (itOf 0 e)) ∧ (¬ c.p <+: e.p → itOf 0 e = rni x y a (itOf 0 e)) := by
  refine ⟨fun hp => ?_, fun hp => ?_⟩
  · have h1 := rel_p hp
    have h2 : nostroke (e.rel c.p).p := fun n hn => h.nostroke he n (List.mem_of_mem_drop hn)
    unfold itOf rni
    refine Prod.ext ?_ rfl
    show ba (pth (((spl y ++ [a]) ++ (e.rel c.p).p).drop 0)) = ba (rnm x y a (ba (pth (e.p.drop 0))).data.toList)
    rw [List.drop_zero, List.drop_zero, ba_list, ← h1, hc]
    rcases rnm_entry (x := x) (y := y) (a := a) (v := (e.rel c.p).p) with e1 | e1
    · rw [hc] at e1; rw [e1]
    · exact absurd h2 e1
  · unfold itOf rni
    refine Prod.ext ?_ rfl
    show ba (pth (e.p.drop 0)) = ba (rnm x y a (ba (pth (e.p.drop 0))).data.toList)
    rw [List.drop_zero, ba_list]
    unfold rnm
    rw [spl_pth (h.nostroke he) h0, ← hc, if_neg hp]
theorem moved_its {lo : Nat} {w : World} {S : List En} (h : Tr lo w S) {c : En} {x y a : B} (hc : c.p = spl x) :
    (((mvd S c (spl y ++ [a])).filter fun e => decide (e.p ≠ [])).map (itOf 0)).Perm (((S.filter fun e => decide (e.p ≠ [])).map (itOf 0)).map (rni x y a)) := by
  have hu : (und c.p S).filter (fun e => decide (e.p ≠ [])) = und c.p S := List.filter_eq_self.2 fun e he => by
    have := (mem_und.1 he).2
    refine decide_eq_true fun e0 => ?_
    rw [e0, hc] at this
    exact spl_ne x (List.prefix_nil.1 this)
  have hs : ((sub c.p S).map (En.ins (spl y ++ [a]))).filter (fun e => decide (e.p ≠ [])) = (sub c.p S).map (En.ins (spl y ++ [a])) := List.filter_eq_self.2 fun e he => by
    obtain ⟨z, -, rfl⟩ := List.mem_map.1 he
    exact decide_eq_true (by show (spl y ++ [a]) ++ z.p ≠ []; simp)
  have h1 : (S.filter fun e => decide (e.p ≠ [])).Perm (((out c.p S).filter fun e => decide (e.p ≠ [])) ++ und c.p S) := by
    have := (out_und c.p S).symm.filter (fun e => decide (e.p ≠ []))
    rw [List.filter_append, hu] at this
    exact this
  refine List.Perm.trans (List.Perm.of_eq ?_) ((h1.map (itOf 0)).map (rni x y a)).symm
  unfold mvd
  rw [List.filter_append, hs, List.map_append, List.map_append, List.map_append]
  congr 1
  · rw [List.map_map]
    refine List.map_congr_left fun e he => ?_
    obtain ⟨h2, h3⟩ := List.mem_filter.1 he
    exact (itOf_rni h hc (mem_out.1 h2).1 (of_decide_eq_true h3)).2 (mem_out.1 h2).2
  · unfold sub
    rw [List.map_map, List.map_map, List.map_map]
    refine List.map_congr_left fun e he => ?_
    obtain ⟨h2, h3⟩ := mem_und.1 he
    exact (itOf_rni h hc h2 (fun e0 => by rw [e0, hc] at h3; exact spl_ne x (List.prefix_nil.1 h3))).1 h3
theorem byt_mvd (S : List En) (c : En) (q : List B) : byt (mvd S c q) = byt S := by
  unfold byt mvd
  have h1 : ((out c.p S ++ und c.p S).map used).sum = (S.map used).sum := ((out_und c.p S).map used).sum_nat
  rw [← h1, List.map_append, List.map_append]
  congr 2
  unfold sub
  rw [List.map_map, List.map_map]
  exact List.map_congr_left fun e _ => rfl
theorem len_mvd (S : List En) (c : En) (q : List B) : (mvd S c q).length = S.length := by
  have := (out_und c.p S).length_eq
  unfold mvd sub
  simp only [List.length_append, List.length_map] at this ⊢
  exact this
theorem icode_long {q : Nat} : ∀ {D : List En} {k r : Nat}, D.length + k ≤ 4096 → (D.map used).sum ≤ r → (∃ x ∈ D, 4096 < (pth (x.p.drop q)).length) → icode q D k r = 3
  | [], k, r, _, _, h => by obtain ⟨x, hx, -⟩ := h; simp at hx
  | x :: D, k, r, h1, h3, h => by
    simp only [List.length_cons, List.map_cons, List.sum_cons] at h1 h3
    have hb : ¬ (x.k = 0 ∧ r < x.x.length) := by
      rintro ⟨e1, e2⟩
      unfold used at h3
      rw [if_pos e1] at h3
      omega
    unfold icode
    by_cases hx : 4096 < (pth (x.p.drop q)).length
    · have hv : vcode q k x r = 3 := by unfold vcode; rw [if_neg (by omega), if_pos hx]
      rw [hv, if_neg (by decide)]
    · have hv : vcode q k x r = 0 := by unfold vcode; rw [if_neg (by omega), if_neg hx, if_neg hb]
      rw [if_pos hv]
      obtain ⟨y, hy, hl⟩ := h
      rcases List.mem_cons.1 hy with rfl | hy
      · exact absurd hl hx
      · exact icode_long (by omega) (by omega) ⟨y, hy, hl⟩
/-- Items of a tree by its entries in any order. -/
theorem items_of {lo : Nat} {w : World} {X : List En} (h : Tr lo w X) {r : En} (hrp : r.p = []) {its : List It} (hp : ((X.filter fun e => decide (e.p ≠ [])).map (itOf 0)).Perm its) (hl : its.length ≤ 4096) (hb : byt X ≤ 4194304) :
    ((∀ i ∈ its, i.1.size ≤ 4096) → icd X r = 0 ∧ itm X r = srt ikey its ∧ (its.map ikey).Nodup) ∧ ((∃ i ∈ its, 4096 < i.1.size) → icd X r = 3) := by
  have hr := h.below_root
  have hm := (hr.map (itOf 0)).trans hp
  have hk := h.keys (d := r) 65
  rw [hrp, List.length_nil] at hk
  have hlen : (dsc X 65 []).length + 0 ≤ 4096 := by
    have := hm.length_eq
    rw [List.length_map] at this
    omega
  have hsum : ((dsc X 65 []).map used).sum ≤ 4194304 := by
    have h1 : ((dsc X 65 []).map used).sum = ((X.filter fun e => decide (e.p ≠ [])).map used).sum := (hr.map used).sum_nat
    have h2 : ((X.filter fun e => decide (e.p ≠ [])).map used).sum ≤ (X.map used).sum := by
      have : ∀ l : List En, ((l.filter fun e => decide (e.p ≠ [])).map used).sum ≤ (l.map used).sum := by
        intro l
        induction l with
        | nil => simp
        | cons a l ih =>
          rw [List.filter_cons]
          split <;> simp only [List.map_cons, List.sum_cons] <;> omega
      exact this X
    unfold byt at hb
    omega
  refine ⟨fun hs => ⟨?_, ?_, ((hm.map ikey).nodup_iff).1 hk⟩, fun ⟨i, hi, hs⟩ => ?_⟩
  · unfold icd
    rw [hrp, List.length_nil]
    refine icode_zero hlen (fun x hx => ?_) hsum
    have := hs _ (hm.mem_iff.1 (List.mem_map.2 ⟨x, hx, rfl⟩))
    unfold itOf at this
    rw [ba_size] at this
    exact this
  · unfold itm
    rw [hrp, List.length_nil]
    exact srt_perm_eq ikey hm hk
  · unfold icd
    rw [hrp, List.length_nil]
    refine icode_long hlen hsum ?_
    obtain ⟨x, hx, rfl⟩ := List.mem_map.1 (hm.mem_iff.2 hi)
    refine ⟨x, hx, ?_⟩
    unfold itOf at hs
    rw [ba_size] at hs
    exact hs
/-- The move back. -/
theorem out_mvd {S : List En} {c : En} {q : List B} (h : ∀ e ∈ out c.p S, ¬ q <+: e.p) : out q (mvd S c q) = out c.p S ∧ sub q (mvd S c q) = sub c.p S := by
  have h1 : ∀ e ∈ (sub c.p S).map (En.ins q), q <+: e.p := fun e he => by
    obtain ⟨z, -, rfl⟩ := List.mem_map.1 he
    exact List.prefix_append _ _
  have k1 : (out c.p S).filter (fun e => !(q.isPrefixOf e.p)) = out c.p S := List.filter_eq_self.2 fun e he => by
    have := h e he
    rw [← List.isPrefixOf_iff_prefix, Bool.not_eq_true] at this
    rw [this]; rfl
  have k2 : ((sub c.p S).map (En.ins q)).filter (fun e => !(q.isPrefixOf e.p)) = [] := List.filter_eq_nil_iff.2 fun e he => by
    have := h1 e he
    rw [← List.isPrefixOf_iff_prefix] at this
    simp [this]
  have k3 : (out c.p S).filter (fun e => q.isPrefixOf e.p) = [] := List.filter_eq_nil_iff.2 fun e he => by
    have := h e he
    rw [← List.isPrefixOf_iff_prefix] at this
    exact this
  have k4 : ((sub c.p S).map (En.ins q)).filter (fun e => q.isPrefixOf e.p) = (sub c.p S).map (En.ins q) := List.filter_eq_self.2 fun e he => by
    have := h1 e he
    rw [← List.isPrefixOf_iff_prefix] at this
    exact this
  constructor
  · show List.filter _ (_ ++ _) = _
    rw [List.filter_append, k1, k2, List.append_nil]
  · have h2 : und q (mvd S c q) = (sub c.p S).map (En.ins q) := by
      show List.filter _ (_ ++ _) = _
      rw [List.filter_append, k3, k4, List.nil_append]
    show List.map _ (und _ _) = _
    rw [h2, List.map_map]
    refine (List.map_congr_left fun x _ => ?_).trans (List.map_id _)
    exact rel_ins q x
theorem rnc_zero {S : List En} {p : List B} {n : B} (h : rnc S p n = 0) : nameOk (ba n) = true ∧ ∀ c ∈ S, c.p ≠ p ++ [n] := by
  unfold rnc at h
  split at h
  · exact absurd h (by decide)
  · next h1 =>
    split at h
    · exact absurd h (by decide)
    · next h2 => exact ⟨by simpa using h1, fun c hc e => h2 (List.any_eq_true.2 ⟨c, hc, by simpa using e⟩)⟩
theorem rnc_of {S : List En} {p : List B} {n : B} (h1 : nameOk (ba n) = true) (h2 : ∀ c ∈ S, c.p ≠ p ++ [n]) : rnc S p n = 0 := by
  unfold rnc
  rw [if_neg (by rw [h1]; decide), if_neg fun e => ?_]
  obtain ⟨x, hx, e⟩ := List.any_eq_true.1 e
  exact h2 x hx (by simpa using e)
/-- Behind a move that was taken the move back is taken, and the tree is as it was. -/
theorem move_back {lo : Nat} {w : World} {S : List En} (h : Tr lo w S) {d t c : En} {n a : B} (hd : d ∈ S) (ht : t ∈ S) (hc : c ∈ S) (hp : c.p = d.p ++ [n]) (h0 : mvc S d t c n a = 0) :
    d ∈ mvd S c (t.p ++ [a]) ∧ t ∈ mvd S c (t.p ++ [a]) ∧ ((c.rel c.p).ins (t.p ++ [a])) ∈ mvd S c (t.p ++ [a]) ∧ mvc (mvd S c (t.p ++ [a])) t d ((c.rel c.p).ins (t.p ++ [a])) a n = 0 ∧ (mvd (mvd S c (t.p ++ [a])) ((c.rel c.p).ins (t.p ++ [a])) (d.p ++ [n])).Perm S := by
  have hcm : (c.rel c.p).ins (t.p ++ [a]) ∈ mvd S c (t.p ++ [a]) := List.mem_append_right _ (List.mem_map.2 ⟨_, mem_sub.2 ⟨c, hc, List.prefix_refl _, rfl⟩, rfl⟩)
  have hcp : ((c.rel c.p).ins (t.p ++ [a])).p = t.p ++ [a] := by simp [En.ins, En.rel]
  have hcd : ¬ c.p <+: d.p := fun e => by have := e.length_le; rw [hp, List.length_append, List.length_singleton] at this; omega
  have hdm : d ∈ mvd S c (t.p ++ [a]) := List.mem_append_left _ (mem_out.2 ⟨hd, hcd⟩)
  by_cases hs : t.p = d.p ∧ a = n
  · obtain ⟨h1, rfl⟩ := hs
    obtain rfl := one_p h.one ht hd h1
    refine ⟨hdm, hdm, hcm, by unfold mvc; rw [if_pos ⟨rfl, rfl⟩], ?_⟩
    rw [← hp]
    have h2 : (c.rel c.p).ins c.p = c := ins_rel (List.prefix_refl _)
    rw [h2]
    have h3 : ∀ e ∈ out c.p S, ¬ c.p <+: e.p := fun e he => (mem_out.1 he).2
    have h4 := out_mvd h3
    show (out c.p (mvd S c c.p) ++ (sub c.p (mvd S c c.p)).map _).Perm S
    rw [h4.1, h4.2]
    exact mvd_back
  · unfold mvc at h0
    rw [if_neg hs] at h0
    by_cases hr : rnc S t.p a = 0
    · rw [if_neg (fun e => e hr)] at h0
      obtain ⟨r1, r2⟩ := rnc_zero hr
      have hct : ¬ c.p <+: t.p := fun e => by rw [if_pos e] at h0; exact absurd h0 (by decide)
      have htm : t ∈ mvd S c (t.p ++ [a]) := List.mem_append_left _ (mem_out.2 ⟨ht, hct⟩)
      have hq : ∀ e ∈ S, ¬ (t.p ++ [a]) <+: e.p := fun e he hpe => by
        obtain ⟨y, y1, y2, -⟩ := h.anc (e.p.length - (t.p ++ [a]).length) e he (by have := hpe.length_le; omega) hpe
        exact r2 y y1 y2
      obtain ⟨o1, o2⟩ := out_mvd (S := S) (c := c) (q := t.p ++ [a]) (fun e he => hq e (mem_out.1 he).1)
      refine ⟨hdm, htm, hcm, ?_, ?_⟩
      · have hz : rnc (mvd S c (t.p ++ [a])) d.p n = 0 := by
          refine rnc_of (h.nam c hc n (by rw [hp]; simp)) fun e he hep => ?_
          rcases List.mem_append.1 he with he | he
          · exact (mem_out.1 he).2 (by rw [hep, ← hp]; exact List.prefix_refl _)
          · obtain ⟨z, -, rfl⟩ := List.mem_map.1 he
            have h5 : (t.p ++ [a]) <+: d.p ++ [n] := by rw [← hep]; exact List.prefix_append _ _
            rcases pre_snoc h5 with e1 | e1
            · exact hs (by have := snoc_inj e1; exact this)
            · exact hq d hd e1
        unfold mvc
        rw [hcp, o1, o2, if_neg (fun e => hs ⟨e.1.symm, e.2.symm⟩), if_neg (fun e => e hz), if_neg (hq d hd)]
        exact adc_back h hc hp
      · show (out _ (mvd S c (t.p ++ [a])) ++ (sub _ (mvd S c (t.p ++ [a]))).map _).Perm S
        rw [hcp, o1, o2, ← hp]
        exact mvd_back
    · rw [if_pos hr] at h0
      exact absurd h0 hr
end Go.Proofs.YtbnaegoahdcejaaGreatDoor

namespace Go.Proofs.YtbnaegoahdcejaaGreatDoor
open Go.RowKit Go.ChangeMaps

theorem pth_le (p : List B) : (pth p).length ≤ (ahd p).length := by unfold pth; rw [List.length_dropLast]; omega
theorem par_le (s : B) : (par s).length ≤ s.length + 1 := by
  unfold par
  have h1 := pth_le (spl s).dropLast
  have h2 : ahd (spl s) = ahd (spl s).dropLast ++ ahd [lst s] := by rw [← ahd_app, ← spl_lst]
  have h3 : (ahd (spl s)).length = s.length + 1 := by rw [ahd_pth (spl_ne s), pth_spl]; simp
  rw [h2, List.length_append] at h3
  omega
theorem idx_in (v : Int) (n : Nat) (h0 : 0 < n) (h1 : n ≤ 200) : ∃ ix : Nat, ix < n ∧ (wrap64 (v.tmod (n : Int) + (n : Int))).tmod (n : Int) = (ix : Int) := by
  have hn : (0 : Int) < (n : Int) := by omega
  have h2 := Int.tmod_lt_of_pos v hn
  have h3 := Int.lt_tmod_of_pos v hn
  rw [IntWalk.wrap64_in _ (by omega), Int.tmod_eq_emod_of_nonneg (by omega)]
  have h4 := Int.emod_nonneg (v.tmod (n : Int) + (n : Int)) (by omega : (n : Int) ≠ 0)
  have h5 := Int.emod_lt_of_pos (v.tmod (n : Int) + (n : Int)) hn
  exact ⟨((v.tmod (n : Int) + (n : Int)) % (n : Int)).toNat, by omega, by omega⟩
theorem fine_ne {i : It} (h : Fine i) : ikey i ≠ [] := fun e => by
  have := h.2.2.2.2.2 [] (by show [] ∈ spl (ikey i); rw [e]; simp [spl])
  exact (nok this).1 rfl
/-- The nodes that TreeMoved is about. -/
structure Three (S : List En) (r : En) (i j : It) (d c t : En) : Prop where
  hd : d ∈ S
  hc : c ∈ S
  ht : t ∈ S
  dk : d.k = 1
  cp : c.p = spl (ikey i)
  ck : (c.k : Int) = i.2.1
  cx : c.x = i.2.2
  cd : c.p = d.p ++ [lst (ikey i)]
  tp : t.p = spl (ikey j)
  da : (par (ikey i) = [] ∧ d = r) ∨ (par (ikey i) ≠ [] ∧ d.p = spl (par (ikey i)))
  ta : (ikey j = [] ∧ t = r) ∨ (ikey j ≠ [] ∧ t.p = spl (ikey j))
  li : (ikey i).length ≤ 4096
  lj : (ikey j).length ≤ 4096
theorem Told9.three {lo : Nat} {w : World} {S : List En} {r : En} {its : List It} (t : Told9 S r its) (h : Tr lo w S) {i j : It} (hi : i ∈ its) (hj : j ∈ its) : ∃ d c u, Three S r i j d c u := by
  obtain ⟨c, hc, cp, ck, cx⟩ := t.has hi
  obtain ⟨u, hu, up, -, -⟩ := t.has hj
  obtain ⟨d, hd, dp, dk⟩ := h.par c hc (by rw [cp]; exact spl_ne _)
  have fi := t.fin i hi
  have fj := t.fin j hj
  have hsz : ∀ i : It, i.1.size = (ikey i).length := fun i => Lib.size_eq i.1
  refine ⟨d, c, u, hd, hc, hu, dk, cp, ck, cx, ?_, up, ?_, .inr ⟨fine_ne fj, up⟩, by have := fi.1; have := hsz i; omega, by have := fj.1; have := hsz j; omega⟩
  · rw [dp, cp]; exact spl_lst _
  · by_cases e : (spl (ikey i)).dropLast = []
    · left
      refine ⟨by unfold par; rw [e]; rfl, one_p h.one hd t.rin (by rw [dp, cp, e, t.rp])⟩
    · right
      have h1 : nostroke (spl (ikey i)).dropLast := fun m hm => spl_nostroke _ m (List.dropLast_subset _ hm)
      have h2 : spl (par (ikey i)) = (spl (ikey i)).dropLast := spl_pth h1 e
      refine ⟨fun e0 => ?_, by rw [dp, cp, h2]⟩
      rw [e0] at h2
      have h3 : ([] : B) ∈ (spl (ikey i)).dropLast := by rw [← h2]; simp [spl]
      exact (nok (fi.2.2.2.2.2 [] (List.dropLast_subset _ h3))).1 rfl
/-- What a move leaves, whatever stands at the place. -/
def MovQ (lo : Nat) (S : List En) (d t c : En) (n a : B) (w : World) (e : Ending) (w' : World) : Prop :=
  ∃ r : Int, e = .returned (.int .i64 r) ∧ Upd (blk S) w w' ∧ ((r = 0 ∧ t.k = 1 ∧ mvc S d t c n a = 0 ∧ Tr lo w' (mvd S c (t.p ++ [a]))) ∨ (r ≠ 0 ∧ Tr lo w' S))
theorem moveQ_any {lo : Nat} {w : World} {S : List En} (h : Tr lo w S) {d t c : En} {n : B} (hd : d ∈ S) (hdk : d.k = 1) (ht : t ∈ S) (hc : c ∈ S) (hp : c.p = d.p ++ [n]) (a : B) (hS : S.length ≤ 4097) :
    Calls Tryz.prog 21 #[Pt d.nb, .string (ba n), Pt t.nb, .string (ba a)] w fun e w' => MovQ lo S d t c n a w e w' := by
  by_cases hk : t.k = 1
  · refine (tmove_any h hd hdk ht hk hc hp a hS).mono ?_
    rintro e w' ⟨rfl, hu, h3⟩
    refine ⟨_, rfl, hu, ?_⟩
    rcases h3 with ⟨h1, h2⟩ | ⟨h1, h2⟩
    · exact .inl ⟨h1, hk, h1, h2⟩
    · exact .inr ⟨h1, h2⟩
  · have hKd : Kd w (Pt d.nb) 1 := by have := h.kind hd; rw [hdk] at this; exact this
    have hKt : Kd w (Pt t.nb) (t.k : Int) := h.kind ht
    refine (move_dir2 hKd hKt (by omega) (by omega)).mono ?_
    rintro e w' ⟨rfl, rfl⟩
    exact ⟨193, rfl, Upd.refl _ _, .inr ⟨by decide, h⟩⟩
/-- A tree that was made later stays. -/
theorem Tr.later {lo l2 : Nat} {w0 w w' : World} {S T : List En} (h : Tr l2 w T) (h0 : Tr lo w0 S) (hl : w0.heap.size ≤ l2) (u : Upd (blk S) w w') : Tr l2 w' T := by
  refine h.ch (P := fun _ => False) ⟨u.size, fun k hk hs => .inl (u.block k hs ?_)⟩ (fun _ _ _ _ h => h) (fun _ _ h => h) (fun _ _ h => h)
  rintro ⟨e, he, ek, e1⟩
  obtain ⟨-, -, -, -, up, L, hD, -, -⟩ := h0.dir e he ek
  have := hD.ld
  have := hD.lm
  rcases e1 with rfl | rfl <;> omega
theorem blk_lo {lo : Nat} {w : World} {S : List En} (h : Tr lo w S) {k : Nat} (hk : blk S k) : lo ≤ k := by
  obtain ⟨e, he, ek, e1⟩ := hk
  obtain ⟨h1, h2, h3, -⟩ := h.dir e he ek
  rcases e1 with rfl | rfl
  · exact h2
  · exact h3
theorem blk_mvd {S : List En} {c : En} {q : List B} {k : Nat} (h : blk (mvd S c q) k) : blk S k := by
  obtain ⟨e, he, h2⟩ := h
  rcases List.mem_append.1 he with he | he
  · exact ⟨e, (mem_out.1 he).1, h2⟩
  · obtain ⟨z, hz, rfl⟩ := List.mem_map.1 he
    obtain ⟨v, hv, -, rfl⟩ := mem_sub.1 hz
    exact ⟨v, hv, h2⟩
theorem nodup_key : ∀ {l : List It} {a b : It}, (l.map ikey).Nodup → a ∈ l → b ∈ l → ikey a = ikey b → a = b
  | [], a, b, _, ha, _, _ => by simp at ha
  | y :: l, a, b, h, ha, hb, e => by
    simp only [List.map_cons, List.nodup_cons] at h
    rcases List.mem_cons.1 ha with ha | ha <;> rcases List.mem_cons.1 hb with hb | hb
    · rw [ha, hb]
    · exact absurd (List.mem_map.2 ⟨b, hb, by rw [← e, ha]⟩) h.1
    · exact absurd (List.mem_map.2 ⟨a, ha, by rw [e, hb]⟩) h.1
    · exact nodup_key h.2 ha hb e
/-- An item renamed. -/
def Im.ren (x y a : B) (m : Im) : Im := { m with p := ba (rnm x y a m.p.data.toList) }
theorem ren_it (x y a : B) (m : Im) : (m.ren x y a).it = rni x y a m.it := rfl
theorem ren_same {x y a : B} {m : Im} (h : ¬ spl x <+: spl m.p.data.toList) : m.ren x y a = m := by
  unfold Im.ren rnm
  rw [if_neg h, ba_of]
theorem pre_eqs (p x : B) : (((ba p).toList == (ba x).toList) = true ↔ p = x) ∧ ((((ba p).extract 0 ((ba x).size + 1)).toList == (ba x ++ ⟨#[47]⟩).toList) = true ↔ p.take (x.length + 1) = x ++ [47]) := by
  have h1 : (ba x ++ (⟨#[47]⟩ : ByteArray)).toList = x ++ [47] := by
    rw [show (⟨#[47]⟩ : ByteArray) = ba [47] from rfl, ba_append, Lib.toList_data, ba_list]
  have h2 : ((ba p).extract 0 ((ba x).size + 1)).toList = p.take (x.length + 1) := by
    rw [Lib.toList_data, Lib.extract_from_zero, ba_list, ba_size]
  constructor
  · rw [Lib.toList_data, Lib.toList_data, ba_list, ba_list]; exact beq_iff_eq
  · rw [h1, h2]; exact beq_iff_eq
theorem ren_text {x y a : B} {m : Im} (h : spl x <+: spl m.p.data.toList) : ba y ++ ⟨#[47]⟩ ++ ba a ++ m.p.extract (ba x).size m.p.size = (m.ren x y a).p ∧ (ba x).size ≤ m.p.size ∧ (m.ren x y a).p.size = (ba y).size + 1 + (ba a).size + (m.p.size - (ba x).size) := by
  obtain ⟨p, hp⟩ : ∃ p, p = m.p.data.toList := ⟨_, rfl⟩
  have hP : m.p = ba p := by rw [hp]; exact (ba_of m.p).symm
  have hle : x.length ≤ p.length := by
    rw [← hp] at h
    rcases (pre_iff x p).1 h with e | e
    · rw [e]; exact Nat.le_refl _
    · have := congrArg List.length e
      rw [List.length_take, List.length_append, List.length_singleton] at this
      omega
  have hn : (m.ren x y a).p = ba (y ++ 47 :: (a ++ p.drop x.length)) := by
    show ba (rnm x y a m.p.data.toList) = _
    unfold rnm
    rw [if_pos h, ← hp]
  refine ⟨?_, by rw [hP, ba_size, ba_size]; exact hle, ?_⟩
  · rw [hn, hP, ba_size, ba_size, extract_list p x.length p.length hle, show (⟨#[47]⟩ : ByteArray) = ba [47] from rfl, ba_append, ba_append, ba_append, List.take_of_length_le (by rw [List.length_drop]; exact Nat.le_refl _)]
    simp
  · rw [hn, hP]
    simp only [ba_size, List.length_append, List.length_cons, List.length_drop]
    omega
theorem set_self {α : Type} : ∀ {l : List α} {i : Nat} {m : α}, l[i]? = some m → l.set i m = l
  | [], i, m, h => by simp at h
  | y :: l, 0, m, h => by simp at h; rw [h]; rfl
  | y :: l, i + 1, m, h => by simp at h; rw [List.set_cons_succ, set_self h]
/-- The list so far. -/
def rens (x y a : B) (l : List Im) (i : Nat) : List Im := (l.take i).map (Im.ren x y a) ++ l.drop i
theorem rens_zero (x y a : B) (l : List Im) : rens x y a l 0 = l := rfl
theorem rens_all (x y a : B) (l : List Im) : rens x y a l l.length = l.map (Im.ren x y a) := by simp [rens]
theorem rens_length (x y a : B) (l : List Im) (i : Nat) : (rens x y a l i).length = l.length := by simp [rens]; omega
theorem rens_at {x y a : B} {l : List Im} {i : Nat} {m : Im} (h : l[i]? = some m) : (rens x y a l i)[i]? = some m := by
  have hl := (List.getElem?_eq_some_iff.1 h).1
  unfold rens
  rw [List.getElem?_append_right (by simp; omega), List.getElem?_drop, List.length_map, List.length_take]
  rw [show i + (i - min i l.length) = i by omega]
  exact h
theorem rens_succ {x y a : B} {l : List Im} {i : Nat} {m : Im} (h : l[i]? = some m) : rens x y a l (i + 1) = (rens x y a l i).set i (m.ren x y a) := by
  obtain ⟨hl, rfl⟩ := List.getElem?_eq_some_iff.1 h
  unfold rens
  rw [List.set_append_right _ _ (by simp; omega), List.length_map, List.length_take, show i - min i l.length = 0 by omega, List.drop_eq_getElem_cons hl, List.set_cons_zero, List.take_add_one, List.getElem?_eq_getElem hl, Option.toList_some, List.map_append, List.append_assoc]
  rfl
theorem ims_set (p : ByteArray) : ∀ (l : List Im) (i : Nat) (m : Im), l[i]? = some m → ims (l.set i { m with p := p }) = (ims l).set (i * 3) (.string p)
  | [], i, m, h => by simp at h
  | y :: l, 0, m, h => by
    simp only [List.getElem?_cons_zero, Option.some.injEq] at h
    subst h
    rfl
  | y :: l, i + 1, m, h => by
    simp only [List.getElem?_cons_succ] at h
    have ih := ims_set p l i m h
    show Im.cs y ++ ims (l.set i { m with p := p }) = (Im.cs y ++ ims l).set ((i + 1) * 3) (.string p)
    rw [ih, List.set_append_right _ _ (by simp [Im.cs]; omega)]
    simp [Im.cs, Nat.add_mul]
/-- A list of items in its own block, at g. -/
structure Wr (lo : Nat) (W : World) (g : Nat) (ms : List Im) : Prop where
  blk : ∃ cur : Array Value, W.heap[g]? = some (.cells cur 51 (0, 0)) ∧ ∀ (j : Nat) (v : Value), (ims ms)[j]? = some v → cur[j]? = some v
  low : lo ≤ g
  dat : ∀ m ∈ ms, Dat lo W m.a m.c m.x
theorem Wr.cell {lo : Nat} {W : World} {g : Nat} {ms : List Im} (h : Wr lo W g ms) {j : Nat} {v : Value} (hj : (ims ms)[j]? = some v) : W.cell? ⟨g, j, none⟩ = some v := by
  obtain ⟨cur, h1, h2⟩ := h.blk
  rw [cell_of_row W g j _ _ _ h1]
  exact h2 j v hj
theorem Wr.inp {lo : Nat} {W : World} {g : Nat} {ms : List Im} (h : Wr lo W g ms) : Inp W (some ⟨g, 0, none⟩) ms :=
  ⟨fun _ => ⟨g, 0, rfl, fun j v hj => by rw [Nat.zero_add]; exact h.cell hj⟩, fun m hm => ⟨(h.dat m hm).bs, (h.dat m hm).cap, (h.dat m hm).top⟩⟩
theorem Wr.below {lo : Nat} {W W' : World} {g : Nat} {ms : List Im} (h : Wr lo W g ms) (b : Below W.heap.size W W') : Wr lo W' g ms := by
  obtain ⟨cur, h1, h2⟩ := h.blk
  exact ⟨⟨cur, (b.block g (Array.getElem?_eq_some_iff.1 h1).1).trans h1, h2⟩, h.low, fun m hm => (h.dat m hm).below b⟩
theorem Lms.wr {lo : Nat} {W : World} {a : Option Addr} {n c : Nat} {ms : List Im} (h : Lms lo W (.slice a n c) ms) (hn : ms ≠ []) : ∃ g, a = some ⟨g, 0, none⟩ ∧ Wr lo W g ms := by
  rcases h.row.2 with ⟨e, h0⟩ | ⟨g, cap, cur, e, h1, h2, h3, h4, h5, h6⟩
  · exact absurd (List.eq_nil_of_length_eq_zero h0) hn
  · injection e with e1 e2 e3
    refine ⟨g, e1, ⟨cur, h2, fun j v hj => ?_⟩, h.rb g (by rw [e1]; rfl), h.dat⟩
    have := h.row.cells (g := g) (by rw [e1, e2, e3]; rfl) j v hj
    rw [Addr.add_lit, Nat.zero_add, cell_of_row W g j _ _ _ h2] at this
    exact this
abbrev JP : Obj → Prop := Ty [51]
theorem wr_ch {lo : Nat} {W : World} {g i : Nat} {ms : List Im} (h : Wr lo W g ms) (v : Value) : Ch 0 IP W (W.setCell ⟨g, i, none⟩ v) ∧ Upd (fun k => k = g) W (W.setCell ⟨g, i, none⟩ v) := by
  obtain ⟨cur, h1, -⟩ := h.blk
  have u : Upd (fun k => k = g) W (W.setCell ⟨g, i, none⟩ v) := Upd.setCell (F := fun k => k = g) (p := ⟨g, i, none⟩) rfl v
  refine ⟨Ch.of_upd u fun k _ _ e => ?_, u⟩
  subst e
  exact ⟨_, _, h1, set_same h1, ⟨_, _, _, by simp, rfl⟩, ⟨_, _, _, by simp, rfl⟩⟩
theorem Wr.set {lo : Nat} {W : World} {g i : Nat} {ms : List Im} {m : Im} (h : Wr lo W g ms) (hm : ms[i]? = some m) (p : ByteArray) : Wr lo (W.setCell ⟨g, i * 3, none⟩ (.string p)) g (ms.set i { m with p := p }) := by
  obtain ⟨ch, -⟩ := wr_ch (i := i * 3) h (.string p)
  obtain ⟨cur, h1, h2⟩ := h.blk
  refine ⟨⟨_, set_same h1, fun j v hj => ?_⟩, h.low, fun k hk => ?_⟩
  · rw [ims_set p ms i m hm, List.getElem?_set] at hj
    rw [Array.getElem?_setIfInBounds]
    by_cases e : i * 3 = j
    · rw [if_pos e] at hj ⊢
      split at hj
      · next hl =>
        have hv := h2 j _ (List.getElem?_eq_getElem (by omega))
        rw [if_pos (by rw [e]; exact (Array.getElem?_eq_some_iff.1 hv).1)]
        exact hj
      · cases hj
    · rw [if_neg e] at hj ⊢
      exact h2 j v hj
  · have hd : Dat lo W k.a k.c k.x := by
      rcases List.mem_or_eq_of_mem_set hk with hk | rfl
      · exact h.dat k hk
      · exact h.dat m (List.mem_of_getElem? hm)
    exact hd.ch ch (Nat.zero_le _) IP_u8
end Go.Proofs.YtbnaegoahdcejaaGreatDoor
