/- Make: a tree out of a list of items. What a list makes, and what Items tells of it. Count, Same, and the document's comparison of two lists. Same; and the document's comparison of two lists that are the same. wakes: what the document says of a small tree. -/
import Derived.Test.YtbnaegoahdcejaaGreatDoorGG
import Derived.Test.YtbnaegoahdcejaaGreatDoorGF
import Derived.Lib.SlBytesConst
import Derived.Lib.SmallJoins
namespace Go.Proofs.YtbnaegoahdcejaaGreatDoor
open Go.RowKit Go.ChangeMaps

/-- What is plain of an entry. -/
def pe (e : En) : List B × Nat × B := (e.p, e.k, e.x)
theorem any_pe {S T : List En} (h : S.map pe = T.map pe) (f : List B × Nat × B → Bool) : (S.any fun e => f (pe e)) = (T.any fun e => f (pe e)) := by
  have := congrArg (fun l => List.any l f) h
  simp only [List.any_map] at this
  exact this
theorem byt_pe {S T : List En} (h : S.map pe = T.map pe) : byt S = byt T := by
  have := congrArg (fun l => (l.map fun t : List B × Nat × B => if t.2.1 = 0 then t.2.2.length else 0).sum) h
  simp only [List.map_map] at this
  exact this
theorem len_pe {S T : List En} (h : S.map pe = T.map pe) : S.length = T.length := by have := congrArg List.length h; simpa using this
theorem pcode_pe {S T : List En} (h : S.map pe = T.map pe) (ns : List B) : pcode S ns = pcode T ns := by
  unfold pcode
  have h1 : (S.any fun e => decide (e.p = ns.dropLast)) = (T.any fun e => decide (e.p = ns.dropLast)) := any_pe h (fun t => decide (t.1 = ns.dropLast))
  have h2 : (S.any fun e => decide (e.p = ns.dropLast) && decide (e.k = 1)) = (T.any fun e => decide (e.p = ns.dropLast) && decide (e.k = 1)) := any_pe h (fun t => decide (t.1 = ns.dropLast) && decide (t.2.1 = 1))
  have h3 : (S.any fun c => decide (c.p = ns)) = (T.any fun c => decide (c.p = ns)) := any_pe h (fun t => decide (t.1 = ns))
  rw [h1, h2, h3]
theorem mcode_pe {S T : List En} (h : S.map pe = T.map pe) (i : It) : mcode S i = mcode T i := by
  unfold mcode
  rw [byt_pe h, pcode_pe h, len_pe h]
def root0 : En := ⟨[], 1, [], 0, 0, 0⟩
def peE (i : It) : En := enOf i 0 0 0
/-- What Make makes of a list: its answer, the place, the entries. -/
def mkT : List En → List It → Nat → Int × Nat × List En
  | T, [], _ => (0, 0, T)
  | T, i :: l, n => if mcode T i = 0 then mkT (T ++ [peE i]) l (n + 1) else (mcode T i, n, T)
/-- A list of items that can be read. -/
structure Inp (W : World) (a : Option Addr) (ms : List Im) : Prop where
  cel : ms ≠ [] → ∃ g o, a = some ⟨g, o, none⟩ ∧ ∀ j v, (ims ms)[j]? = some v → W.cell? ⟨g, o + j, none⟩ = some v
  dat : ∀ m ∈ ms, BsAt W m.a m.x ∧ m.x.length ≤ m.c ∧ m.c ≤ 9223372036854775807
theorem Inp.below {W W' : World} {a : Option Addr} {ms : List Im} (h : Inp W a ms) (b : Below W.heap.size W W') : Inp W' a ms := by
  refine ⟨fun hn => ?_, fun m hm => ⟨(h.dat m hm).1.below b, (h.dat m hm).2⟩⟩
  obtain ⟨g, o, e, hc⟩ := h.cel hn
  exact ⟨g, o, e, fun j v hj => (b.cell (World.block_lt_of_cell? W _ (hc j v hj))).trans (hc j v hj)⟩
theorem Inp.at {W : World} {a : Option Addr} {ms : List Im} (h : Inp W a ms) {i : Nat} {m : Im} (hi : ms[i]? = some m) : ∃ g o, a = some ⟨g, o, none⟩ ∧ W.cell? ⟨g, o + i * 3, none⟩ = some (.string m.p) ∧ W.cell? ⟨g, o + i * 3 + 1, none⟩ = some (.int .i8 m.k) ∧ W.cell? ⟨g, o + i * 3 + 2, none⟩ = some (.slice m.a m.x.length m.c) := by
  obtain ⟨g, o, e, hc⟩ := h.cel (fun e => by simp [e] at hi)
  obtain ⟨h0, h1, h2⟩ := ims_at hi
  exact ⟨g, o, e, hc _ _ h0, hc _ _ h1, hc _ _ h2⟩
theorem Lms.inp {lo : Nat} {W : World} {a : Option Addr} {n c : Nat} {ms : List Im} (h : Lms lo W (.slice a n c) ms) : Inp W a ms := by
  refine ⟨fun hn => ?_, fun m hm => ⟨(h.dat m hm).bs, (h.dat m hm).cap, (h.dat m hm).top⟩⟩
  rcases h.row.2 with ⟨e, h0⟩ | ⟨g, cap, cur, e, -⟩
  · exact absurd (List.eq_nil_of_length_eq_zero h0) hn
  · injection e with e1 e2 e3
    exact ⟨g, 0, e1, fun j v hj => by
      have := h.row.cells (g := g) (by rw [e1, e2, e3]; rfl) j v hj
      simpa [Addr.add_lit] using this⟩
/-- What Make tells. -/
def MakeP (its : List It) (w : World) (e : Ending) (w' : World) : Prop :=
  ∃ c i T, mkT [root0] its 0 = (c, i, T) ∧ Below w.heap.size w w' ∧ ((c ≠ 0 ∧ e = .returned (.tuple #[.pointer none, .int .i64 c, .int .i64 (i : Int)])) ∨
    (c = 0 ∧ ∃ S r, Tr w.heap.size w' S ∧ r ∈ S ∧ r.p = [] ∧ r.k = 1 ∧ S.map pe = T.map pe ∧ S.length ≤ 4097 ∧ byt S ≤ 4194304 ∧ e = .returned (.tuple #[Pt r.nb, .int .i64 0, .int .i64 0])))
theorem tr_root {lo : Nat} {W : World} {nb db mb : Nat} (h1 : lo ≤ nb) (h2 : lo ≤ db) (h3 : lo ≤ mb) (h : Dr W nb db mb (.pointer none) []) : Tr lo W [⟨[], 1, [], nb, db, mb⟩] := by
  refine ⟨by simp, ⟨_, List.mem_singleton.2 rfl, rfl, rfl⟩, ?_, ?_, ?_, by simp, ?_, ?_, ?_, ?_⟩
  · intro e he hp; rw [List.mem_singleton.1 he] at hp; exact absurd rfl hp
  · intro e he n hn; rw [List.mem_singleton.1 he] at hn; simp at hn
  · intro e he; rw [List.mem_singleton.1 he]; simp
  · intro a ha b hb _; rw [List.mem_singleton.1 ha, List.mem_singleton.1 hb]
  · intro a ha b hb _ _ _; rw [List.mem_singleton.1 ha, List.mem_singleton.1 hb]
  · intro d hd _
    rw [List.mem_singleton.1 hd]
    refine ⟨h1, h2, h3, rfl, _, [], h, .inl ⟨rfl, rfl⟩, fun n v => ⟨fun hv => by simp [lk] at hv, ?_⟩⟩
    rintro ⟨c, hc, hp, -⟩
    rw [List.mem_singleton.1 hc] at hp
    simp at hp
  · intro e he hk; rw [List.mem_singleton.1 he] at hk; exact absurd rfl hk
set_option maxRecDepth 20000 in
set_option maxHeartbeats 4000000 in
theorem tmake_any (a : Option Addr) (ms : List Im) (n c : Nat) (w : World) (hn : n = ms.length) (hnl : n ≤ 1000000000) (hI : Inp w a ms) (hM : Mxl w) :
    Calls Tryz.prog 12 #[.slice a n c] w fun e w' => MakeP (ms.map Im.it) w e w' := by
  have AI := aside hI
  have AM := aside hM
  have AN := aside hn
  clear hI hM hn
  go_enter Tryz.func12, Tryz.ntmps12
  go_wp2_with fail
  refine (dir_new w).mono ?_
  rintro e w1 ⟨nb, db, mb, rfl, h1, h2, h3, h4, h5⟩
  obtain ⟨r, hr⟩ : ∃ r : En, r = ⟨[], 1, [], nb, db, mb⟩ := ⟨_, rfl⟩
  obtain ⟨W1, hW1⟩ : ∃ W1, W1 = w1.alloc (.cells #[Pt nb, .int .i64 0, .int .i64 0] 65) := ⟨_, rfl⟩
  have hB1 : Below w1.heap.size w1 W1 := by rw [hW1]; exact below_al w1 _
  have hG : Gw w W1 w1.heap.size r [r] := by
    refine ⟨below_tr h5 hB1, ?_, h5.size, by simp, by rw [hr], by rw [hr], ?_, by rw [hr]; simp [byt, used], by simp⟩
    · rw [hr]; exact (tr_root h1 h2 h3 h4).below hB1
    · rw [hW1, hr]
      have := heap_alloc_new w1 (.cells #[Pt nb, .int .i64 0, .int .i64 0] 65)
      rw [this]; rfl
  have AG := aside hG
  have AR : Aside ([r].map pe = [root0].map pe) := by rw [hr]; rfl
  have hrn : r.nb = nb := by rw [hr]
  have ARn := aside hrn
  obtain ⟨tb, htb⟩ : ∃ tb, tb = w1.heap.size := ⟨_, rfl⟩
  rw [← htb] at AG
  have hW1s : W1.heap.size = w1.heap.size + 1 := by rw [hW1]; simp
  clear h1 h2 h3 h4 h5 hr hB1 hG hrn
  go_wp2_with fail
  rw [← hW1, ← htb]
  clear hW1 htb hW1s
  go_loopg [6, 7, 8, 14] n (fun g _ _ _ s14 wx => ∃ (i : Nat) (S T : List En), i + g = n ∧ s14 = .int .i64 (i : Int) ∧ Gw w wx tb r S ∧ S.map pe = T.map pe ∧ mkT [root0] (ms.map Im.it) 0 = mkT T ((ms.drop i).map Im.it) i)
  case atStart => exact ⟨0, [r], [root0], by omega, rfl, AG.out, AR.out, rfl⟩
  case round =>
    obtain ⟨i, S, T, hig, rfl, hGw, hpe, hmk⟩ := hrel
    have AGw := aside hGw
    have APe := aside hpe
    have AMk := aside hmk
    have hrc : wr.cell? ⟨tb, 0, none⟩ = some (Pt nb) := by rw [cell_of_row wr tb 0 _ _ _ hGw.cel, ← ARn.out]; rfl
    clear hGw hpe hmk
    cases gk with
    | zero =>
      obtain rfl : i = n := by omega
      have hi : ¬ ((i : Nat) : Int) < (i : Int) := by omega
      go_wp2_with fail
      go_ret3
      refine ⟨0, 0, T, ?_, AGw.out.bel, .inr ⟨rfl, S, r, AGw.out.tr, AGw.out.rin, AGw.out.rp, AGw.out.rk, APe.out, AGw.out.few, AGw.out.bok, by rw [ARn.out]; rfl⟩⟩
      rw [AMk.out, AN.out, List.drop_length]
      rfl
    | succ gk =>
      have hi : (i : Int) < (n : Int) := by omega
      have hi2 : i < ms.length := by rw [← AN.out]; omega
      obtain ⟨m, hmi⟩ : ∃ m, ms[i]? = some m := ⟨_, List.getElem?_eq_getElem hi2⟩
      have hIw := AI.out.below (show Below w.heap.size w wr from AGw.out.bel)
      obtain ⟨g, o, rfl, e0, e1, e2⟩ := hIw.at hmi
      obtain ⟨d1, d2, d3⟩ := hIw.dat m (List.mem_of_getElem? hmi)
      have hdr : ms.drop i = m :: ms.drop (i + 1) := by
        rw [List.drop_eq_getElem_cons hi2]
        congr 1
        rw [List.getElem?_eq_getElem hi2] at hmi
        injection hmi
      obtain ⟨W2, hW2⟩ : ∃ W2, W2 = wr.alloc (.cells #[.string m.p, .int .i8 m.k, .slice m.a m.x.length m.c] 51) := ⟨_, rfl⟩
      have hB2 : Below wr.heap.size wr W2 := by rw [hW2]; exact below_al wr _
      have APut := aside (put_any (AGw.out.below hB2) AM.out m.p m.k m.a m.x m.c d2 d3 (d1.below hB2))
      have hmc := mcode_pe APe.out (m.p, m.k, m.x)
      obtain ⟨mc, hmcd⟩ : ∃ mc, mc = mcode S (m.p, m.k, m.x) := ⟨_, rfl⟩
      have AMc := aside hmcd
      have AMc2 : Aside (mcode T m.it = mc) := by show _; rw [hmcd, hmc]; rfl
      have ADr := aside hdr
      have hwi : IntKind.i64.wrap ((i : Int) + 1) = ((i + 1 : Nat) : Int) := by rw [wrap_small _ (by omega) (by omega)]; simp
      obtain ⟨mp, hmp⟩ : ∃ mp, mp = m.p := ⟨_, rfl⟩
      obtain ⟨mk, hmk⟩ : ∃ mk, mk = m.k := ⟨_, rfl⟩
      obtain ⟨ml, hml⟩ : ∃ ml, ml = m.x.length := ⟨_, rfl⟩
      rw [← hmp] at e0
      rw [← hmk] at e1
      rw [← hml] at e2
      have APut2 : Aside (Calls Tryz.prog 32 #[Pt tb, .agg #[.string mp, .int .i8 mk, .slice m.a ml m.c]] W2 fun e w' => PutP w tb r S (m.p, m.k, m.x) e w') := by rw [hmp, hmk, hml]; exact APut.out
      rw [← hmp, ← hmk, ← hml] at hW2
      clear APut hIw d1 d2 d3 hdr hmi hmc hmcd hmp hmk hml hB2
      go_wp2_with fail
      rw [← hW2]
      clear hW2
      refine APut2.out.mono ?_
      rintro e w3 ⟨rfl, hP⟩
      rw [← AMc.out] at hP ⊢
      clear APut2
      rcases hP with ⟨hc0, hb3⟩ | ⟨hc0, nb', db', mb', hG3⟩
      · have hcb : (mc == 0) = false := beq_eq_false_iff_ne.2 hc0
        have AB3 := aside hb3
        clear hb3
        go_wp2_with fail
        go_ret3
        refine ⟨mc, i, T, ?_, AB3.out, .inl ⟨hc0, rfl⟩⟩
        rw [AMk.out, ADr.out, List.map_cons]
        unfold mkT
        rw [AMc2.out, if_neg hc0]
      · have AG3 := aside hG3
        subst hc0
        clear hG3
        go_wp2_with fail
        go_roundg gk
        case measure => omega
        case rel =>
          refine ⟨i + 1, _, T ++ [peE m.it], by omega, by first | rfl | simp, AG3.out, ?_, ?_⟩
          · rw [List.map_append, List.map_append, APe.out]; rfl
          · rw [AMk.out, ADr.out, List.map_cons]
            conv => lhs; unfold mkT
            rw [AMc2.out, if_pos rfl]
end Go.Proofs.YtbnaegoahdcejaaGreatDoor

namespace Go.Proofs.YtbnaegoahdcejaaGreatDoor
open Go.RowKit Go.ChangeMaps

theorem mcode_zero {S : List En} {i : It} (h : mcode S i = 0) : rfc (byt S) i = 0 ∧ pcode S (spl i.1.data.toList) = 0 ∧ S.length ≠ 4097 ∧ grc i = 0 := by
  unfold mcode at h
  by_cases h1 : rfc (byt S) i = 0
  · rw [if_neg (fun e => e h1)] at h
    by_cases h2 : pcode S (spl i.1.data.toList) = 0
    · rw [if_neg (fun e => e h2)] at h
      by_cases h3 : S.length = 4097
      · rw [if_pos h3] at h; cases h
      · rw [if_neg h3] at h
        exact ⟨h1, h2, h3, h⟩
    · rw [if_pos h2] at h; exact absurd h h2
  · rw [if_pos h1] at h; exact absurd h h1
theorem mcode_of {S : List En} {i : It} (h1 : rfc (byt S) i = 0) (h2 : pcode S (spl i.1.data.toList) = 0) (h3 : S.length ≠ 4097) (h4 : grc i = 0) : mcode S i = 0 := by
  unfold mcode
  rw [if_neg (fun e => e h1), if_neg (fun e => e h2), if_neg h3, h4]
/-- What is so of an item that was taken. -/
def Fine (i : It) : Prop := i.1.size ≤ 4096 ∧ i.1.data.toList.count 47 < 64 ∧ (i.2.1 = 0 ∨ i.2.1 = 1 ∨ i.2.1 = 2) ∧ (i.2.1 = 1 → i.2.2 = []) ∧ grc i = 0 ∧ ∀ m ∈ spl i.1.data.toList, nameOk (ba m) = true
theorem mkT_ok : ∀ (l : List It) (T T' : List En) (n j : Nat), mkT T l n = (0, j, T') → T' = T ++ l.map peE ∧ j = 0 ∧ ∀ i ∈ l, Fine i
  | [], T, T', n, j, h => by
    simp only [mkT, Prod.mk.injEq, true_and] at h
    exact ⟨by simp [h.2], h.1.symm, fun i hi => by simp at hi⟩
  | i :: l, T, T', n, j, h => by
    unfold mkT at h
    by_cases hc : mcode T i = 0
    · rw [if_pos hc] at h
      obtain ⟨h1, h2, h3⟩ := mkT_ok l _ _ _ _ h
      obtain ⟨z1, z2, z3, z4⟩ := mcode_zero hc
      obtain ⟨f1, f2, f3, f4, f5⟩ := rfc_zero z1
      refine ⟨by rw [h1]; simp, h2, fun x hx => ?_⟩
      rcases List.mem_cons.1 hx with rfl | hx
      · exact ⟨f1, f2, f3, f5, z4, (pcode_zero z2).1⟩
      · exact h3 x hx
    · rw [if_neg hc] at h
      simp only [Prod.mk.injEq] at h
      exact absurd h.1 hc
theorem itOf_peE {i : It} (h : Fine i) : itOf 0 (peE i) = i := by
  obtain ⟨-, -, h3, -⟩ := h
  unfold itOf peE enOf
  simp only [List.drop_zero, pth_spl, ba_of]
  have : ((i.2.1.toNat : Nat) : Int) = i.2.1 := by omega
  rw [this]
/-- A tree that is told by a list. -/
structure Told9 (S : List En) (r : En) (its : List It) : Prop where
  rin : r ∈ S
  rp : r.p = []
  rk : r.k = 1
  pes : S.map pe = (root0 :: its.map peE).map pe
  few : S.length ≤ 4097
  bok : byt S ≤ 4194304
  fin : ∀ i ∈ its, Fine i
theorem srt_perm_eq {α : Type} (key : α → B) {l l' : List α} (hp : l.Perm l') (hn : (l.map key).Nodup) : srt key l = srt key l' := by
  have hn' := ((hp.map key).nodup_iff).1 hn
  refine srt_uniq key (((srt_perm key l)).trans hp) ?_ hn'
  exact (srt_pw key hn).imp fun h => List.le_of_lt h
theorem icode_zero {q : Nat} : ∀ {D : List En} {k r : Nat}, D.length + k ≤ 4096 → (∀ x ∈ D, (pth (x.p.drop q)).length ≤ 4096) → (D.map used).sum ≤ r → icode q D k r = 0
  | [], k, r, _, _, _ => rfl
  | x :: D, k, r, h1, h2, h3 => by
    simp only [List.length_cons, List.map_cons, List.sum_cons] at h1 h3
    have hv : vcode q k x r = 0 := by
      unfold vcode
      rw [if_neg (by omega), if_neg (by have := h2 x (by simp); omega), if_neg]
      rintro ⟨e1, e2⟩
      unfold used at h3
      rw [if_pos e1] at h3
      omega
    unfold icode
    rw [if_pos hv]
    exact icode_zero (by omega) (fun y hy => h2 y (by simp [hy])) (by omega)
theorem nodup_of {α β : Type} {f : α → β} {l : List α} (h : (l.map f).Nodup) : l.Nodup := (List.pairwise_map.1 h).imp (fun hab e => hab (by rw [e]))
theorem Tr.below_root {lo : Nat} {w : World} {S : List En} (h : Tr lo w S) : (dsc S 65 []).Perm (S.filter fun e => decide (e.p ≠ [])) := by
  have n1 : (dsc S 65 []).Nodup := nodup_of (dsc_nodup h.one 65 [])
  have n2 : (S.filter fun e => decide (e.p ≠ [])).Nodup := (nodup_of h.one).sublist List.filter_sublist
  refine (List.perm_ext_iff_of_nodup n1 n2).2 fun e => ?_
  rw [List.mem_filter]
  simp only [decide_eq_true_eq]
  constructor
  · intro he
    obtain ⟨h1, r, h2, -, h3⟩ := dsc_mem he
    exact ⟨h1, by rw [h3]; simpa using h2⟩
  · rintro ⟨h1, h2⟩
    exact mem_dsc h.closed e.p h2 (by have := h.dep e h1; omega) (by simp) h1
theorem Told9.its {S : List En} {r : En} {its : List It} (t : Told9 S r its) : (S.filter fun e => decide (e.p ≠ [])).map (itOf 0) = its := by
  have h1 := congrArg (fun l : List (List B × Nat × B) => (l.filter fun t => decide (t.1 ≠ [])).map fun t => ((ba (pth t.1), (t.2.1 : Int), t.2.2) : It)) t.pes
  simp only [List.filter_map, List.map_map] at h1
  have h2 : (S.filter fun e => decide (e.p ≠ [])).map (itOf 0) = (List.filter ((fun t : List B × Nat × B => decide (t.1 ≠ [])) ∘ pe) S).map ((fun t : List B × Nat × B => ((ba (pth t.1), (t.2.1 : Int), t.2.2) : It)) ∘ pe) := by
    refine List.map_congr_left fun e _ => ?_
    simp [itOf, pe]
  rw [h2, h1]
  have h3 : (List.filter ((fun t : List B × Nat × B => decide (t.1 ≠ [])) ∘ pe) (root0 :: its.map peE)) = its.map peE := by
    rw [List.filter_cons_of_neg (by simp [pe, root0])]
    refine List.filter_eq_self.2 fun e he => ?_
    obtain ⟨i, -, rfl⟩ := List.mem_map.1 he
    exact decide_eq_true (spl_ne i.1.data.toList)
  rw [h3, List.map_map]
  conv => rhs; rw [← List.map_id its]
  refine List.map_congr_left fun i hi => ?_
  have := itOf_peE (t.fin i hi)
  unfold itOf at this
  simpa [pe] using this
theorem Told9.items {lo : Nat} {w : World} {S : List En} {r : En} {its : List It} (t : Told9 S r its) (h : Tr lo w S) : icd S r = 0 ∧ itm S r = srt ikey its ∧ (its.map ikey).Nodup ∧ its.length ≤ 4096 := by
  have hp := h.below_root
  have hm := hp.map (itOf 0)
  rw [t.its] at hm
  have hk := h.keys (d := r) 65
  rw [t.rp, List.length_nil] at hk
  have hl : its.length + 1 = S.length := by have := congrArg List.length t.pes; simp at this; omega
  have hfew := t.few
  refine ⟨?_, ?_, ((hm.map ikey).nodup_iff).1 hk, by omega⟩
  · unfold icd
    rw [t.rp, List.length_nil]
    refine icode_zero ?_ ?_ ?_
    · have := hm.length_eq
      rw [List.length_map] at this
      omega
    · intro x hx
      have := hm.mem_iff.1 (List.mem_map.2 ⟨x, hx, rfl⟩)
      have := (t.fin _ this).1
      unfold itOf at this
      rw [ba_size] at this
      exact this
    · have h1 : ((dsc S 65 []).map used).sum = ((S.filter fun e => decide (e.p ≠ [])).map used).sum := (hp.map used).sum_nat
      have h2 : ((S.filter fun e => decide (e.p ≠ [])).map used).sum ≤ (S.map used).sum := by
        have : ∀ l : List En, ((l.filter fun e => decide (e.p ≠ [])).map used).sum ≤ (l.map used).sum := by
          intro l
          induction l with
          | nil => simp
          | cons a l ih =>
            rw [List.filter_cons]
            split <;> simp only [List.map_cons, List.sum_cons] <;> omega
        exact this S
      have := t.bok
      unfold byt at this
      omega
  · unfold itm
    rw [t.rp, List.length_nil]
    exact srt_perm_eq ikey hm hk
/-- Make, told by its list. -/
theorem MakeP.told {its : List It} {w w' : World} {e : Ending} (h : MakeP its w e w') : ∃ c i T, mkT [root0] its 0 = (c, i, T) ∧ Below w.heap.size w w' ∧ ((c ≠ 0 ∧ e = .returned (.tuple #[.pointer none, .int .i64 c, .int .i64 (i : Int)])) ∨
    (c = 0 ∧ ∃ S r, Tr w.heap.size w' S ∧ Told9 S r its ∧ e = .returned (.tuple #[Pt r.nb, .int .i64 0, .int .i64 0]))) := by
  obtain ⟨c, i, T, h1, h2, h3⟩ := h
  refine ⟨c, i, T, h1, h2, h3.imp id ?_⟩
  rintro ⟨rfl, S, r, k1, k2, k3, k4, k5, k6, k7, k8⟩
  obtain ⟨j1, -, j3⟩ := mkT_ok its _ _ _ _ h1
  exact ⟨rfl, S, r, k1, ⟨k2, k3, k4, by rw [k5, j1]; rfl, k6, k7, j3⟩, k8⟩
end Go.Proofs.YtbnaegoahdcejaaGreatDoor

namespace Go.Proofs.YtbnaegoahdcejaaGreatDoor
open Go.RowKit Go.ChangeMaps

def ibyt (l : List It) : Nat := (l.map fun i => if i.2.1 = 0 then i.2.2.length else 0).sum
theorem Tr.xlen {lo : Nat} {w : World} {S : List En} (h : Tr lo w S) {e : En} (he : e ∈ S) : e.x.length ≤ 4194304 := by
  by_cases hk : e.k = 1
  · rw [(h.dir e he hk).2.2.2.1]; simp
  · exact (h.lef e he hk).2.1
theorem Tr.ilen {lo : Nat} {w : World} {S : List En} (h : Tr lo w S) (d : En) : ∀ i ∈ itm S d, i.2.2.length ≤ 4194304 := fun i hi => by
  unfold itm at hi
  obtain ⟨e, he, rfl⟩ := List.mem_map.1 ((srt_mem _ _ _).1 hi)
  exact h.xlen (dsc_mem he).1
/-- What Count answers. -/
def cnt (S : List En) (d : En) : Value := if icd S d = 0 then .tuple #[.int .i64 ((itm S d).length : Int), .int .i64 (ibyt (itm S d) : Int), .int .i64 0] else .tuple #[.int .i64 0, .int .i64 0, .int .i64 (icd S d)]
theorem ibyt_take {l : List It} {i : Nat} {x : It} (h : l[i]? = some x) : ibyt (l.take (i + 1)) = ibyt (l.take i) + (if x.2.1 = 0 then x.2.2.length else 0) := by
  unfold ibyt
  rw [List.take_add_one, h]
  simp
theorem ibyt_le {l : List It} (h : ∀ i ∈ l, i.2.2.length ≤ 4194304) : ibyt l ≤ l.length * 4194304 := by
  induction l with
  | nil => simp [ibyt]
  | cons a l ih =>
    have h1 := h a (by simp)
    have h2 := ih (fun i hi => h i (by simp [hi]))
    unfold ibyt at h2 ⊢
    simp only [List.map_cons, List.sum_cons, List.length_cons]
    split <;> omega
set_option maxRecDepth 20000 in
set_option maxHeartbeats 2000000 in
theorem tcount_any {lo : Nat} {S : List En} {w : World} (h : Tr lo w S) (d : En) (hd : d ∈ S) (hk : d.k = 1) : Calls Tryz.prog 20 #[Pt d.nb] w fun e w' => e = .returned (cnt S d) ∧ Below w.heap.size w w' := by
  have AI := aside (items_any h d hd hk)
  have AX := aside (h.ilen d)
  obtain ⟨nb, hnb⟩ : ∃ nb, nb = d.nb := ⟨_, rfl⟩
  rw [← hnb] at AI ⊢
  clear h hnb
  go_enter Tryz.func20, Tryz.ntmps20
  go_wp2_with fail
  refine AI.out.mono ?_
  rintro e w1 ⟨hb1, hP⟩
  have AB1 := aside hb1
  clear AI hb1
  rcases hP with ⟨hi0, rfl⟩ | ⟨hi0, a, c, ms, rfl, hL, hit⟩
  · obtain ⟨ic, hic⟩ : ∃ ic, ic = icd S d := ⟨_, rfl⟩
    have Aic := aside hic
    rw [← hic] at hi0 ⊢
    have Ai0 := aside hi0
    clear hic hi0
    go_wp2_with fail
    go_loopg [3, 7, 15] 0 (fun g s3 _ s15 wx => g = 0 ∧ s3 = .int .i64 0 ∧ s15 = .int .i64 0 ∧ wx = w1)
    case atStart => exact ⟨rfl, rfl, rfl, rfl⟩
    case round =>
      obtain ⟨-, rfl, rfl, rfl⟩ := hrel
      go_wp2_with fail
      go_ret3
      exact ⟨by unfold cnt; rw [if_neg (by rw [← Aic.out]; exact Ai0.out), ← Aic.out]; rfl, AB1.out⟩
  · have hfw := hL.few
    have AL := aside hL
    have Ait := aside hit
    have Ai0 := aside hi0
    obtain ⟨n, hn⟩ : ∃ n, n = ms.length := ⟨_, rfl⟩
    rw [← hn] at hfw ⊢
    have AN := aside hn
    clear hL hit hi0 hn
    go_wp2_with fail
    go_loopg [3, 7, 15] n (fun g s3 _ s15 wx => ∃ i : Nat, i + g = n ∧ s15 = .int .i64 (i : Int) ∧ s3 = .int .i64 (ibyt ((ms.take i).map Im.it) : Int) ∧ Below w1.heap.size w1 wx)
    case atStart => exact ⟨0, by omega, rfl, rfl, Below.refl _ _⟩
    case round =>
      obtain ⟨i, hig, rfl, rfl, hbl⟩ := hrel
      have ABl := aside hbl
      clear hbl
      obtain ⟨y, hy⟩ : ∃ y, y = ibyt ((ms.take i).map Im.it) := ⟨_, rfl⟩
      have Ay := aside hy
      have hyl : y ≤ 4096 * 4194304 := by
        rw [hy]
        have h1 := ibyt_le (l := (ms.take i).map Im.it) (fun j hj => AX.out j (by
          rw [← Ait.out]
          obtain ⟨m, hm, rfl⟩ := List.mem_map.1 hj
          exact List.mem_map.2 ⟨m, List.mem_of_mem_take hm, rfl⟩))
        have h2 : ((ms.take i).map Im.it).length ≤ 4096 := by rw [List.length_map, List.length_take]; omega
        exact Nat.le_trans h1 (Nat.mul_le_mul_right 4194304 h2)
      have hyl : y ≤ 17179869184 := hyl
      rw [← hy]
      clear hy
      cases gk with
      | zero =>
        obtain rfl : i = n := by omega
        have hi : ¬ ((i : Nat) : Int) < (i : Int) := by omega
        go_wp2_with fail
        go_ret3
        refine ⟨?_, below_tr AB1.out ABl.out⟩
        unfold cnt
        rw [if_pos Ai0.out, ← Ait.out, List.length_map, ← AN.out]
        have : y = ibyt (ms.map Im.it) := by rw [Ay.out, AN.out, List.take_length]
        rw [← this]
        rfl
      | succ gk =>
        have hi : (i : Int) < (n : Int) := by omega
        obtain ⟨m, hmi⟩ : ∃ m, ms[i]? = some m := ⟨_, List.getElem?_eq_getElem (by rw [← AN.out]; omega)⟩
        obtain ⟨g, o, rfl, e0, e1, e2⟩ := (AL.out.below ABl.out).inp.at hmi
        have hxl : m.x.length ≤ 4194304 := AX.out m.it (by rw [← Ait.out]; exact List.mem_map.2 ⟨m, List.mem_of_getElem? hmi, rfl⟩)
        have htk : ibyt ((ms.take (i + 1)).map Im.it) = y + (if m.k = 0 then m.x.length else 0) := by
          have h1 : (ms.map Im.it)[i]? = some m.it := by rw [List.getElem?_map, hmi]; rfl
          have := ibyt_take h1
          rw [← List.map_take, ← List.map_take, ← Ay.out] at this
          exact this
        have Atk := aside htk
        obtain ⟨ml, hml⟩ : ∃ ml, ml = m.x.length := ⟨_, rfl⟩
        have Aml := aside hml
        rw [← hml] at e2 hxl
        obtain ⟨mk, hmk⟩ : ∃ mk, mk = m.k := ⟨_, rfl⟩
        have Amk := aside hmk
        rw [← hmk] at e1
        have hwi : IntKind.i64.wrap ((i : Int) + 1) = ((i + 1 : Nat) : Int) := by rw [wrap_small _ (by omega) (by omega)]; simp
        clear htk hml hmk hmi
        by_cases k0 : mk = 0
        · have Ak0 := aside k0
          subst k0
          obtain ⟨z, hz⟩ : ∃ z, z = y + ml := ⟨_, rfl⟩
          have hw2 : IntKind.i64.wrap ((y : Int) + (ml : Int)) = (z : Int) := by rw [wrap_small _ (by omega) (by omega), hz]; simp
          have Az := aside hz
          have hwl : IntKind.i64.wrap (ml : Int) = (ml : Int) := wrap_small _ (by omega) (by omega)
          clear hz
          go_wp2_with fail
          go_roundg gk
          case measure => omega
          case rel => exact ⟨i + 1, by omega, by first | rfl | simp, by rw [Atk.out, if_pos Amk.out.symm, ← Aml.out, ← Az.out], below_tr ABl.out (below_al _ _)⟩
        · have k1 : (mk == 0) = false := beq_eq_false_iff_ne.2 k0
          have Ak0 : Aside (¬ m.k = 0) := by show _; rw [← Amk.out]; exact k0
          go_wp2_with fail
          go_roundg gk
          case measure => omega
          case rel => exact ⟨i + 1, by omega, by first | rfl | simp, by rw [Atk.out, if_neg Ak0.out, Nat.add_zero], below_tr ABl.out (below_al _ _)⟩
theorem beq_list (a b : ByteArray) : (a.toList == b.toList) = decide (a = b) := by
  rw [Lib.toList_data, Lib.toList_data]
  by_cases h : a = b
  · subst h; simp
  · rw [decide_eq_false h]
    refine beq_eq_false_iff_ne.2 fun e => h ?_
    rw [← ba_of a, ← ba_of b, e]
theorem ba_eq (x y : B) : decide (ba x = ba y) = decide (x = y) := decide_eq_decide.2 ⟨ba_inj, fun e => by rw [e]⟩
set_option maxRecDepth 20000 in
theorem bEqual_any (a b : Option Addr) (x y : B) (c d : Nat) (w : World) (hx : BsAt w a x) (hy : BsAt w b y) : Calls Tryz.prog 62 #[.slice a x.length c, .slice b y.length d] w fun e w' => e = .returned (.bool (decide (x = y))) ∧ w' = w := by
  have h1 := str_all w a x c hx
  have h2 := str_all w b y d hy
  have h3 := beq_list (ba x) (ba y)
  rw [ba_eq] at h3
  obtain ⟨X, hX⟩ : ∃ X, X = ba x := ⟨_, rfl⟩
  obtain ⟨Y, hY⟩ : ∃ Y, Y = ba y := ⟨_, rfl⟩
  rw [← hX] at h1 h3
  rw [← hY] at h2 h3
  obtain ⟨q, hq⟩ : ∃ q, q = decide (x = y) := ⟨_, rfl⟩
  rw [← hq] at h3 ⊢
  obtain ⟨n, hn⟩ : ∃ n, n = x.length := ⟨_, rfl⟩
  obtain ⟨m, hm⟩ : ∃ m, m = y.length := ⟨_, rfl⟩
  rw [← hn] at h1 ⊢
  rw [← hm] at h2 ⊢
  clear hx hy hX hY hq hn hm
  go_enter Tryz.func62, Tryz.ntmps62
  go_wp2_with fail
  go_ret
  exact ⟨rfl, rfl⟩
end Go.Proofs.YtbnaegoahdcejaaGreatDoor

namespace Go.Proofs.YtbnaegoahdcejaaGreatDoor
open Go.RowKit Go.ChangeMaps

set_option maxRecDepth 20000 in
set_option maxHeartbeats 2000000 in
theorem same1_any (p1 p2 : ByteArray) (k1 k2 : Int) (a1 a2 : Option Addr) (x1 x2 : B) (c1 c2 : Nat) (w : World) (h1 : BsAt w a1 x1) (h2 : BsAt w a2 x2) :
    Calls Tryz.prog 61 #[.agg #[.string p1, .int .i8 k1, .slice a1 x1.length c1], .agg #[.string p2, .int .i8 k2, .slice a2 x2.length c2]] w fun e w' => e = .returned (.bool (decide ((p1, k1, x1) = (p2, k2, x2)))) ∧ Below w.heap.size w w' := by
  obtain ⟨W, hW⟩ : ∃ W, W = (w.alloc (.cells #[.string p1, .int .i8 k1, .slice a1 x1.length c1] 51)).alloc (.cells #[.string p2, .int .i8 k2, .slice a2 x2.length c2] 51) := ⟨_, rfl⟩
  have hB : Below w.heap.size w W := by rw [hW]; exact below_tr (below_al w _) (below_al _ _)
  have AE := aside (bEqual_any a1 a2 x1 x2 c1 c2 W (h1.below hB) (h2.below hB))
  have AB := aside hB
  have hpp := beq_list p1 p2
  obtain ⟨n1, hn1⟩ : ∃ n1, n1 = x1.length := ⟨_, rfl⟩
  obtain ⟨n2, hn2⟩ : ∃ n2, n2 = x2.length := ⟨_, rfl⟩
  rw [← hn1, ← hn2] at AE hW ⊢
  obtain ⟨q, hq⟩ : ∃ q, q = decide (x1 = x2) := ⟨_, rfl⟩
  rw [← hq] at AE
  have Aq := aside hq
  clear hB h1 h2 hn1 hn2 hq
  go_enter Tryz.func61, Tryz.ntmps61
  by_cases hp : p1 = p2
  · subst hp
    rw [decide_eq_true rfl] at hpp
    by_cases hk : k1 = k2
    · subst hk
      go_wp2_with fail
      rw [← hW]
      clear hW
      refine AE.out.mono ?_
      rintro e w' ⟨rfl, rfl⟩
      go_wp2_with fail
      go_ret
      refine ⟨?_, AB.out⟩
      have : decide ((p1, k1, x1) = (p1, k1, x2)) = q := by rw [Aq.out]; exact decide_eq_decide.2 (by simp)
      rw [this]
      rfl
    · have hk2 : (k1 == k2) = false := beq_eq_false_iff_ne.2 hk
      have Ak := aside hk
      go_wp2_with fail
      go_ret
      refine ⟨?_, by rw [← hW]; exact AB.out⟩
      rw [decide_eq_false (by simp [Ak.out])]
      rfl
  · rw [decide_eq_false hp] at hpp
    have Ap := aside hp
    clear hp
    go_wp2_with fail
    go_ret
    refine ⟨?_, by rw [← hW]; exact AB.out⟩
    rw [decide_eq_false (by simp [Ap.out])]
    rfl
set_option maxRecDepth 20000 in
set_option maxHeartbeats 4000000 in
theorem equal_any (a b : Option Addr) (ms ns : List Im) (n m c d : Nat) (w : World) (hn : n = ms.length) (hm : m = ns.length) (hnl : n ≤ 1000000000) (ha : Inp w a ms) (hb : Inp w b ns) :
    Calls Tryz.prog 60 #[.slice a n c, .slice b m d, .func (.func 61) #[] #[]] w fun e w' => e = .returned (.bool (decide (ms.map Im.it = ns.map Im.it))) ∧ Below w.heap.size w w' := by
  have Aa := aside ha
  have Ab := aside hb
  have An := aside hn
  have Am := aside hm
  clear ha hb
  go_enter Tryz.func60, Tryz.ntmps60
  by_cases hl : n = m
  · subst hl
    clear hn hm
    go_wp2_with fail
    go_loopg [7, 8, 9, 17] n (fun g _ _ _ s17 wx => ∃ i : Nat, i + g = n ∧ s17 = .int .i64 (i : Int) ∧ Below w.heap.size w wx ∧ (ms.take i).map Im.it = (ns.take i).map Im.it)
    case atStart => exact ⟨0, by omega, rfl, Below.refl _ _, rfl⟩
    case round =>
      obtain ⟨i, hig, rfl, hbl, heq⟩ := hrel
      have ABl := aside hbl
      have AEq := aside heq
      clear hbl heq
      cases gk with
      | zero =>
        obtain rfl : i = n := by omega
        have hi : ¬ ((i : Nat) : Int) < (i : Int) := by omega
        go_wp2_with fail
        go_ret
        refine ⟨?_, ABl.out⟩
        have := AEq.out
        rw [An.out, List.take_length, ← An.out, Am.out, List.take_length] at this
        rw [decide_eq_true this]
        rfl
      | succ gk =>
        have hi : (i : Int) < (n : Int) := by omega
        obtain ⟨x, hxi⟩ : ∃ x, ms[i]? = some x := ⟨_, List.getElem?_eq_getElem (by rw [← An.out]; omega)⟩
        obtain ⟨y, hyi⟩ : ∃ y, ns[i]? = some y := ⟨_, List.getElem?_eq_getElem (by rw [← Am.out]; omega)⟩
        have hIa := Aa.out.below ABl.out
        have hIb := Ab.out.below ABl.out
        obtain ⟨g, o, rfl, e0, e1, e2⟩ := hIa.at hxi
        obtain ⟨g2, o2, rfl, f0, f1, f2⟩ := hIb.at hyi
        obtain ⟨d1, -⟩ := hIa.dat x (List.mem_of_getElem? hxi)
        obtain ⟨d2, -⟩ := hIb.dat y (List.mem_of_getElem? hyi)
        obtain ⟨W, hW⟩ : ∃ W, W = (wr.alloc (.cells #[.string x.p, .int .i8 x.k, .slice x.a x.x.length x.c] 51)).alloc (.cells #[.string y.p, .int .i8 y.k, .slice y.a y.x.length y.c] 51) := ⟨_, rfl⟩
        have hB : Below wr.heap.size wr W := by rw [hW]; exact below_tr (below_al wr _) (below_al _ _)
        have AS := aside (same1_any x.p y.p x.k y.k x.a y.a x.x y.x x.c y.c W (d1.below hB) (d2.below hB))
        have hwi : IntKind.i64.wrap ((i : Int) + 1) = ((i + 1 : Nat) : Int) := by rw [wrap_small _ (by omega) (by omega)]; simp
        have f0' : ∀ o, (wr.alloc o).cell? ⟨g2, o2 + i * 3, none⟩ = some (.string y.p) := fun o => ((below_al wr o).cell (World.block_lt_of_cell? wr _ f0)).trans f0
        have f1' : ∀ o, (wr.alloc o).cell? ⟨g2, o2 + i * 3 + 1, none⟩ = some (.int .i8 y.k) := fun o => ((below_al wr o).cell (World.block_lt_of_cell? wr _ f1)).trans f1
        have f2' : ∀ o, (wr.alloc o).cell? ⟨g2, o2 + i * 3 + 2, none⟩ = some (.slice y.a y.x.length y.c) := fun o => ((below_al wr o).cell (World.block_lt_of_cell? wr _ f2)).trans f2
        obtain ⟨q, hq⟩ : ∃ q, q = decide ((x.p, x.k, x.x) = (y.p, y.k, y.x)) := ⟨_, rfl⟩
        rw [← hq] at AS
        have Aq := aside hq
        have AB := aside hB
        have Ax := aside hxi
        have Ay := aside hyi
        obtain ⟨nx, hnx⟩ : ∃ nx, nx = x.x.length := ⟨_, rfl⟩
        obtain ⟨ny, hny⟩ : ∃ ny, ny = y.x.length := ⟨_, rfl⟩
        rw [← hnx] at e2 hW AS
        rw [← hny] at f2 f2' hW AS
        clear hq hB hIa hIb d1 d2 hxi hyi hnx hny
        go_wp2_with fail
        rw [← hW]
        clear hW f0' f1' f2'
        refine AS.out.mono ?_
        rintro e w3 ⟨rfl, hb3⟩
        have AB3 := aside hb3
        clear hb3 AS
        cases q with
        | true =>
          go_wp2_with fail
          go_roundg gk
          case measure => omega
          case rel =>
            refine ⟨i + 1, by omega, by first | rfl | simp, below_tr (below_tr ABl.out AB.out) AB3.out, ?_⟩
            rw [List.take_add_one, List.take_add_one, Ax.out, Ay.out, List.map_append, List.map_append, AEq.out]
            have := of_decide_eq_true Aq.out.symm
            show _ ++ [x.it] = _ ++ [y.it]
            rw [show x.it = y.it from this]
        | false =>
          go_wp2_with fail
          go_ret
          refine ⟨?_, below_tr (below_tr ABl.out AB.out) AB3.out⟩
          rw [decide_eq_false]
          · rfl
          · intro e
            have h1 := congrArg (fun l : List It => l[i]?) e
            simp only [List.getElem?_map, Ax.out, Ay.out, Option.map_some, Option.some.injEq] at h1
            exact of_decide_eq_false Aq.out.symm h1
  · have hl2 : ¬ (n : Int) = (m : Int) := by omega
    have hl3 : ((n : Int) == (m : Int)) = false := beq_eq_false_iff_ne.2 hl2
    have hne : ¬ ms.map Im.it = ns.map Im.it := fun e => hl (by have := congrArg List.length e; simp only [List.length_map] at this; omega)
    have Ane := aside hne
    clear hn hm hl hne
    go_wp2_with fail
    go_ret
    exact ⟨by rw [decide_eq_false Ane.out]; rfl, Below.refl _ _⟩
/-- What Same answers. -/
def sameB (S : List En) (d : En) (S' : List En) (d' : En) : Bool := decide (icd S d = 0) && decide (icd S' d' = 0) && decide (itm S d = itm S' d')
set_option maxRecDepth 20000 in
set_option maxHeartbeats 2000000 in
theorem tsame_any {lo lo' : Nat} {S S' : List En} {w : World} (h : Tr lo w S) (h' : Tr lo' w S') (d d' : En) (hd : d ∈ S) (hk : d.k = 1) (hd' : d' ∈ S') (hk' : d'.k = 1) : Calls Tryz.prog 22 #[Pt d.nb, Pt d'.nb] w fun e w' => e = .returned (.bool (sameB S d S' d')) ∧ Below w.heap.size w w' := by
  have AI := aside (items_any h d hd hk)
  have AI2 := aside (fun W (hW : Below w.heap.size w W) => items_any (h'.below hW) d' hd' hk')
  obtain ⟨nb, hnb⟩ : ∃ nb, nb = d.nb := ⟨_, rfl⟩
  obtain ⟨nb2, hnb2⟩ : ∃ nb2, nb2 = d'.nb := ⟨_, rfl⟩
  rw [← hnb] at AI ⊢
  rw [← hnb2] at AI2 ⊢
  clear h h' hnb hnb2
  go_enter Tryz.func22, Tryz.ntmps22
  go_wp2_with fail
  refine AI.out.mono ?_
  rintro e w1 ⟨hb1, hP⟩
  have AB1 := aside hb1
  clear AI hb1
  rcases hP with ⟨hi0, rfl⟩ | ⟨hi0, a, c, ms, rfl, hL, hit⟩
  · have hs : sameB S d S' d' = false := by unfold sameB; rw [decide_eq_false hi0]; rfl
    have As := aside hs
    obtain ⟨ic, hic⟩ : ∃ ic, ic = icd S d := ⟨_, rfl⟩
    rw [← hic] at hi0 ⊢
    have hi1 : (ic == 0) = false := beq_eq_false_iff_ne.2 hi0
    clear hic hs
    go_wp2_with fail
    go_ret
    exact ⟨by rw [As.out]; rfl, AB1.out⟩
  · have AL := aside hL
    have Ait := aside hit
    have Ai0 := aside hi0
    have hfw := hL.few
    have hx := AI2.out w1 AB1.out
    have AX := aside hx
    obtain ⟨n, hn⟩ : ∃ n, n = ms.length := ⟨_, rfl⟩
    rw [← hn] at hfw ⊢
    have AN := aside hn
    clear hL hit hi0 hx hn
    go_wp2_with fail
    refine AX.out.mono ?_
    rintro e w2 ⟨hb2, hP⟩
    have AB2 := aside hb2
    clear AX hb2
    rcases hP with ⟨hj0, rfl⟩ | ⟨hj0, a2, c2, ms2, rfl, hL2, hit2⟩
    · have hs : sameB S d S' d' = false := by unfold sameB; rw [decide_eq_false hj0]; simp
      have As := aside hs
      obtain ⟨ic, hic⟩ : ∃ ic, ic = icd S' d' := ⟨_, rfl⟩
      rw [← hic] at hj0 ⊢
      have hi1 : (ic == 0) = false := beq_eq_false_iff_ne.2 hj0
      clear hic hs
      go_wp2_with fail
      go_ret
      exact ⟨by rw [As.out]; rfl, below_tr AB1.out AB2.out⟩
    · have AE := aside (equal_any a a2 ms ms2 n ms2.length c c2 w2 AN.out rfl (by omega) (AL.out.below AB2.out).inp hL2.inp)
      have hs : sameB S d S' d' = decide (ms.map Im.it = ms2.map Im.it) := by unfold sameB; rw [decide_eq_true Ai0.out, decide_eq_true hj0, Ait.out, hit2]; rfl
      have As := aside hs
      obtain ⟨q, hq⟩ : ∃ q, q = decide (ms.map Im.it = ms2.map Im.it) := ⟨_, rfl⟩
      rw [← hq] at AE As
      obtain ⟨n2, hn2⟩ : ∃ n2, n2 = ms2.length := ⟨_, rfl⟩
      rw [← hn2] at AE ⊢
      clear hq hs hL2 hit2 hj0 hn2
      go_wp2_with fail
      refine AE.out.mono ?_
      rintro e w3 ⟨rfl, hb3⟩
      have AB3 := aside hb3
      clear hb3
      go_wp2_with fail
      go_ret
      exact ⟨by rw [As.out]; rfl, below_tr (below_tr AB1.out AB2.out) AB3.out⟩
set_option maxRecDepth 20000 in
set_option maxHeartbeats 4000000 in
theorem sameItems_eq (a b : Option Addr) (ms ns : List Im) (n c d : Nat) (w : World) (hn : n = ms.length) (hnl : n ≤ 1000000000) (ha : Inp w a ms) (hb : Inp w b ns) (he : ms.map Im.it = ns.map Im.it) :
    Calls Tryz.prog 23 #[.slice a n c, .slice b n d] w fun e w' => e = .returned (.bool true) ∧ Below w.heap.size w w' := by
  have hm : n = ns.length := by have := congrArg List.length he; simp only [List.length_map] at this; omega
  have Aa := aside ha
  have Ab := aside hb
  have An := aside hn
  have Am := aside hm
  have Ae := aside he
  clear ha hb hn hm he
  go_enter Tryz.func23, Tryz.ntmps23
  go_wp2_with fail
  go_loopg [5] n (fun g s5 wx => ∃ i : Nat, i + g = n ∧ s5 = .int .i64 (i : Int) ∧ Below w.heap.size w wx)
  case atStart => exact ⟨0, by omega, rfl, Below.refl _ _⟩
  case round =>
    obtain ⟨i, hig, rfl, hbl⟩ := hrel
    have ABl := aside hbl
    clear hbl
    cases gk with
    | zero =>
      obtain rfl : i = n := by omega
      have hi : ¬ ((i : Nat) : Int) < (i : Int) := by omega
      go_wp2_with fail
      go_ret
      exact ⟨rfl, ABl.out⟩
    | succ gk =>
      have hi : (i : Int) < (n : Int) := by omega
      have hi0 : (0 : Int) ≤ (i : Int) := by omega
      obtain ⟨x, hxi⟩ : ∃ x, ms[i]? = some x := ⟨_, List.getElem?_eq_getElem (by rw [← An.out]; omega)⟩
      obtain ⟨y, hyi⟩ : ∃ y, ns[i]? = some y := ⟨_, List.getElem?_eq_getElem (by rw [← Am.out]; omega)⟩
      have hIa := Aa.out.below ABl.out
      have hIb := Ab.out.below ABl.out
      obtain ⟨g, o, rfl, e0, e1, e2⟩ := hIa.at hxi
      obtain ⟨g2, o2, rfl, f0, f1, f2⟩ := hIb.at hyi
      obtain ⟨d1, -⟩ := hIa.dat x (List.mem_of_getElem? hxi)
      obtain ⟨d2, -⟩ := hIb.dat y (List.mem_of_getElem? hyi)
      have hxy : x.it = y.it := by
        have h1 := congrArg (fun l : List It => l[i]?) Ae.out
        simpa only [List.getElem?_map, hxi, hyi, Option.map_some, Option.some.injEq] using h1
      unfold Im.it at hxy
      simp only [Prod.mk.injEq] at hxy
      obtain ⟨q1, q2, q3⟩ := hxy
      rw [← q1] at f0
      rw [← q2] at f1
      rw [← q3] at f2 d2
      have E0 := fun dd os => ext_cell e0 dd os
      have E1 := fun dd os => ext_cell e1 dd os
      have E2 := fun dd os => ext_cell e2 dd os
      have F0 := fun dd os => ext_cell f0 dd os
      have F1 := fun dd os => ext_cell f1 dd os
      have F2 := fun dd os => ext_cell f2 dd os
      have C1 := fun dd os => str_all (ext wr dd os) x.a x.x x.c (d1.below (below_ext wr dd os))
      have C2 := fun dd os => str_all (ext wr dd os) y.a x.x y.c (d2.below (below_ext wr dd os))
      obtain ⟨P, hP⟩ : ∃ P, P = x.p := ⟨_, rfl⟩
      obtain ⟨K, hK⟩ : ∃ K, K = x.k := ⟨_, rfl⟩
      obtain ⟨nx, hnx⟩ : ∃ nx, nx = x.x.length := ⟨_, rfl⟩
      obtain ⟨X, hX⟩ : ∃ X, X = ba x.x := ⟨_, rfl⟩
      rw [← hP] at E0 F0
      rw [← hK] at E1 F1
      rw [← hnx] at E2 F2 C1 C2
      rw [← hX] at C1 C2
      have hwi : IntKind.i64.wrap ((i : Int) + 1) = ((i + 1 : Nat) : Int) := by rw [wrap_small _ (by omega) (by omega)]; simp
      clear e0 e1 e2 f0 f1 f2 d1 d2 q1 q2 q3 hIa hIb hxi hyi hP hK hnx hX
      go_wp2_with fail
      refine region_ext (by kernel_rfl) (by kernel_rfl) ?_
      repeat (any_goals (first | go_big_quiet_step (fail) | quiet_step (fail)))
      refine wpQuiet_nil ?_
      intro w5 hw5
      have AB5 := aside hw5
      clear hw5
      go_wp2_with fail
      go_roundg gk
      case measure => omega
      case rel => exact ⟨i + 1, by omega, by first | rfl | simp, below_tr ABl.out AB5.out⟩
end Go.Proofs.YtbnaegoahdcejaaGreatDoor

namespace Go.Proofs.YtbnaegoahdcejaaGreatDoor
open Go.RowKit Go.ChangeMaps

def its3 : List It := [(⟨#[100]⟩, 1, []), (⟨#[100, 47, 97]⟩, 0, [120, 121]), (⟨#[108]⟩, 2, [100, 47, 97])]
theorem mk3 : (mkT [root0] its3 0).1 = 0 := by kernel_rfl
theorem mk2 : (mkT [root0] (its3.drop 1) 0).1 = 192 ∧ (mkT [root0] (its3.drop 1) 0).2.1 = 0 := ⟨by kernel_rfl, by kernel_rfl⟩
theorem srt3 : srt ikey its3 = its3 := (srt_uniq ikey (List.Perm.refl _) (by decide) (by decide)).symm
abbrev ms3 (b1 b2 : Nat) : List Im := [⟨⟨#[100]⟩, 1, [], none, 0⟩, ⟨⟨#[100, 47, 97]⟩, 0, [120, 121], some ⟨b1, 0, none⟩, 2⟩, ⟨⟨#[108]⟩, 2, [100, 47, 97], some ⟨b2, 0, none⟩, 3⟩]
theorem Inp.drop1 {W : World} {g o : Nat} {m : Im} {ms : List Im} (h : Inp W (some ⟨g, o, none⟩) (m :: ms)) : Inp W (some ⟨g, o + 3, none⟩) ms := by
  refine ⟨fun _ => ?_, fun x hx => h.dat x (by simp [hx])⟩
  obtain ⟨g', o', e, hc⟩ := h.cel (by simp)
  injection e with e
  injection e with e1 e2
  subst e1; subst e2
  refine ⟨g, o + 3, rfl, fun j v hj => ?_⟩
  have := hc (j + 3) v (by simpa [ims, Im.cs] using hj)
  rw [show o + 3 + j = o + (j + 3) by omega]
  exact this
theorem bs_lit {W : World} {b : Nat} {l : B} {f : Nat × Nat} (h : W.heap[b]? = some (.cells (bcells l).toArray 5 f)) : BsAt W (some ⟨b, 0, none⟩) l := fun _ => ⟨_, rfl, fun j v hj => by
  rw [Addr.add_lit, Nat.zero_add, cell_of_row W b j _ _ _ h]; simpa using hj⟩
set_option maxRecDepth 20000 in
set_option maxHeartbeats 4000000 in
theorem wakes19_any (w : World) (hM : Mxl w) : Calls Tryz.prog 10 #[] w fun e w' => e = .returned (.bool true) ∧ Below w.heap.size w w' := by
  have hcv := fun (w : World) (C : Array Value) (n c : Nat) => Lib.run_convert_bytes_const (P := Tryz.prog) w 48 5 C n c Tryz.underlying48 Tryz.underlying5
  have hcv2 := fun (w : World) (C : Array Value) (n c g : Nat) (hg : g = w.heap.size) => Joins.run_convert_bytes_const_at (P := Tryz.prog) w 48 5 C n c g hg Tryz.underlying48 Tryz.underlying5
  obtain ⟨gl, hgl⟩ : ∃ gl, gl = w.heap.size + 1 + 1 := ⟨_, rfl⟩
  obtain ⟨W, hW⟩ : ∃ W, W = ((w.alloc (.cells #[.int .u8 120, .int .u8 121] 5 (2, 3))).alloc (.cells #[.int .u8 100, .int .u8 47, .int .u8 97] 5 (3, 4))).alloc (.cells #[.string ⟨#[100]⟩, .int .i8 1, .slice none 0 0, .string ⟨#[100, 47, 97]⟩, .int .i8 0, .slice (some ⟨w.heap.size, 0, none⟩) 2 2, .string ⟨#[108]⟩, .int .i8 2, .slice (some ⟨w.heap.size + 1, 0, none⟩) 3 3] 51) := ⟨_, rfl⟩
  have hB : Below w.heap.size w W := by rw [hW]; exact below_tr (below_tr (below_al w _) (below_al _ _)) (below_al _ _)
  have hb1 : W.heap[w.heap.size]? = some (.cells (bcells [120, 121]).toArray 5 (2, 3)) := by
    rw [hW, (below_al _ _).block _ (by simp; omega), (below_al _ _).block _ (by simp)]; exact heap_alloc_new w _
  have hb2 : W.heap[w.heap.size + 1]? = some (.cells (bcells [100, 47, 97]).toArray 5 (3, 4)) := by
    rw [hW, (below_al _ _).block _ (by simp)]; exact heap_alloc2_new w _ _
  have hb3 : W.heap[gl]? = some (.cells (ims (ms3 w.heap.size (w.heap.size + 1))).toArray 51 (0, 0)) := by
    rw [hW, hgl]
    have := heap_alloc_new ((w.alloc (.cells #[.int .u8 120, .int .u8 121] 5 (2, 3))).alloc (.cells #[.int .u8 100, .int .u8 47, .int .u8 97] 5 (3, 4))) (.cells (ims (ms3 w.heap.size (w.heap.size + 1))).toArray 51)
    simp only [World.size_alloc] at this
    exact this
  have hI : Inp W (some ⟨gl, 0, none⟩) (ms3 w.heap.size (w.heap.size + 1)) := by
    refine ⟨fun _ => ⟨gl, 0, rfl, fun j v hj => ?_⟩, fun m hm => ?_⟩
    · rw [Nat.zero_add, cell_of_row W gl j _ _ _ hb3]; simpa using hj
    · simp only [ms3, List.mem_cons, List.not_mem_nil, or_false] at hm
      rcases hm with rfl | rfl | rfl
      · exact ⟨fun h => absurd rfl h, by decide, by decide⟩
      · exact ⟨bs_lit hb1, by simp, by simp⟩
      · exact ⟨bs_lit hb2, by simp, by simp⟩
  have AM := aside hM
  have AB := aside hB
  have AI := aside hI
  have AMW : Aside (Mxl W) := hM.below hB hM.lt
  have AK := aside (tmake_any (some ⟨gl, 0, none⟩) (ms3 w.heap.size (w.heap.size + 1)) 3 3 W rfl (by omega) hI AMW.out)
  clear hB hb1 hb2 hb3 hI hM
  go_enter Tryz.func10, Tryz.ntmps10
  go_wp2_with fail
  rw [← hW, ← hgl]
  clear hW hcv hcv2 hgl
  refine AK.out.mono ?_
  rintro e w1 hP
  obtain ⟨c, i, T, h1, h2, h3⟩ := MakeP.told hP
  have hc : c = 0 := by
    have := mk3
    rw [show its3 = (ms3 w.heap.size (w.heap.size + 1)).map Im.it from rfl, h1] at this
    exact this
  rcases h3 with ⟨h3, -⟩ | ⟨-, S, r, hT, hTo, rfl⟩
  · exact absurd hc h3
  obtain ⟨t1, t2, -, -⟩ := hTo.items hT
  rw [show (ms3 w.heap.size (w.heap.size + 1)).map Im.it = its3 from rfl, srt3] at t2
  have At1 := aside t1
  have At2 := aside t2
  have AT := aside hT
  have ATo := aside hTo
  have AB1 := aside h2
  have AIt := aside (items_any hT r hTo.rin hTo.rk)
  obtain ⟨nb, hnb⟩ : ∃ nb, nb = r.nb := ⟨_, rfl⟩
  have Anb := aside hnb
  rw [← hnb] at AIt ⊢
  clear AK hP h1 hc h2 hT hTo t1 t2 hnb
  go_wp2_with fail
  refine AIt.out.mono ?_
  rintro e w2 ⟨hb2, hP⟩
  have AB2 := aside hb2
  rcases hP with ⟨hx, -⟩ | ⟨-, a, c2, ms, rfl, hL, hit⟩
  · exact absurd At1.out hx
  have ACn := aside (tcount_any (AT.out.below hb2) r ATo.out.rin ATo.out.rk)
  have hcn : cnt S r = .tuple #[.int .i64 3, .int .i64 2, .int .i64 0] := by
    unfold cnt
    rw [if_pos At1.out, At2.out]
    rfl
  rw [hcn, ← Anb.out] at ACn
  have hml : ms.length = 3 := by
    have := congrArg List.length hit
    rw [At2.out] at this
    simpa [its3] using this
  have AL := aside hL
  have Ait := aside hit
  have Aml := aside hml
  rw [hml]
  clear hb2 hL hit hcn hml AIt
  go_wp2_with fail
  refine ACn.out.mono ?_
  rintro e w3 ⟨rfl, hb3⟩
  have AB3 := aside hb3
  have AB13 : Aside (Below W.heap.size W w3) := below_tr (below_tr AB1.out AB2.out) AB3.out
  have hI3 := AI.out.below AB13.out
  have AK2 := aside (tmake_any (some ⟨gl, 0 + 3, none⟩) _ 2 2 w3 rfl (by omega) hI3.drop1 (AMW.out.below AB13.out AMW.out.lt))
  have AI3 := aside hI3
  clear hb3 ACn hI3
  go_wp2_with fail
  refine AK2.out.mono ?_
  rintro e w4 hP
  obtain ⟨c4, i4, T4, h1, h2, h3⟩ := MakeP.told hP
  have hc : c4 = 192 ∧ i4 = 0 := by
    have := mk2
    rw [show its3.drop 1 = List.map Im.it [⟨⟨#[100, 47, 97]⟩, 0, [120, 121], some ⟨w.heap.size, 0, none⟩, 2⟩, ⟨⟨#[108]⟩, 2, [100, 47, 97], some ⟨w.heap.size + 1, 0, none⟩, 3⟩] from rfl, h1] at this
    exact this
  obtain ⟨rfl, rfl⟩ := hc
  rcases h3 with ⟨-, rfl⟩ | ⟨h3, -⟩
  · have AB4 := aside h2
    have hLw := (AL.out.below (below_tr AB3.out AB4.out))
    have hI4 := AI3.out.below AB4.out
    have ASI := aside (sameItems_eq a (some ⟨gl, 0, none⟩) ms _ 3 c2 3 w4 Aml.out.symm (by omega) hLw.inp hI4 (by rw [Ait.out, At2.out]; rfl))
    have ATr4 := aside (AT.out.below (below_tr (below_tr AB2.out AB3.out) AB4.out))
    clear AK2 hP h1 h2 hLw hI4
    go_wp2_with fail
    refine ASI.out.mono ?_
    rintro e w5 ⟨rfl, hb5⟩
    have AB5 := aside hb5
    have hTr5 := ATr4.out.below hb5
    have ASm := aside (tsame_any hTr5 hTr5 r r ATo.out.rin ATo.out.rk ATo.out.rin ATo.out.rk)
    have hsb : sameB S r S r = true := by unfold sameB; rw [At1.out]; simp
    rw [hsb, ← Anb.out] at ASm
    clear hb5 hTr5 hsb ASI
    go_wp2_with fail
    refine ASm.out.mono ?_
    rintro e w6 ⟨rfl, hb6⟩
    have AB6 := aside hb6
    clear hb6 ASm
    go_wp2_with fail
    go_ret
    exact ⟨rfl, below_tr (below_tr (below_tr (below_tr AB.out AB13.out) AB4.out) AB5.out) AB6.out⟩
  · cases h3
end Go.Proofs.YtbnaegoahdcejaaGreatDoor
