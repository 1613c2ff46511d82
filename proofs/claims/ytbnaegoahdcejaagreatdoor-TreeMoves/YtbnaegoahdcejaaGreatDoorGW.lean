/- The document's Items and Count. Two trees of the same entries, whatever their blocks: what Items and Count tell of them is the same. like: the program's tree and the document's are told the same. like, walked. -/
import Derived.Test.YtbnaegoahdcejaaGreatDoorGV
import Derived.Test.YtbnaegoahdcejaaGreatDoorGI
import Derived.Test.YtbnaegoahdcejaaGreatDoorGH
namespace Go.Proofs.YtbnaegoahdcejaaGreatDoor
open Go.RowKit Go.ChangeMaps

theorem rt_keys {F : World → Nat → B → Prop} {lo : Nat} {w : World} {S : List En} {rb : List B → Nat} (h : Rt F lo w S rb) (hN : NamD S) {d : En} (hd : d.p = []) : (((dsc S 65 d.p).map (itOf 0)).map ikey).Nodup := by
  have h1 : (dsc S 65 d.p).Pairwise (fun a b => a.p ≠ b.p) := List.pairwise_map.1 (dsc_nodup h.one 65 d.p)
  have hns : ∀ e ∈ S, nostroke e.p := fun e he n hn => (nok ((hN e he).2.2 n hn)).2.2
  rw [List.map_map]
  refine List.pairwise_map.2 (h1.imp_of_mem fun {a b} ha hb hab e => hab ?_)
  obtain ⟨haS, ra, ra0, -, ea⟩ := dsc_mem ha
  obtain ⟨hbS, rb, rb0, -, eb⟩ := dsc_mem hb
  simp only [Function.comp, ikey, itOf, ba_list, List.drop_zero] at e
  rw [hd, List.nil_append] at ea eb
  exact pth_inj (hns a haS) (hns b hbS) (by rw [ea]; exact ra0) (by rw [eb]; exact rb0) e
/-- What the document's Items answers. -/
def RItemsP (S : List En) (d : En) (w : World) (e : Ending) (w' : World) : Prop :=
  Below w.heap.size w w' ∧ ((icd S d ≠ 0 ∧ e = .returned (.tuple #[.slice none 0 0, .int .i64 (icd S d)])) ∨ (icd S d = 0 ∧ ∃ a c ms, e = .returned (.tuple #[.slice a ms.length c, .int .i64 0]) ∧ Inp w' a ms ∧ ms.length ≤ 4096 ∧ ms.length ≤ c ∧ ms.map Im.it = itm S d))
theorem Wgo.inp {w0 W : World} {wb n c : Nat} {a : Option Addr} {ms : List Im} {u : Nat} (h : Wgo w0 W wb (.slice a n c) ms u) : Inp W a ms := by
  refine ⟨fun hn => ?_, fun m hm => ⟨(h.dat m hm).bs, (h.dat m hm).cap, (h.dat m hm).top⟩⟩
  rcases h.row.2 with ⟨e, h0⟩ | ⟨g, cap, cur, e, -⟩
  · exact absurd (List.eq_nil_of_length_eq_zero h0) hn
  · injection e with e1 e2 e3
    exact ⟨g, 0, e1, fun j v hj => by
      have := h.row.cells (g := g) (by rw [e1, e2, e3]; rfl) j v hj
      simpa [Addr.add_lit] using this⟩
set_option maxRecDepth 20000 in
set_option maxHeartbeats 4000000 in
theorem ritems_any {lo : Nat} {S : List En} {rb : List B → Nat} {w : World} (h : Rt R4 lo w S rb) (hN : NamD S) {d : En} (hd : d ∈ S) (hk : d.k = 1) (hp : d.p = []) : Calls Tryz.prog 41 #[Pt (rb d.p)] w fun e w' => RItemsP S d w e w' := by
  have AKd := aside (h.kind hd)
  have AKy := aside (rt_keys h hN hp)
  obtain ⟨W, hW⟩ : ∃ W, W = w.alloc (.cells #[.slice none 0 0, .int .i64 0, .int .i64 0] 140) := ⟨_, rfl⟩
  have hB : Below w.heap.size w W := by rw [hW]; exact below_al w _
  have hc : W.heap[w.heap.size]? = some (.cells #[.slice none 0 0, .int .i64 0, .int .i64 0] 140 (0, 0)) := by rw [hW]; exact heap_alloc_new w _
  obtain ⟨D, hD⟩ : ∃ D, D = dsc S 65 d.p := ⟨_, rfl⟩
  have hI : Wgi D w w.heap.size 0 W := ⟨.slice none 0 0, [], 0, ⟨hB, Nat.le_refl _, hc, World.ownsRow_nil _ _ _ _, fun b hb => by simp [Value.ownBlock] at hb, fun m hm => by simp at hm⟩, by simp, rfl, Nat.zero_le _, Nat.zero_le _, Nat.zero_le _⟩
  have AR := aside (rin_any (D := D) h hN w.heap.size 65 d 0 W hd hk (by omega) ⟨[], [], by rw [hD]; simp, rfl⟩ hI)
  have hahd : ba (ahd d.p) = ⟨#[]⟩ := by rw [hp]; rfl
  rw [hahd, ← hD, Nat.zero_add] at AR
  rw [hk] at AKd
  rw [← hD] at AKy
  have AD := aside hD
  have Ap := aside hp
  obtain ⟨nb, hnb⟩ : ∃ nb, nb = rb d.p := ⟨_, rfl⟩
  rw [← hnb] at AR AKd ⊢
  have AB := aside hB
  obtain ⟨wb, hwb⟩ : ∃ wb, wb = w.heap.size := ⟨_, rfl⟩
  rw [← hwb] at AR
  have Awb := aside hwb
  have Aicd : Aside (icd S d = icode 0 D 0 4194304) := by show icd S d = _; unfold icd; rw [hp, List.length_nil, hD, hp]
  have Aitm : Aside (itm S d = srt ikey (D.map (itOf 0))) := by show itm S d = _; unfold itm; rw [hp, List.length_nil, hD, hp]
  clear h hN hd hk hp hB hc hI hahd hD hnb
  go_enter Tryz.func41, Tryz.ntmps41
  go_wp2_with fail
  refine AKd.out.mono ?_
  rintro e w1 ⟨rfl, rfl⟩
  clear AKd
  go_wp2_with fail
  rw [← hW, ← hwb]
  clear hW hwb
  refine AR.out.mono ?_
  rintro e w2 ⟨rfl, hres⟩
  clear AR
  rcases hres with ⟨v, ms, u, hV, hms, hic, -, hkl, -⟩ | ⟨hEb, hE0, v, u, hEc⟩
  · obtain ⟨va, vc, rfl, hvc⟩ := own_slice hV.row
    rw [List.take_length] at hms
    rw [List.drop_length] at hic
    have hml : ms.length ≤ 4096 := by have := congrArg List.length hms; simp at this; omega
    have e2 : w2.cell? ⟨wb, 2, none⟩ = some (.int .i64 0) := by rw [cell_of_row w2 wb 2 _ _ _ hV.cel]; rfl
    have e0 : w2.cell? ⟨wb, 0, none⟩ = some (.slice va ms.length vc) := by rw [cell_of_row w2 wb 0 _ _ _ hV.cel]; rfl
    have AO := aside (ordered_any ms.length va ms ms.length vc w2 (Nat.le_refl _) rfl hvc (by omega) hV.inp)
    have AV := aside hV
    have Ams := aside hms
    have Aic : Aside (icd S d = 0) := by show icd S d = 0; rw [Aicd.out, hic]; rfl
    clear hV hms hic hkl
    go_wp2_with fail
    refine AO.out.mono ?_
    rintro e w3 ⟨hb3, a3, c3, ms3, rfl, hc3, hI3, hp3, hr3⟩
    have AB3 := aside (AV.out.bel.trans (hb3.mono AV.out.bel.size))
    have AI3 := aside hI3
    have Ap3 := aside hp3
    have Ar3 := aside hr3
    clear hb3 hI3 hp3 hr3 AO
    go_wp2_with fail
    go_ret2
    have hl3 := Ap3.out.length_eq
    refine ⟨AB3.out, .inr ⟨Aic.out, a3, c3, ms3, by rw [hl3]; rfl, AI3.out, by rw [hl3]; exact hml, by rw [hl3]; exact hc3, ?_⟩⟩
    rw [Aitm.out]
    refine srt_uniq ikey ?_ ?_ AKy.out
    · rw [← Ams.out]; exact Ap3.out.map _
    · exact List.pairwise_map.2 Ar3.out
  · obtain ⟨ic, hic⟩ : ∃ ic, ic = icode 0 D 0 4194304 := ⟨_, rfl⟩
    rw [← hic] at hE0 hEc
    have e2 : w2.cell? ⟨wb, 2, none⟩ = some (.int .i64 ic) := by rw [cell_of_row w2 wb 2 _ _ _ hEc]; rfl
    have hib : (ic == 0) = false := beq_eq_false_iff_ne.2 hE0
    have AEb := aside hEb
    have Aic : Aside (icd S d = ic) := by show icd S d = ic; rw [Aicd.out, hic]
    have A0 := aside hE0
    clear hEb hE0 hEc hic
    go_wp2_with fail
    go_region
    all_goals (
      go_wp2_with fail
      go_ret2
      exact ⟨by first | exact AEb.out | exact below_tr AEb.out (below_dr _) | exact below_tr AEb.out (below_drn _ _), .inl ⟨by rw [Aic.out]; exact A0.out, by rw [Aic.out]; rfl⟩⟩)
theorem itm_xlen {S : List En} (hN : NamD S) (d : En) : ∀ i ∈ itm S d, i.2.2.length ≤ 4194304 := fun i hi => by
  unfold itm at hi
  obtain ⟨e, he, rfl⟩ := List.mem_map.1 ((srt_mem _ _ _).1 hi)
  exact (hN e (dsc_mem he).1).2.1.1
set_option maxRecDepth 20000 in
set_option maxHeartbeats 2000000 in
theorem rcount_any {lo : Nat} {S : List En} {rb : List B → Nat} {w : World} (h : Rt R4 lo w S rb) (hN : NamD S) {d : En} (hd : d ∈ S) (hk : d.k = 1) (hp : d.p = []) : Calls Tryz.prog 42 #[Pt (rb d.p)] w fun e w' => e = .returned (cnt S d) ∧ Below w.heap.size w w' := by
  have AI := aside (ritems_any h hN hd hk hp)
  have AX := aside (itm_xlen hN d)
  obtain ⟨nb, hnb⟩ : ∃ nb, nb = rb d.p := ⟨_, rfl⟩
  rw [← hnb] at AI ⊢
  clear h hnb hN hd hk hp
  go_enter Tryz.func42, Tryz.ntmps42
  go_wp2_with fail
  refine AI.out.mono ?_
  rintro e w1 ⟨hb1, hP⟩
  have AB1 := aside hb1
  clear AI hb1
  rcases hP with ⟨hi0, rfl⟩ | ⟨hi0, a, c, ms, rfl, hL, hfw, -, hit⟩
  · obtain ⟨ic, hic⟩ : ∃ ic, ic = icd S d := ⟨_, rfl⟩
    have Aic := aside hic
    rw [← hic] at hi0 ⊢
    have Ai0 := aside hi0
    have hib : (ic == 0) = false := beq_eq_false_iff_ne.2 hi0
    clear hic hi0
    go_wp2_with fail
    go_ret3
    exact ⟨by unfold cnt; rw [if_neg (by rw [← Aic.out]; exact Ai0.out), ← Aic.out]; rfl, AB1.out⟩
  · have AL := aside hL
    have Ait := aside hit
    have Ai0 := aside hi0
    obtain ⟨n, hn⟩ : ∃ n, n = ms.length := ⟨_, rfl⟩
    rw [← hn] at hfw ⊢
    have AN := aside hn
    clear hL hit hi0 hn
    go_wp2_with fail
    go_loopg [7, 8] n (fun g s7 s8 wx => ∃ i : Nat, i + g = n ∧ s8 = .int .i64 (i : Int) ∧ s7 = .int .i64 (ibyt ((ms.take i).map Im.it) : Int) ∧ Below w1.heap.size w1 wx)
    case atStart => exact ⟨0, by omega, rfl, rfl, Below.refl _ _⟩
    case round =>
      obtain ⟨i, hig, rfl, rfl, hbl⟩ := hrel
      have ABl := aside hbl
      clear hbl
      obtain ⟨y, hy⟩ : ∃ y, y = ibyt ((ms.take i).map Im.it) := ⟨_, rfl⟩
      have Ay := aside hy
      have hyl : y ≤ 4096 * 4194304 := by
        rw [hy]
        have h1 := ibyt_le (l := (ms.take i).map Im.it) (fun j hj => AX.out j (by
          rw [← Ait.out]
          obtain ⟨m, hm, rfl⟩ := List.mem_map.1 hj
          exact List.mem_map.2 ⟨m, List.mem_of_mem_take hm, rfl⟩))
        have h2 : ((ms.take i).map Im.it).length ≤ 4096 := by rw [List.length_map, List.length_take]; omega
        exact Nat.le_trans h1 (Nat.mul_le_mul_right 4194304 h2)
      have hyl : y ≤ 17179869184 := hyl
      rw [← hy]
      clear hy
      cases gk with
      | zero =>
        obtain rfl : i = n := by omega
        have hi : ¬ ((i : Nat) : Int) < (i : Int) := by omega
        go_wp2_with fail
        go_ret3
        refine ⟨?_, below_tr AB1.out ABl.out⟩
        unfold cnt
        rw [if_pos Ai0.out, ← Ait.out, List.length_map, ← AN.out]
        have : y = ibyt (ms.map Im.it) := by rw [Ay.out, AN.out, List.take_length]
        rw [← this]
        rfl
      | succ gk =>
        have hi : (i : Int) < (n : Int) := by omega
        obtain ⟨m, hmi⟩ : ∃ m, ms[i]? = some m := ⟨_, List.getElem?_eq_getElem (by rw [← AN.out]; omega)⟩
        obtain ⟨g, o, rfl, e0, e1, e2⟩ := (AL.out.below ABl.out).at hmi
        have hxl : m.x.length ≤ 4194304 := AX.out m.it (by rw [← Ait.out]; exact List.mem_map.2 ⟨m, List.mem_of_getElem? hmi, rfl⟩)
        have htk : ibyt ((ms.take (i + 1)).map Im.it) = y + (if m.k = 0 then m.x.length else 0) := by
          have h1 : (ms.map Im.it)[i]? = some m.it := by rw [List.getElem?_map, hmi]; rfl
          have := ibyt_take h1
          rw [← List.map_take, ← List.map_take, ← Ay.out] at this
          exact this
        have Atk := aside htk
        obtain ⟨ml, hml⟩ : ∃ ml, ml = m.x.length := ⟨_, rfl⟩
        have Aml := aside hml
        rw [← hml] at e2 hxl
        obtain ⟨mk, hmk⟩ : ∃ mk, mk = m.k := ⟨_, rfl⟩
        have Amk := aside hmk
        rw [← hmk] at e1
        have hwi : IntKind.i64.wrap ((i : Int) + 1) = ((i + 1 : Nat) : Int) := by rw [wrap_small _ (by omega) (by omega)]; simp
        clear htk hml hmk hmi
        by_cases k0 : mk = 0
        · have Ak0 := aside k0
          subst k0
          obtain ⟨z, hz⟩ : ∃ z, z = y + ml := ⟨_, rfl⟩
          have hw2 : IntKind.i64.wrap ((y : Int) + (ml : Int)) = (z : Int) := by rw [wrap_small _ (by omega) (by omega), hz]; simp
          have Az := aside hz
          have hwl : IntKind.i64.wrap (ml : Int) = (ml : Int) := wrap_small _ (by omega) (by omega)
          clear hz
          go_wp2_with fail
          go_roundg gk
          case measure => omega
          case rel => exact ⟨i + 1, by omega, by first | rfl | simp, by rw [Atk.out, if_pos Amk.out.symm, ← Aml.out, ← Az.out], ABl.out⟩
        · have k1 : (mk == 0) = false := beq_eq_false_iff_ne.2 k0
          have Ak0 : Aside (¬ m.k = 0) := by show _; rw [← Amk.out]; exact k0
          go_wp2_with fail
          go_roundg gk
          case measure => omega
          case rel => exact ⟨i + 1, by omega, by first | rfl | simp, by rw [Atk.out, if_neg Ak0.out, Nat.add_zero], ABl.out⟩
end Go.Proofs.YtbnaegoahdcejaaGreatDoor

namespace Go.Proofs.YtbnaegoahdcejaaGreatDoor
open Go.RowKit Go.ChangeMaps

/-- The same entries, but for their blocks. -/
def SamE (S T : List En) : Prop := ∀ t, (∃ e ∈ S, pe e = t) ↔ ∃ e ∈ T, pe e = t
theorem SamE.of_pe {S T : List En} (h : S.map pe = T.map pe) : SamE S T := fun t => by
  have : t ∈ S.map pe ↔ t ∈ T.map pe := by rw [h]
  simpa [List.mem_map] using this
def pnm (t : List B × Nat × B) : B := t.1.getLast?.getD []
theorem pnm_pe (e : En) : pnm (pe e) = e.nm := rfl
theorem kid_pe {S T : List En} (h : SamE S T) (hS : (S.map En.p).Nodup) (hT : (T.map En.p).Nodup) (p : List B) : (kidE S p).map pe = (kidE T p).map pe := by
  have pw : ∀ {U : List En}, (U.map En.p).Nodup → ((kidE U p).map pe).Pairwise (fun a b => pnm a < pnm b) := fun {U} hU => by
    rw [List.pairwise_map]
    exact (kidE_pw hU p).imp fun h => h
  refine sorted_uniq (R := fun a b => pnm a < pnm b) (fun _ _ h => b_asym _ _ h) _ _ (pw hS) (pw hT) fun t => ?_
  have mem : ∀ U : List En, t ∈ (kidE U p).map pe ↔ (∃ e ∈ U, pe e = t) ∧ t.1 = p ++ [pnm t] := fun U => by
    rw [List.mem_map]
    constructor
    · rintro ⟨e, he, rfl⟩
      obtain ⟨h1, h2⟩ := mem_kidE.1 he
      exact ⟨⟨e, h1, rfl⟩, h2⟩
    · rintro ⟨⟨e, he, rfl⟩, h2⟩
      exact ⟨e, mem_kidE.2 ⟨he, h2⟩, rfl⟩
  rw [mem, mem, h t]
theorem flat_pe {α : Type} {f g : En → List α} : ∀ {l m : List En}, l.map pe = m.map pe → (∀ a b, pe a = pe b → f a = g b) → l.flatMap f = m.flatMap g
  | [], [], _, _ => rfl
  | [], _ :: _, h, _ => by simp at h
  | _ :: _, [], h, _ => by simp at h
  | a :: l, b :: m, h, hf => by
    simp only [List.map_cons, List.cons.injEq] at h
    rw [List.flatMap_cons, List.flatMap_cons, hf a b h.1, flat_pe h.2 hf]
theorem dsc_pe {S T : List En} (h : SamE S T) (hS : (S.map En.p).Nodup) (hT : (T.map En.p).Nodup) : ∀ (f : Nat) (p : List B), (dsc S f p).map pe = (dsc T f p).map pe
  | 0, _ => rfl
  | f + 1, p => by
    unfold dsc
    rw [List.map_flatMap, List.map_flatMap]
    refine flat_pe (kid_pe h hS hT p) fun a b hab => ?_
    have hp : a.p = b.p := congrArg Prod.fst hab
    rw [List.map_cons, List.map_cons, hab, hp, dsc_pe h hS hT f b.p]
theorem vcode_pe {q k : Nat} {a b : En} {r : Nat} (h : pe a = pe b) : vcode q k a r = vcode q k b r ∧ used a = used b := by
  unfold pe at h
  simp only [Prod.mk.injEq] at h
  obtain ⟨h1, h2, h3⟩ := h
  unfold vcode used
  rw [h1, h2, h3]
  exact ⟨rfl, rfl⟩
theorem icode_pe {q : Nat} : ∀ {l m : List En} {k r : Nat}, l.map pe = m.map pe → icode q l k r = icode q m k r
  | [], [], _, _, _ => rfl
  | [], _ :: _, _, _, h => by simp at h
  | _ :: _, [], _, _, h => by simp at h
  | a :: l, b :: m, k, r, h => by
    simp only [List.map_cons, List.cons.injEq] at h
    obtain ⟨h1, h2⟩ := vcode_pe (q := q) (k := k) (r := r) h.1
    unfold icode
    rw [h1, h2, icode_pe h.2]
/-- What Items and Count tell of both is the same. -/
theorem SamE.told {S T : List En} (h : SamE S T) (hS : (S.map En.p).Nodup) (hT : (T.map En.p).Nodup) {a b : En} (hp : a.p = b.p) : icd S a = icd T b ∧ itm S a = itm T b ∧ cnt S a = cnt T b := by
  have hd := dsc_pe h hS hT 65 b.p
  have h1 : icd S a = icd T b := by
    unfold icd
    rw [hp]
    exact icode_pe hd
  have h2 : itm S a = itm T b := by
    unfold itm
    rw [hp]
    have := congrArg (fun l : List (List B × Nat × B) => l.map fun t => ((ba (pth (t.1.drop b.p.length)), (t.2.1 : Int), t.2.2) : It)) hd
    simp only [List.map_map] at this
    exact congrArg (srt ikey) this
  refine ⟨h1, h2, ?_⟩
  unfold cnt
  rw [h1, h2]
end Go.Proofs.YtbnaegoahdcejaaGreatDoor

namespace Go.Proofs.YtbnaegoahdcejaaGreatDoor
open Go.RowKit Go.ChangeMaps

theorem set_fz {w : World} {b i : Nat} {cs : Array Value} {T : TypeId} {v : Value} {fz : Nat × Nat} (h : w.heap[b]? = some (.cells cs T fz)) : (w.setCell ⟨b, i, none⟩ v).heap[b]? = some (.cells (cs.setIfInBounds i v) T fz) := by
  simp [World.setCell, Array.getElem?_modify, h]
/-- A list of items in new memory that may be written over. -/
structure Scr (lo : Nat) (W : World) (a : Option Addr) (ms : List Im) : Prop where
  row : ms ≠ [] → ∃ g cur, a = some ⟨g, 0, none⟩ ∧ lo ≤ g ∧ W.heap[g]? = some (.cells cur 51 (0, 0)) ∧ ∀ i m, ms[i]? = some m → (∃ s, cur[i * 3]? = some (.string s)) ∧ cur[i * 3 + 2]? = some (.slice m.a m.x.length m.c)
  dat : ∀ m ∈ ms, m.x ≠ [] → ∃ g cur fz, m.a = some ⟨g, 0, none⟩ ∧ lo ≤ g ∧ W.heap[g]? = some (.cells cur 5 fz) ∧ m.x.length ≤ cur.size ∧ (fz.2 = 0 ∨ m.x.length ≤ fz.1)
theorem Lms.scr {lo : Nat} {W : World} {a : Option Addr} {n c : Nat} {ms : List Im} (h : Lms lo W (.slice a n c) ms) : Scr lo W a ms := by
  refine ⟨fun hn => ?_, fun m hm hx => ?_⟩
  · rcases h.row.2 with ⟨e, h0⟩ | ⟨g, cap, cur, e, h1, h2, h3, h4, h5, h6⟩
    · exact absurd (List.eq_nil_of_length_eq_zero h0) hn
    · injection e with e1 e2 e3
      have hc : ∀ (j : Nat) (v : Value), (ims ms)[j]? = some v → cur[j]? = some v := fun j v hj => by
        have := h.row.cells (g := g) (by rw [e1, e2, e3]; rfl) j v hj
        rw [Addr.add_lit, Nat.zero_add, cell_of_row W g j _ _ _ h2] at this
        exact this
      exact ⟨g, cur, e1, h.rb g (by rw [e1]; rfl), h2, fun i m hi => ⟨⟨_, hc _ _ (ims_at hi).1⟩, hc _ _ (ims_at hi).2.2⟩⟩
  · obtain ⟨g, cur, fz, h1, h2, h3, h4, h5⟩ := (h.dat m hm).mem hx
    refine ⟨g, cur, fz, h1, h2, h3, ?_, h5⟩
    have := congrArg List.length h4
    rw [List.length_take, bcells_length, Array.length_toList] at this
    omega
theorem Scr.below {lo : Nat} {W W' : World} {a : Option Addr} {ms : List Im} (h : Scr lo W a ms) (b : Below W.heap.size W W') : Scr lo W' a ms := by
  refine ⟨fun hn => ?_, fun m hm hx => ?_⟩
  · obtain ⟨g, cur, h1, h2, h3, h4⟩ := h.row hn
    exact ⟨g, cur, h1, h2, (b.block g (Array.getElem?_eq_some_iff.1 h3).1).trans h3, h4⟩
  · obtain ⟨g, cur, fz, h1, h2, h3, h4⟩ := h.dat m hm hx
    exact ⟨g, cur, fz, h1, h2, (b.block g (Array.getElem?_eq_some_iff.1 h3).1).trans h3, h4⟩
theorem Scr.load {lo : Nat} {W : World} {a : Option Addr} {ms : List Im} (h : Scr lo W a ms) {i : Nat} {m : Im} (hi : ms[i]? = some m) : ∃ g, a = some ⟨g, 0, none⟩ ∧ W.cell? ⟨g, i * 3 + 2, none⟩ = some (.slice m.a m.x.length m.c) := by
  obtain ⟨g, cur, h1, -, h3, h4⟩ := h.row (fun e => by rw [e] at hi; simp at hi)
  exact ⟨g, h1, by rw [cell_of_row W g _ _ _ _ h3]; exact (h4 i m hi).2⟩
theorem scr_ne {W : World} {g k : Nat} {cs cr : Array Value} {T U : TypeId} {f e : Nat × Nat} (h : W.heap[g]? = some (.cells cs T f)) (h2 : W.heap[k]? = some (.cells cr U e)) (hT : T ≠ U) : k ≠ g := fun hk => by
  rw [hk, h] at h2
  injection h2 with h2
  injection h2 with _ h2 _
  exact hT h2
/-- One byte is written over. -/
theorem Scr.byte {lo : Nat} {W : World} {a : Option Addr} {ms : List Im} (h : Scr lo W a ms) {m : Im} (hm : m ∈ ms) {j : Nat} (hj : j < m.x.length) (v : Value) :
    ∃ g, m.a = some ⟨g, 0, none⟩ ∧ (∃ u, W.cell? ⟨g, j, none⟩ = some u) ∧ W.frozen? ⟨g, j, none⟩ = false ∧ Aside (Scr lo (W.setCell ⟨g, j, none⟩ v) a ms ∧ (lo ≤ W.heap.size → Below lo W (W.setCell ⟨g, j, none⟩ v))) := by
  obtain ⟨g, cur, fz, h1, h2, h3, h4, h5⟩ := h.dat m hm (fun e => by rw [e] at hj; simp at hj)
  refine ⟨g, h1, ⟨cur[j]'(by omega), by rw [cell_of_row W g j _ _ _ h3, Array.getElem?_eq_getElem]⟩, ?_, ⟨fun hn => ?_, fun m' hm' hx' => ?_⟩, fun hl => (Upd.setCell (F := fun k => k = g) (p := ⟨g, j, none⟩) rfl v).below hl (fun k hk => by rw [hk]; exact h2)⟩
  · unfold World.frozen?
    rw [h3]
    obtain ⟨f1, f2⟩ := fz
    simp only at h5 ⊢
    rcases h5 with e | e
    · subst e; simp
    · have : ¬ f1 ≤ j := by omega
      simp [this]
  · obtain ⟨g', cur', e1, e2, e3, e4⟩ := h.row hn
    exact ⟨g', cur', e1, e2, set_far e3 (scr_ne h3 e3 (by decide)), e4⟩
  · obtain ⟨g', cur', fz', e1, e2, e3, e4, e5⟩ := h.dat m' hm' hx'
    by_cases hg : g' = g
    · subst hg
      rw [h3] at e3
      injection e3 with e3
      injection e3 with q1 _ q3
      subst q1; subst q3
      exact ⟨g', _, fz, e1, e2, set_fz h3, by rw [Array.size_setIfInBounds]; exact e4, e5⟩
    · exact ⟨g', cur', fz', e1, e2, set_far e3 hg, e4, e5⟩
/-- A path is written over. -/
theorem Scr.path {lo : Nat} {W : World} {a : Option Addr} {ms : List Im} (h : Scr lo W a ms) {i : Nat} {m : Im} (hi : ms[i]? = some m) (s : ByteArray) :
    ∃ g, a = some ⟨g, 0, none⟩ ∧ (∃ u, W.cell? ⟨g, i * 3, none⟩ = some u) ∧ W.frozen? ⟨g, i * 3, none⟩ = false ∧ Aside (Scr lo (W.setCell ⟨g, i * 3, none⟩ (.string s)) a ms ∧ (lo ≤ W.heap.size → Below lo W (W.setCell ⟨g, i * 3, none⟩ (.string s)))) := by
  have hne : ms ≠ [] := fun e => by rw [e] at hi; simp at hi
  obtain ⟨g, cur, h1, h2, h3, h4⟩ := h.row hne
  obtain ⟨⟨t, ht⟩, -⟩ := h4 i m hi
  refine ⟨g, h1, ⟨_, by rw [cell_of_row W g _ _ _ _ h3]; exact ht⟩, frozen_of_row W g _ _ _ h3, ⟨fun _ => ⟨g, _, h1, h2, set_same h3, fun i' m' hi' => ?_⟩, fun m' hm' hx' => ?_⟩, fun hl => (Upd.setCell (F := fun k => k = g) (p := ⟨g, i * 3, none⟩) rfl _).below hl (fun k hk => by rw [hk]; exact h2)⟩
  · obtain ⟨⟨t', ht'⟩, hd'⟩ := h4 i' m' hi'
    refine ⟨?_, ?_⟩
    · by_cases e : i * 3 = i' * 3
      · refine ⟨s, ?_⟩
        rw [← e, Array.getElem?_setIfInBounds_self]
        rw [if_pos (Array.getElem?_eq_some_iff.1 ht).1]
      · exact ⟨t', by rw [Array.getElem?_setIfInBounds_ne e]; exact ht'⟩
    · rw [Array.getElem?_setIfInBounds_ne (by omega)]; exact hd'
  · obtain ⟨g', cur', fz', e1, e2, e3, e4⟩ := h.dat m' hm' hx'
    exact ⟨g', cur', fz', e1, e2, set_far e3 (scr_ne h3 e3 (by decide)), e4⟩
set_option maxRecDepth 20000 in
set_option maxHeartbeats 1000000 in
theorem ritems_nil (w : World) : Calls Tryz.prog 41 #[.pointer none] w fun e w' => e = .returned (.tuple #[.slice none 0 0, .int .i64 1]) ∧ w' = w := by
  go_enter Tryz.func41, Tryz.ntmps41
  go_wp2_with fail
  go_ret2
  exact ⟨rfl, rfl⟩
set_option maxRecDepth 20000 in
set_option maxHeartbeats 1000000 in
theorem rcount_nil (w : World) : Calls Tryz.prog 42 #[.pointer none] w fun e w' => e = .returned (.tuple #[.int .i64 0, .int .i64 0, .int .i64 1]) ∧ w' = w := by
  have AI := aside (ritems_nil w)
  go_enter Tryz.func42, Tryz.ntmps42
  go_wp2_with fail
  refine AI.out.mono ?_
  rintro e w1 ⟨rfl, rfl⟩
  go_wp2_with fail
  go_ret3
  exact ⟨rfl, rfl⟩
/-- What Items and Count tell of both: lists of items, a code, three numbers. -/
structure Pair (w : World) (u v : Value) (ic : Int) (L : List It) (c1 c2 c3 : Int) : Prop where
  it : ∀ V, Below w.heap.size w V → Calls Tryz.prog 19 #[u] V fun e W => Below V.heap.size V W ∧ ∃ a c ms, e = .returned (.tuple #[.slice a ms.length c, .int .i64 ic]) ∧ Scr V.heap.size W a ms ∧ Inp W a ms ∧ ms.map Im.it = L ∧ ms.length ≤ 4096
  ri : ∀ V, Below w.heap.size w V → Calls Tryz.prog 41 #[v] V fun e W => Below V.heap.size V W ∧ ∃ a c ms, e = .returned (.tuple #[.slice a ms.length c, .int .i64 ic]) ∧ Inp W a ms ∧ ms.map Im.it = L
  cn : ∀ V, Below w.heap.size w V → Calls Tryz.prog 20 #[u] V fun e W => Below V.heap.size V W ∧ e = .returned (.tuple #[.int .i64 c1, .int .i64 c2, .int .i64 c3])
  rc : ∀ V, Below w.heap.size w V → Calls Tryz.prog 42 #[v] V fun e W => Below V.heap.size V W ∧ e = .returned (.tuple #[.int .i64 c1, .int .i64 c2, .int .i64 c3])
  bl : ∀ i ∈ L, i.2.2.length ≤ 4194304
theorem inp_nil (W : World) : Inp W none [] := ⟨fun h => absurd rfl h, fun m hm => by simp at hm⟩
theorem pair_nil (w : World) : Pair w (.pointer none) (.pointer none) 1 [] 0 0 1 := by
  refine ⟨fun V _ => ?_, fun V _ => ?_, fun V _ => ?_, fun V _ => ?_, fun i hi => by simp at hi⟩
  · exact (items_err (nod_nil V)).mono fun e W ⟨h1, h2⟩ => ⟨h2, none, 0, [], h1, ⟨fun h => absurd rfl h, fun m hm => by simp at hm⟩, inp_nil W, rfl, by simp⟩
  · exact (ritems_nil V).mono fun e W ⟨h1, h2⟩ => by
      subst h2
      exact ⟨Below.refl _ _, none, 0, [], h1, inp_nil _, rfl⟩
  · exact (count_err (nod_nil V)).mono fun e W ⟨h1, h2⟩ => ⟨h2, h1⟩
  · exact (rcount_nil V).mono fun e W ⟨h1, h2⟩ => by
      subst h2
      exact ⟨Below.refl _ _, h1⟩
theorem pair_tree {lo lo2 : Nat} {w : World} {S T : List En} {rb : List B → Nat} {r d : En} (hS : Tr lo w S) (hT : Rt R4 lo2 w T rb) (hN : NamD T) (hE : SamE S T) (hr : r ∈ S) (hrk : r.k = 1) (hrp : r.p = []) (hd : d ∈ T) (hdk : d.k = 1) (hdp : d.p = []) :
    ∃ ic L c1 c2 c3, Pair w (Pt r.nb) (Pt (rb d.p)) ic L c1 c2 c3 := by
  obtain ⟨h1, h2, h3⟩ := hE.told hS.one hT.one (hrp.trans hdp.symm)
  have hcn : ∃ c1 c2 c3, cnt S r = .tuple #[.int .i64 c1, .int .i64 c2, .int .i64 c3] := by
    unfold cnt
    split
    · exact ⟨_, _, _, rfl⟩
    · exact ⟨_, _, _, rfl⟩
  obtain ⟨c1, c2, c3, hc⟩ := hcn
  refine ⟨icd S r, if icd S r = 0 then itm S r else [], c1, c2, c3, fun V hV => ?_, fun V hV => ?_, fun V hV => ?_, fun V hV => ?_, fun i hi => ?_⟩
  · refine (items_any (hS.below hV) r hr hrk).mono ?_
    rintro e W ⟨hb, ⟨h0, rfl⟩ | ⟨h0, a, c, ms, rfl, hL, hit⟩⟩
    · rw [if_neg h0]
      exact ⟨hb, none, 0, [], rfl, ⟨fun h => absurd rfl h, fun m hm => by simp at hm⟩, inp_nil W, rfl, by simp⟩
    · rw [if_pos h0, h0]
      exact ⟨hb, a, c, ms, rfl, hL.scr, hL.inp, hit, hL.few⟩
  · refine (ritems_any (hT.below r4_st hV) hN hd hdk hdp).mono ?_
    rintro e W ⟨hb, ⟨h0, rfl⟩ | ⟨h0, a, c, ms, rfl, hI, -, -, hit⟩⟩
    · rw [← h1] at h0 ⊢
      rw [if_neg h0]
      exact ⟨hb, none, 0, [], rfl, inp_nil W, rfl⟩
    · rw [← h1] at h0
      rw [if_pos h0, h0]
      exact ⟨hb, a, c, ms, rfl, hI, hit.trans h2.symm⟩
  · exact (tcount_any (hS.below hV) r hr hrk).mono fun e W ⟨h4, h5⟩ => ⟨h5, by rw [h4, hc]⟩
  · exact (rcount_any (hT.below r4_st hV) hN hd hdk hdp).mono fun e W ⟨h4, h5⟩ => ⟨h5, by rw [h4, ← h3, hc]⟩
  · split at hi
    · exact hS.ilen r i hi
    · simp at hi
end Go.Proofs.YtbnaegoahdcejaaGreatDoor

namespace Go.Proofs.YtbnaegoahdcejaaGreatDoor
open Go.RowKit Go.ChangeMaps

set_option maxRecDepth 20000 in
set_option maxHeartbeats 8000000 in
theorem like_any {w : World} {u v : Value} {ic : Int} {L : List It} {c1 c2 c3 : Int} (h : Pair w u v ic L c1 c2 c3) : Calls Tryz.prog 15 #[u, v] w fun e w' => e = .returned (.bool true) ∧ Below w.heap.size w w' := by
  have AP := aside h
  clear h
  go_enter Tryz.func15, Tryz.ntmps15
  go_wp2_with fail
  go_loopg [4, 5, 6, 7, 8, 9, 10, 11] 2 (fun g _ s5 _ _ _ _ _ _ wx => ∃ i : Nat, i + g = 2 ∧ s5 = .int .i64 (i : Int) ∧ Below w.heap.size w wx)
  case atStart => exact ⟨0, by omega, rfl, Below.refl _ _⟩
  case round =>
    obtain ⟨i, hig, rfl, hbl⟩ := hrel
    have ABl := aside hbl
    cases gk with
    | zero =>
      obtain rfl : i = 2 := by omega
      have AC := aside (AP.out.cn wr hbl)
      have ARC := aside (fun V (hV : Below w.heap.size w V) => AP.out.rc V hV)
      clear hbl
      go_wp2_with fail
      refine AC.out.mono ?_
      rintro e w1 ⟨hb1, rfl⟩
      have AB1 := aside (below_tr ABl.out hb1)
      clear hb1 AC
      go_wp2_with fail
      refine (ARC.out w1 AB1.out).mono ?_
      rintro e w2 ⟨hb2, rfl⟩
      have AB2 := aside (below_tr AB1.out hb2)
      clear hb2 ARC
      go_wp2_with fail
      go_ret
      exact ⟨rfl, AB2.out⟩
    | succ g1 =>
      have hi : (i : Int) < 2 := by omega
      have hwi : IntKind.i64.wrap ((i : Int) + 1) = ((i + 1 : Nat) : Int) := by rw [wrap_small _ (by omega) (by omega)]; simp
      have AI := aside (AP.out.it wr hbl)
      have ARI := aside (fun V (hV : Below w.heap.size w V) => AP.out.ri V hV)
      clear hbl
      go_wp2_with fail
      refine AI.out.mono ?_
      rintro e w1 ⟨hb1, a, c, ms, rfl, hS, hI, hL, hfw⟩
      have AB1 := aside (below_tr ABl.out hb1)
      have Ab1 := aside hb1
      have AS := aside hS
      have AIn := aside hI
      have AL := aside hL
      clear hb1 hS hI hL AI
      go_wp2_with fail
      refine (ARI.out w1 AB1.out).mono ?_
      rintro e w2 ⟨hb2, a2, c2', ms2, rfl, hI2, hL2⟩
      have AB2 := aside (below_tr AB1.out hb2)
      have Ab2 : Aside (Below wr.heap.size wr w2) := below_tr Ab1.out hb2
      have hl2 : ms2.length = ms.length := by have h1 := congrArg List.length (hL2.trans AL.out.symm); simpa using h1
      rw [hl2]
      obtain ⟨n, hn⟩ : ∃ n, n = ms.length := ⟨_, rfl⟩
      have An := aside hn
      have ASI := aside (sameItems_eq a a2 ms ms2 n c c2' w2 hn (by omega) (AIn.out.below hb2) hI2 (AL.out.trans hL2.symm))
      have AS2 := aside (AS.out.below hb2)
      rw [← hn]
      have hnl : n ≤ 4096 := by omega
      clear hb2 hI2 hL2 hl2 hn ARI hfw
      go_wp2_with fail
      refine ASI.out.mono ?_
      rintro e w3 ⟨rfl, hb3⟩
      have Ab3 : Aside (Below wr.heap.size wr w3) := below_tr Ab2.out hb3
      have AS3 := aside (AS2.out.below hb3)
      clear hb3 ASI
      go_wp2_with fail
      go_loopg [10, 11] n (fun g s10 _ wx => ∃ k : Nat, k + g = n ∧ s10 = .int .i64 (k : Int) ∧ Below wr.heap.size wr wx ∧ Scr wr.heap.size wx a ms)
      case atStart => exact ⟨0, by omega, rfl, Ab3.out, AS3.out⟩
      case round =>
        rename World => wk
        obtain ⟨k, hkg, rfl, hbk, hsk⟩ := hrel
        have ABk := aside hbk
        have ASk := aside hsk
        clear hbk hsk
        cases gk with
        | zero =>
          obtain rfl : k = n := by omega
          have hk : ¬ (k : Int) < (k : Int) := by omega
          go_wp2_with fail
          go_roundg g1
          case measure => omega
          case rel => exact ⟨i + 1, by omega, by first | rfl | simp, below_tr ABl.out ABk.out⟩
        | succ g2 =>
          have hk : (k : Int) < (n : Int) := by omega
          have hk0 : (0 : Int) ≤ (k : Int) := by omega
          have hwk : IntKind.i64.wrap ((k : Int) + 1) = ((k + 1 : Nat) : Int) := by rw [wrap_small _ (by omega) (by omega)]; simp
          obtain ⟨m, hmk⟩ : ∃ m, ms[k]? = some m := ⟨_, List.getElem?_eq_getElem (by rw [← An.out]; omega)⟩
          obtain ⟨g, rfl, -⟩ := ASk.out.load hmk
          have Amk := aside hmk
          obtain ⟨xl, hxl⟩ : ∃ xl, xl = m.x.length := ⟨_, rfl⟩
          have hxle : xl ≤ 4194304 := by
            rw [hxl]
            exact AP.out.bl m.it (by rw [← AL.out]; exact List.mem_map.2 ⟨m, List.mem_of_getElem? hmk, rfl⟩)
          have Axl := aside hxl
          clear hmk hxl
          go_wp2_with fail
          go_loopg [11] xl (fun q s11 wx => ∃ j : Nat, j + q = xl ∧ s11 = .int .i64 (j : Int) ∧ Below wr.heap.size wr wx ∧ Scr wr.heap.size wx (some ⟨g, 0, none⟩) ms)
          case atStart => exact ⟨0, by omega, rfl, ABk.out, ASk.out⟩
          case round =>
            rename World => wj
            obtain ⟨j, hjq, rfl, hbj, hsj⟩ := hrel
            have ABj := aside hbj
            have ASj := aside hsj
            obtain ⟨g', hg', hld⟩ := hsj.load Amk.out
            injection hg' with hg'
            injection hg' with hg' _ _
            subst hg'
            rw [← Axl.out] at hld
            clear hbj hsj
            cases gk with
            | zero =>
              obtain rfl : j = xl := by omega
              have hj : ¬ (j : Int) < (j : Int) := by omega
              obtain ⟨g', hg', ⟨o1, ho1⟩, hf1, hS1⟩ := ASj.out.path Amk.out ⟨#[63]⟩
              injection hg' with hg'
              injection hg' with hg' _ _
              subst hg'
              have hfin : Aside (Below wr.heap.size wr (wj.setCell ⟨g, k * 3, none⟩ (.string ⟨#[63]⟩)) ∧ Scr wr.heap.size (wj.setCell ⟨g, k * 3, none⟩ (.string ⟨#[63]⟩)) (some ⟨g, 0, none⟩) ms) := ⟨ABj.out.trans (hS1.out.2 ABj.out.size), hS1.out.1⟩
              clear hS1
              go_wp2_with fail
              go_roundg g2
              case measure => omega
              case rel => exact ⟨k + 1, by omega, by first | rfl | simp, hfin.out.1, hfin.out.2⟩
            | succ g3 =>
              have hj : (j : Int) < (xl : Int) := by omega
              have hj0 : (0 : Int) ≤ (j : Int) := by omega
              have hwj : IntKind.i64.wrap ((j : Int) + 1) = ((j + 1 : Nat) : Int) := by rw [wrap_small _ (by omega) (by omega)]; simp
              obtain ⟨gb, hgb, ⟨o1, ho1⟩, hf1, hS1⟩ := ASj.out.byte (List.mem_of_getElem? Amk.out) (j := j) (by rw [← Axl.out]; omega) (.int .u8 123)
              rw [hgb] at hld
              have hfin : Aside (Below wr.heap.size wr (wj.setCell ⟨gb, j, none⟩ (.int .u8 123)) ∧ Scr wr.heap.size (wj.setCell ⟨gb, j, none⟩ (.int .u8 123)) (some ⟨g, 0, none⟩) ms) := ⟨ABj.out.trans (hS1.out.2 ABj.out.size), hS1.out.1⟩
              clear hS1 hgb
              go_wp2_with fail
              go_roundg g3
              case measure => omega
              case rel => exact ⟨j + 1, by omega, by first | rfl | simp, hfin.out.1, hfin.out.2⟩
end Go.Proofs.YtbnaegoahdcejaaGreatDoor
