/- The document's Move. Mounts and whites on both sides; what is refused; Drop in a tree. TreeMoves: both trees in one world. TreeMoves: a Move, a Drop on both sides. TreeMoves: a Drop, an Add of a new node on both sides. TreeMoves: new mounts and whites on both sides; what is found at a path. -/
import Derived.Test.YtbnaegoahdcejaaGreatDoorGX
import Derived.Test.YtbnaegoahdcejaaGreatDoorGW
namespace Go.Proofs.YtbnaegoahdcejaaGreatDoor
open Go.RowKit Go.ChangeMaps

theorem hgt_sub {T : List En} {cp : List B} : hgt (sub cp T) [] = hgt T cp := by
  refine hgt_eq (fun e he hp => ?_) ?_
  · have h1 : (e.rel cp) ∈ sub cp T := mem_sub.2 ⟨e, he, hp, rfl⟩
    have h2 := hgt_le h1 (List.nil_prefix)
    obtain ⟨r, hr, hr2⟩ := pre_split hp
    have h3 : (e.rel cp).p = r := hr2
    rw [h3] at h2
    rw [hr, List.length_append]
    simp only [List.length_nil] at h2
    omega
  · rcases hgt_is (sub cp T) [] with h0 | ⟨e, he, -, hl⟩
    · exact .inl h0
    · obtain ⟨y, hy, hp, rfl⟩ := mem_sub.1 he
      obtain ⟨r, hr, hr2⟩ := pre_split hp
      have h3 : (y.rel cp).p = r := hr2
      rw [h3] at hl
      simp only [List.length_nil] at hl
      exact .inr ⟨y, hy, hp, by rw [hr, List.length_append]; omega⟩
/-- The tree behind a Move. -/
def mvt (T : List En) (d t c : En) (n a : B) : List En := if mvc T d t c n a = 0 ∧ ¬ (t.p = d.p ∧ a = n) then mvd T c (t.p ++ [a]) else T
def mvb (T : List En) (rb : List B → Nat) (d t c : En) (n a : B) : List B → Nat := if mvc T d t c n a = 0 ∧ ¬ (t.p = d.p ∧ a = n) then rbm rb c.p (t.p ++ [a]) else rb
/-- What the document's Move leaves. -/
def RMovP (F : World → Nat → B → Prop) (lo : Nat) (T : List En) (rb : List B → Nat) (d t c : En) (n a : B) (w : World) (e : Ending) (w' : World) : Prop :=
  e = .returned (.int .i64 (mvc T d t c n a)) ∧ Ch 0 (Ty [127]) w w' ∧ Below lo w w' ∧ Rt F lo w' (mvt T d t c n a) (mvb T rb d t c n a)
theorem any_ex {T : List En} {p : List B} : (T.any fun c => decide (c.p = p)) = true ↔ ∃ e ∈ T, e.p = p := by simp
set_option maxRecDepth 20000 in
set_option maxHeartbeats 8000000 in
theorem rMove_any {F : World → Nat → B → Prop} (hF : Fst F) {lo : Nat} {w : World} {T : List En} {rb : List B → Nat} (h : Rt F lo w T rb) (hlw : lo ≤ w.heap.size) (hN : NamD T) (hfew : T.length ≤ 4096) {d t c : En} {n : B} (hd : d ∈ T) (hdk : d.k = 1) (ht : t ∈ T) (htk : t.k = 1) (hc : c ∈ T) (hp : c.p = d.p ++ [n]) (a : B) (ha : a.length ≤ 1000000000) :
    Calls Tryz.prog 44 #[Pt (rb d.p), .string (ba n), Pt (rb t.p), .string (ba a)] w fun e w' => RMovP F lo T rb d t c n a w e w' := by
  have hdep : ∀ e ∈ T, e.p.length ≤ 64 := fun e he => (hN e he).1
  have hnn : n.length ≤ 64 ∧ nameOk (ba n) = true := by
    have h1 := (hN c hc).2.2 n (by rw [hp]; simp)
    exact ⟨(nok h1).2.1, h1⟩
  have Ahn := aside hnn
  clear hnn hN
  have AH := aside h
  have q := h.rq
  have Aq := aside q
  have AKd := aside (h.kind hd)
  have AKt := aside (h.kind ht)
  rw [hdk] at AKd
  rw [htk] at AKt
  have AG : Aside (Calls Tryz.prog 38 #[Pt (rb d.p), .string (ba n)] w fun r w' => r = .returned (.tuple #[Pt (rb c.p), .int .i64 0]) ∧ Below w.heap.size w w') := (rt_get h hd n).mono fun r w' ⟨h1, hb⟩ => by
    rcases h1 with ⟨-, rfl⟩ | ⟨h1, -⟩
    · exact ⟨by rw [hp], hb⟩
    · exact absurd ⟨c, hc, hp⟩ h1
  have AQ : Aside (∀ W, Below w.heap.size w W → (binOp .eql 31 (Pt (rb d.p)) (Pt (rb t.p))).run Tryz.prog W = .ok (.bool (decide (rb d.p = rb t.p))) W) := fun W hW => by
    have h1 := h.below hF hW
    obtain ⟨c1, g1⟩ := (h1.dir d hd hdk).node.1
    obtain ⟨c2, g2⟩ := (h1.dir t ht htk).node.1
    exact eq_rnode g1 g2
  have hdt : rb d.p = rb t.p ↔ t.p = d.p := ⟨fun e => (h.inj d hd t ht e).symm, fun e => by rw [e]⟩
  have AP := aside hp
  have Ahd := aside hd
  have Aht := aside ht
  have Ahc := aside hc
  have Ahdk := aside hdk
  have Ahtk := aside htk
  have Adep := aside hdep
  have Afew := aside hfew
  have stay : Aside (mvt T d t c n a = T ∧ mvb T rb d t c n a = rb → ∀ w', Below w.heap.size w w' → Ch 0 (Ty [127]) w w' ∧ Below lo w w' ∧ Rt F lo w' (mvt T d t c n a) (mvb T rb d t c n a)) := fun ⟨e1, e2⟩ w' hb => by
    rw [e1, e2]
    exact ⟨Ch.of_below hb, hb.mono hlw, h.below hF hb⟩
  by_cases hsame : t.p = d.p ∧ a = n
  · have hm : mvc T d t c n a = 0 := by unfold mvc; rw [if_pos hsame]
    have Ast := aside (stay.out ⟨by unfold mvt; rw [if_neg (fun e => e.2 hsame)], by unfold mvb; rw [if_neg (fun e => e.2 hsame)]⟩)
    unfold RMovP
    rw [hm]
    obtain ⟨htd, rfl⟩ := hsame
    rw [htd] at AQ AKt ⊢
    rw [decide_eq_true rfl] at AQ
    obtain ⟨fb, hfb⟩ : ∃ fb, fb = rb d.p := ⟨_, rfl⟩
    obtain ⟨cb, hcb⟩ : ∃ cb, cb = rb c.p := ⟨_, rfl⟩
    obtain ⟨N, hN⟩ : ∃ N, N = ba a := ⟨_, rfl⟩
    rw [← hfb] at AKd AKt AG AQ
    rw [← hN, ← hcb] at AG
    rw [← hfb, ← hN]
    clear hm hfb hcb hN h q hd ht hc hp hdk htk hdep hfew htd hdt stay
    go_enter Tryz.func44, Tryz.ntmps44
    go_wp2_with fail
    refine AKd.out.mono ?_
    rintro e w' ⟨rfl, rfl⟩
    go_wp2_with fail
    refine AKt.out.mono ?_
    rintro e w' ⟨rfl, rfl⟩
    go_wp2_with fail
    refine AG.out.mono ?_
    rintro e w1 ⟨rfl, hb1⟩
    have B1 := aside hb1
    have heq := AQ.out w1 hb1
    clear hb1 AG AQ AKd AKt
    go_wp2_with fail
    go_ret
    exact ⟨rfl, Ast.out _ B1.out⟩
  · obtain ⟨cd, hcd⟩ : ∃ cd, cd = mvc T d t c n a := ⟨_, rfl⟩
    have hm : cd = if rnc T t.p a ≠ 0 then rnc T t.p a else if c.p <+: t.p then 200 else adc (out c.p T) (sub c.p T) t.p a := by rw [hcd]; unfold mvc; rw [if_neg hsame]
    have Amt : Aside (mvt T d t c n a = (if cd = 0 then mvd T c (t.p ++ [a]) else T) ∧ mvb T rb d t c n a = (if cd = 0 then rbm rb c.p (t.p ++ [a]) else rb)) := by
      constructor
      · unfold mvt
        rw [← hcd]
        by_cases h0 : cd = 0
        · rw [if_pos ⟨h0, hsame⟩, if_pos h0]
        · rw [if_neg (fun e => h0 e.1), if_neg h0]
      · unfold mvb
        rw [← hcd]
        by_cases h0 : cd = 0
        · rw [if_pos ⟨h0, hsame⟩, if_pos h0]
        · rw [if_neg (fun e => h0 e.1), if_neg h0]
    have Ano : Aside (cd ≠ 0 → mvt T d t c n a = T ∧ mvb T rb d t c n a = rb) := fun h0 => by
      rw [Amt.out.1, Amt.out.2, if_neg h0, if_neg h0]; exact ⟨rfl, rfl⟩
    unfold RMovP
    rw [← hcd]
    have hcase : (decide (rb d.p = rb t.p) = true ∧ ((ba n).toList == (ba a).toList) = false) ∨ decide (rb d.p = rb t.p) = false := by
      by_cases e : t.p = d.p
      · left
        refine ⟨decide_eq_true (hdt.2 e), beq_eq_false_iff_ne.2 fun e0 => hsame ⟨e, ?_⟩⟩
        rw [Lib.toList_data, Lib.toList_data, ba_list, ba_list] at e0
        exact e0.symm
      · exact .inr (decide_eq_false fun e2 => e (hdt.1 e2))
    have AN := aside (fun W => rName_any a W ha)
    have AGa := aside (fun W (hW : Below w.heap.size w W) => rt_get (h.below hF hW) ht a)
    have ABl : Aside (∀ W, Below w.heap.size w W → Calls Tryz.prog 80 #[Pt (rb c.p), Pt (rb t.p)] W fun e w' => e = .returned (.bool (decide (c.p <+: t.p))) ∧ w' = W) := fun W hW => by
      have h1 := h.below hF hW
      obtain ⟨f, tt, m, L, u, hR⟩ := h1.rg.rc q hc
      obtain ⟨c1, g1⟩ := hR.node.1
      have h2 := below19_any _ _ (rb c.p) W g1 (h1.up _ ht htk rfl)
      have hiff : rb c.p ∈ rb t.p :: rway rb t.p.length t.p ↔ c.p <+: t.p := by
        rw [List.mem_cons]
        constructor
        · rintro (e | hm)
          · rw [h.inj c hc t ht e]; exact List.prefix_refl _
          · obtain ⟨r, hr, e⟩ := rway_mem hm
            obtain ⟨z, hz, hzp⟩ := q.pre _ ht rfl hr
            rw [← hzp] at e
            rw [h.inj c hc z hz e, hzp]
            exact hr
        · intro hpr
          have mem : ∀ (k : Nat) (p : List B), p.length = k → c.p <+: p → c.p ≠ p → rb c.p ∈ rway rb k p := by
            intro k
            induction k with
            | zero =>
              intro p hp0 h3 h4
              rw [List.eq_nil_of_length_eq_zero hp0] at h3 h4
              exact absurd (List.prefix_nil.1 h3) h4
            | succ k ih =>
              intro p hpk h3 h4
              have h5 := pre_drop h3 h4
              unfold rway
              by_cases h6 : c.p = p.dropLast
              · rw [h6]; simp
              · exact List.mem_cons_of_mem _ (ih p.dropLast (by rw [List.length_dropLast]; omega) h5 h6)
          by_cases e : c.p = t.p
          · exact .inl (by rw [e])
          · exact .inr (mem _ _ rfl hpr e)
      rw [show decide (c.p <+: t.p) = decide (rb c.p ∈ rb t.p :: rway rb t.p.length t.p) from decide_eq_decide.2 hiff.symm]
      exact h2
    have ATk := aside (fun W (hW : Below w.heap.size w W) => rg_take hF (h.below hF hW).rg q hd hdk hc hp)
    have Alw := aside hlw
    have Aha := aside ha
    have Ahl := aside h.low
    obtain ⟨fb, hfb⟩ : ∃ fb, fb = rb d.p := ⟨_, rfl⟩
    obtain ⟨tb, htb⟩ : ∃ tb, tb = rb t.p := ⟨_, rfl⟩
    obtain ⟨cb, hcb⟩ : ∃ cb, cb = rb c.p := ⟨_, rfl⟩
    obtain ⟨N, hN⟩ : ∃ N, N = ba n := ⟨_, rfl⟩
    obtain ⟨A, hA⟩ : ∃ A, A = ba a := ⟨_, rfl⟩
    have Afb := aside hfb
    have Atb := aside htb
    have Acb := aside hcb
    have ANn := aside hN
    have AAa := aside hA
    have Am := aside hm
    rw [← hfb] at AKd AG ATk
    rw [← htb] at AKt AGa ABl
    rw [← hfb, ← htb] at AQ hcase
    rw [← hN, ← hcb] at AG
    rw [← hN, ← hcb] at ATk
    rw [← hA] at AN AGa
    rw [← hcb] at ABl
    rw [← hN, ← hA] at hcase
    rw [← hfb, ← htb, ← hN, ← hA]
    clear h q hd ht hc hp hdk htk hdep hfew hfb htb hcb hN hA hcd hm hsame hlw ha hdt
    rcases hcase with ⟨hq1, hq2⟩ | hq1 <;> rw [hq1] at AQ <;> clear hq1 <;>
    · go_enter Tryz.func44, Tryz.ntmps44
      go_wp2_with fail
      refine AKd.out.mono ?_
      rintro e w' ⟨rfl, rfl⟩
      go_wp2_with fail
      refine AKt.out.mono ?_
      rintro e w' ⟨rfl, rfl⟩
      go_wp2_with fail
      refine AG.out.mono ?_
      rintro e w1 ⟨rfl, hb1⟩
      have B1 := aside hb1
      have heq := AQ.out w1 hb1
      clear hb1 AG AQ AKd AKt
      cases hok : nameOk A with
      | false =>
        have AN1 := aside (AN.out w1)
        rw [hok] at AN1
        have Acd : Aside (cd = 190) := by
          rw [Am.out]
          unfold rnc
          rw [← AAa.out, if_pos hok]
          exact rfl
        clear AN hok
        go_wp2_with fail
        refine AN1.out.mono ?_
        rintro e w2 ⟨rfl, rfl⟩
        go_wp2_with fail
        go_ret
        exact ⟨by rw [Acd.out]; rfl, stay.out (Ano.out (by rw [Acd.out]; decide)) _ B1.out⟩
      | true =>
        have AN1 := aside (AN.out w1)
        rw [hok] at AN1
        have Aok := aside hok
        have AG1 := aside (AGa.out w1 B1.out)
        clear AN hok AGa
        go_wp2_with fail
        refine AN1.out.mono ?_
        rintro e w2 ⟨rfl, rfl⟩
        go_wp2_with fail
        refine AG1.out.mono ?_
        rintro e w3 ⟨hres, hb3⟩
        have B3 := aside (below_tr B1.out hb3)
        clear hb3 AG1 AN1
        rcases hres with ⟨hex, rfl⟩ | ⟨hno, c0, hc0, rfl⟩
        · have Acd : Aside (cd = 191) := by
            have h1 : rnc T t.p a = 191 := by
              unfold rnc
              rw [if_neg (by rw [← AAa.out, Aok.out]; decide), if_pos (any_ex.2 hex)]
            rw [Am.out, h1]
            exact rfl
          go_wp2_with fail
          go_ret
          exact ⟨by rw [Acd.out]; rfl, stay.out (Ano.out (by rw [Acd.out]; decide)) _ B3.out⟩
        · have hc0b : (c0 == 0) = false := beq_eq_false_iff_ne.2 hc0
          have h1 : rnc T t.p a = 0 := by
            unfold rnc
            rw [if_neg (by rw [← AAa.out, Aok.out]; decide), if_neg (fun e => hno (any_ex.1 e))]
          have Am1 : Aside (cd = if c.p <+: t.p then 200 else adc (out c.p T) (sub c.p T) t.p a) := by
            have := Am.out
            rw [h1, if_neg (fun e => e rfl)] at this
            exact this
          have Ahno := aside hno
          have AB3 := aside (ABl.out w3 B3.out)
          clear Am h1 hno hc0 ABl
          by_cases hw : c.p <+: t.p
          · rw [decide_eq_true hw] at AB3
            have Acd : Aside (cd = 200) := by rw [Am1.out, if_pos hw]; exact rfl
            clear hw
            go_wp2_with fail
            refine AB3.out.mono ?_
            rintro e w4 ⟨rfl, rfl⟩
            go_wp2_with fail
            go_ret
            exact ⟨by rw [Acd.out]; rfl, stay.out (Ano.out (by rw [Acd.out]; decide)) _ B3.out⟩
          · rw [decide_eq_false hw] at AB3
            have Ahw := aside hw
            have Am2 : Aside (cd = acx T c.p t.p a) := by
              rw [Am1.out, if_neg hw]
              unfold adc acx
              rw [hgt_sub]
              by_cases c1 : nameOk (ba a) = false
              · rw [if_pos c1, if_pos c1]; exact rfl
              · rw [if_neg c1, if_neg c1, if_neg (fun e => by
                  obtain ⟨z, hz, hzp⟩ := any_ex.1 e
                  exact Ahno.out ⟨z, (mem_out.1 hz).1, hzp⟩)]
                exact rfl
            have ATk3 := aside (ATk.out w3 B3.out)
            clear hw ATk
            go_wp2_with fail
            refine AB3.out.mono ?_
            rintro e w4 ⟨rfl, rfl⟩
            go_wp2_with fail
            refine ATk3.out.mono ?_
            rintro e w5 ⟨rfl, hg5, hu5⟩
            have Ag5 := aside hg5
            have Au5 := aside hu5
            have AAd := aside (rg_add hF hg5 Aq.out Adep.out Afew.out Ahc.out Aht.out Ahtk.out AP.out Ahw.out a Aha.out (.inr Ahno.out))
            rw [← Atb.out, ← AAa.out, ← Acb.out, ← Am2.out] at AAd
            clear hg5 hu5 ATk3 AB3
            go_wp2_with fail
            refine AAd.out.mono ?_
            rintro e w6 ⟨rfl, h6⟩
            have A6 := aside h6
            clear h6 AAd
            have Abl : Aside (∀ (X : List B → Prop) (U V : World), Upd (fun k => ∃ e ∈ T, e.k = 1 ∧ X e.p ∧ k = rb e.p) U V → lo ≤ U.heap.size → Below lo U V) := fun X U V hu hl => hu.below hl (fun k ⟨e, he, _, _, hk⟩ => by rw [hk]; exact Ahl.out e he)
            have A5 : Aside (Ch 0 (Ty [127]) w' w5 ∧ Below lo w' w5) := by
              refine ⟨(Ch.of_below B3.out).trans (Rg.chg (AH.out.below hF B3.out).rg Ag5.out (X := fun p => p = d.p ∨ p = c.p) Au5.out), (B3.out.mono Alw.out).trans (Abl.out (fun p => p = d.p ∨ p = c.p) _ _ Au5.out (Nat.le_trans Alw.out B3.out.size))⟩
            by_cases h0 : cd = 0
            · subst h0
              go_wp2_with fail
              go_ret
              rcases A6.out with ⟨-, hg6, hu6⟩ | ⟨h60, -⟩
              · rw [Acb.out] at hg6
                refine ⟨rfl, A5.out.1.trans (Rg.chg Ag5.out hg6 (X := fun p => p = t.p ∨ p = c.p) hu6), A5.out.2.trans (Abl.out (fun p => p = t.p ∨ p = c.p) _ _ hu6 (Nat.le_trans Alw.out A5.out.2.size)), ?_⟩
                rw [Amt.out.1, Amt.out.2]
                simp only [↓reduceIte]
                exact Mvg.told ⟨Aq.out, Ahd.out, Ahc.out, Aht.out, Ahtk.out, AP.out, Ahno.out, Ahw.out⟩ Ahl.out hg6
              · exact absurd rfl h60
            · have h0b : (cd == 0) = false := beq_eq_false_iff_ne.2 h0
              have hb6 : Below w5.heap.size w5 w6 := by
                rcases A6.out with ⟨h60, -⟩ | ⟨-, hb⟩
                · exact absurd h60 h0
                · exact hb
              have hgb := Ag5.out.below hF hb6
              have hnd : ¬ c.p <+: d.p := fun e => by have := e.length_le; rw [AP.out, List.length_append, List.length_singleton] at this; omega
              have hnl : n.length ≤ 1000000000 := by have := Ahn.out.1; omega
              have hz : acx T c.p d.p n = 0 := by
                unfold acx
                rw [if_neg (by rw [Ahn.out.2]; decide), if_neg]
                have h1 : c.p.length = d.p.length + 1 := by rw [AP.out]; simp
                rcases hgt_is T c.p with e0 | ⟨z, hz1, -, hz2⟩
                · have := Adep.out c Ahc.out; omega
                · have := Adep.out z hz1; omega
              have AAb := aside (rg_add hF hgb Aq.out Adep.out Afew.out Ahc.out Ahd.out Ahdk.out AP.out hnd n hnl (.inl AP.out.symm))
              rw [← Afb.out, ← ANn.out, ← Acb.out, hz] at AAb
              have Ab6 := aside hb6
              have Agb := aside hgb
              clear hb6 hgb hnd hz hnl
              go_wp2_with fail
              refine AAb.out.mono ?_
              rintro e w7 ⟨rfl, h7⟩
              have A7 := aside h7
              clear h7 AAb
              go_wp2_with fail
              go_ret
              rcases A7.out with ⟨-, hg7, hu7⟩ | ⟨h70, -⟩
              · rw [Acb.out] at hg7
                obtain ⟨kb1, kb2⟩ := kmv_back Aq.out Ahc.out AP.out
                refine ⟨rfl, (A5.out.1.trans (Ch.of_below Ab6.out)).trans (Rg.chg Agb.out hg7 (X := fun p => p = d.p ∨ p = c.p) hu7), ?_, ?_⟩
                · have hl5 : lo ≤ w5.heap.size := Nat.le_trans Alw.out A5.out.2.size
                  exact (A5.out.2.trans (Ab6.out.mono hl5)).trans (Abl.out (fun p => p = d.p ∨ p = c.p) _ _ hu7 (Nat.le_trans hl5 Ab6.out.size))
                · obtain ⟨e1, e2⟩ := Ano.out h0
                  rw [e1, e2]
                  refine Rt.of Aq.out Ahl.out ⟨fun e he hk => ?_, hg7.lnk, hg7.fil, hg7.mnt⟩
                  have := hg7.dir e he hk
                  rw [kb1, kb2] at this
                  exact this
              · exact absurd rfl h70
end Go.Proofs.YtbnaegoahdcejaaGreatDoor

namespace Go.Proofs.YtbnaegoahdcejaaGreatDoor
open Go.RowKit Go.ChangeMaps

/-- A method that comes up through an embedded pointer: what lies in that field is the receiver. -/
theorem method_in {P : Program} {w : World} {n : Nat} {t : TypeId} {a : Addr} {name : String} {st : TypeId} {ix : Nat} {ft : TypeId} {off : Nat} {f : FuncId} {el : TypeId} {v' : Value}
    (h1 : ((P.info? t).bind fun i => (i.methods.find? (·.name == name)).map fun m => (m.path.toList.map fun s => (s.struct, s.index, s.deref), m.func)) = some ([(st, ix, true)], some (f, true)))
    (h2 : (match P.underlying st with | some (.struct fs) => fs[ix]?.map fun f => (f.type, f.offset) | _ => none) = some (ft, off))
    (h3 : (sizeOf ft).run P w = .ok 1 w) (h4 : (isAgg ft).run P w = .ok false w) (h5 : P.underlying ft = some (.pointer el)) (hc : w.cell? (a.add off) = some v') :
    (method (n + 1) t (.pointer (some a)) name).run P w = .ok (f, v') w := by
  obtain ⟨i, hi, h1⟩ := Option.bind_eq_some_iff.1 h1
  obtain ⟨m, hm, h1⟩ := Option.map_eq_some_iff.1 h1
  injection h1 with hp hf
  obtain ⟨s, hs, hp2⟩ : ∃ s, m.path.toList = [s] ∧ (s.struct, s.index, s.deref) = (st, ix, true) := by
    cases e : m.path.toList with
    | nil => rw [e] at hp; cases hp
    | cons s r =>
      rw [e] at hp
      cases r with
      | nil => simp only [List.map_cons, List.map_nil, List.cons.injEq, and_true] at hp; exact ⟨s, rfl, hp⟩
      | cons u v => simp at hp
  simp only [Prod.mk.injEq] at hp2
  obtain ⟨e1, e2, e3⟩ := hp2
  cases hu : P.underlying st with
  | none => rw [hu] at h2; cases h2
  | some d =>
    rw [hu] at h2
    cases d <;> first | (cases h2; done) | skip
    rename_i fs
    obtain ⟨f, hx, h2⟩ := Option.map_eq_some_iff.1 h2
    injection h2 with e4 e5
    subst e4 e5
    rw [method]
    simp only [Sem.run_bind, typeInfo, run_program, Result.andThen_ok, hi, Sem.run_pure, hm, hs, hf, follow, run_underlying (e1 ▸ hu), run_underlying h5, e2, hx, e3, Place.get, asAddr, fieldPlace, h3, receiverAt, loadVar, h4, run_load, hc, ↓reduceIte, Bool.false_eq_true, Nat.one_ne_zero]

/-- A mount, and the directory under it. -/
structure Mt (w : World) (nb k db : Nat) : Prop where
  nod : Nd w nb 111 k
  mnt : w.heap[k]? = some (.cells #[Pt db] 145 (0, 0))
theorem Mt.upd {w w' : World} {nb k db : Nat} {F : Nat → Prop} (h : Mt w nb k db) (u : Upd F w w') (h1 : ¬ F nb) (h2 : ¬ F k) : Mt w' nb k db := ⟨h.nod.upd u h1, (u.block _ (Array.getElem?_eq_some_iff.1 h.mnt).1 h2).trans h.mnt⟩
theorem Mt.below {w w' : World} {nb k db : Nat} (h : Mt w nb k db) (u : Below w.heap.size w w') : Mt w' nb k db := ⟨h.nod.below u, (u.block _ (Array.getElem?_eq_some_iff.1 h.mnt).1).trans h.mnt⟩
theorem Mt.cell {w : World} {nb k db : Nat} (h : Mt w nb k db) : w.cell? ⟨k, 0, none⟩ = some (Pt db) := by rw [cell_of_row w k 0 _ _ _ h.mnt]; rfl

theorem meth_mheld (w : World) (k db : Nat) (h : w.cell? ⟨k, 0, none⟩ = some (Pt db)) : (method 462 111 (Pt k) "mantle/node.held").run Tryz.prog w = .ok (224, Pt db) w :=
  method_in (n := 461) (st := 145) (ix := 0) (ft := 92) (off := 0) (f := 224) (el := 95) (a := ⟨k, 0, none⟩) (by kernel_rfl) (by kernel_rfl) (by kernel_rfl) (by kernel_rfl) Tryz.underlying92 h

set_option maxRecDepth 20000 in
set_option maxHeartbeats 400000 in
theorem mount_nil (w : World) : Calls Tryz.prog 45 #[.pointer none] w fun e w' => e = .returned (.tuple #[.pointer none, .int .i64 1]) ∧ w' = w := by
  go_enter Tryz.func45, Tryz.ntmps45
  go_wp2_with fail
  refine (what_nil w).mono ?_
  rintro e w' ⟨rfl, rfl⟩
  go_wp2
  go_ret2
  exact ⟨rfl, rfl⟩
set_option maxRecDepth 20000 in
set_option maxHeartbeats 400000 in
theorem mount_file (nb k : Nat) (w : World) (h : Nd w nb 109 k) : Calls Tryz.prog 45 #[Pt nb] w fun e w' => e = .returned (.tuple #[.pointer none, .int .i64 193]) ∧ w' = w := by
  have hh := file_holder
  go_enter Tryz.func45, Tryz.ntmps45
  go_wp2_with fail
  refine (what_node nb k _ w h).mono ?_
  rintro e w' ⟨rfl, rfl⟩
  go_wp2
  go_ret2
  exact ⟨rfl, rfl⟩
set_option maxRecDepth 20000 in
set_option maxHeartbeats 800000 in
theorem mount_dir (nb db : Nat) (w : World) (h : Nd w nb 92 db) : Calls Tryz.prog 45 #[Pt nb] w fun e w' => ∃ mn k, e = .returned (.tuple #[Pt mn, .int .i64 0]) ∧ w.heap.size ≤ mn ∧ w.heap.size ≤ k ∧ Mt w' mn k db ∧ Below w.heap.size w w' := by
  have hh := dir_holder
  have hm := meth_held db
  go_enter Tryz.func45, Tryz.ntmps45
  go_wp2_with fail
  refine (what_node nb db _ w h).mono ?_
  rintro e w' ⟨rfl, rfl⟩
  go_wp2_with fail
  refine (held_any db w').mono ?_
  rintro e w' ⟨rfl, rfl⟩
  go_wp2
  go_ret2
  exact ⟨w'.heap.size + 1, w'.heap.size, rfl, by omega, by omega, ⟨by unfold Nd; exact heap_alloc2_new w' _ _, by rw [(below_al (w'.alloc _) _).block _ (by simp)]; exact heap_alloc_new w' _⟩, below_tr (below_al _ _) (below_al _ _)⟩
set_option maxRecDepth 20000 in
set_option maxHeartbeats 800000 in
theorem mount_mount (nb k0 db : Nat) (w : World) (h : Mt w nb k0 db) : Calls Tryz.prog 45 #[Pt nb] w fun e w' => ∃ mn k, e = .returned (.tuple #[Pt mn, .int .i64 0]) ∧ w.heap.size ≤ mn ∧ w.heap.size ≤ k ∧ Mt w' mn k db ∧ Below w.heap.size w w' := by
  have hh := mount_holder
  have hm := meth_mheld w k0 db h.cell
  go_enter Tryz.func45, Tryz.ntmps45
  go_wp2_with fail
  refine (what_node nb k0 _ w h.nod).mono ?_
  rintro e w' ⟨rfl, rfl⟩
  go_wp2_with fail
  refine (held_any db w').mono ?_
  rintro e w' ⟨rfl, rfl⟩
  go_wp2
  go_ret2
  exact ⟨w'.heap.size + 1, w'.heap.size, rfl, by omega, by omega, ⟨by unfold Nd; exact heap_alloc2_new w' _ _, by rw [(below_al (w'.alloc _) _).block _ (by simp)]; exact heap_alloc_new w' _⟩, below_tr (below_al _ _) (below_al _ _)⟩
set_option maxRecDepth 20000 in
set_option maxHeartbeats 400000 in
theorem mount_leaf (nb k : Nat) (t : TypeId) (w : World) (h : Nd w nb t k) (ht : t = 109 ∨ t = 85 ∨ t = 110) : Calls Tryz.prog 45 #[Pt nb] w fun e w' => e = .returned (.tuple #[.pointer none, .int .i64 193]) ∧ w' = w := by
  rcases ht with rfl | rfl | rfl
  · exact mount_file nb k w h
  · have hh := white_holder
    go_enter Tryz.func45, Tryz.ntmps45
    go_wp2_with fail
    refine (what_node nb k _ w h).mono ?_
    rintro e w' ⟨rfl, rfl⟩
    go_wp2
    go_ret2
    exact ⟨rfl, rfl⟩
  · have hh := link_holder
    go_enter Tryz.func45, Tryz.ntmps45
    go_wp2_with fail
    refine (what_node nb k _ w h).mono ?_
    rintro e w' ⟨rfl, rfl⟩
    go_wp2
    go_ret2
    exact ⟨rfl, rfl⟩
set_option maxRecDepth 20000 in
theorem rMount_nil (w : World) : Calls Tryz.prog 46 #[.pointer none] w fun e w' => e = .returned (.tuple #[.pointer none, .int .i64 1]) ∧ w' = w := by
  go_enter Tryz.func46, Tryz.ntmps46
  go_wp2_with fail
  go_ret2
  exact ⟨rfl, rfl⟩
set_option maxRecDepth 20000 in
theorem rMount_dir {w : World} {nb : Nat} {f : Value} {tx : ByteArray} {m : Value} {L : List RK} {up : Value} (h : Rc w nb 1 f tx m L up) : Calls Tryz.prog 46 #[Pt nb] w fun e w' => e = .returned (.tuple #[Pt w.heap.size, .int .i64 0]) ∧ Rc w' w.heap.size 3 (.pointer none) ⟨#[]⟩ (Pt nb) [] (.pointer none) ∧ Below w.heap.size w w' := by
  obtain ⟨a, c, h1, -⟩ := h.cel
  have hc : w.cell? ⟨nb, 0, none⟩ = some (.int .i8 1) := by rw [cell_of_row w nb 0 _ _ _ h1]; rfl
  clear h h1
  go_enter Tryz.func46, Tryz.ntmps46
  go_wp2_with fail
  go_ret2
  exact ⟨rfl, ⟨none, 0, heap_alloc_new w _, Nat.le_refl _, fun h => absurd rfl h⟩, below_al w _⟩
set_option maxRecDepth 20000 in
theorem rMount_mount {w : World} {nb mb : Nat} {f : Value} {tx : ByteArray} {L : List RK} {up : Value} (h : Rc w nb 3 f tx (Pt mb) L up) : Calls Tryz.prog 46 #[Pt nb] w fun e w' => e = .returned (.tuple #[Pt w.heap.size, .int .i64 0]) ∧ Rc w' w.heap.size 3 (.pointer none) ⟨#[]⟩ (Pt mb) [] (.pointer none) ∧ Below w.heap.size w w' := by
  obtain ⟨a, c, h1, -⟩ := h.cel
  have hc : w.cell? ⟨nb, 0, none⟩ = some (.int .i8 3) := by rw [cell_of_row w nb 0 _ _ _ h1]; rfl
  have hm : w.cell? ⟨nb, 3, none⟩ = some (Pt mb) := by rw [cell_of_row w nb 3 _ _ _ h1]; rfl
  clear h h1
  go_enter Tryz.func46, Tryz.ntmps46
  go_wp2_with fail
  go_ret2
  exact ⟨rfl, ⟨none, 0, heap_alloc_new w _, Nat.le_refl _, fun h => absurd rfl h⟩, below_al w _⟩
set_option maxRecDepth 20000 in
theorem rMount_leaf {w : World} {nb : Nat} {k : Int} {f : Value} {tx : ByteArray} {m : Value} {L : List RK} {up : Value} (h : Rc w nb k f tx m L up) (h1 : k ≠ 1) (h3 : k ≠ 3) : Calls Tryz.prog 46 #[Pt nb] w fun e w' => e = .returned (.tuple #[.pointer none, .int .i64 193]) ∧ w' = w := by
  obtain ⟨a, c, hn, -⟩ := h.cel
  have hc : w.cell? ⟨nb, 0, none⟩ = some (.int .i8 k) := by rw [cell_of_row w nb 0 _ _ _ hn]; rfl
  have e1 : (k == 1) = false := beq_eq_false_iff_ne.2 h1
  have e3 : (k == 3) = false := beq_eq_false_iff_ne.2 h3
  clear h hn
  go_enter Tryz.func46, Tryz.ntmps46
  go_wp2_with fail
  go_ret2
  exact ⟨rfl, rfl⟩
set_option maxRecDepth 20000 in
theorem rWhite_any (w : World) : Calls Tryz.prog 48 #[] w fun e w' => e = .returned (Pt w.heap.size) ∧ Rc w' w.heap.size 4 (.pointer none) ⟨#[]⟩ (.pointer none) [] (.pointer none) ∧ Below w.heap.size w w' := by
  go_enter Tryz.func48, Tryz.ntmps48
  go_wp2_with fail
  go_ret
  exact ⟨rfl, ⟨none, 0, heap_alloc_new w _, Nat.le_refl _, fun h => absurd rfl h⟩, below_al w _⟩
set_option maxRecDepth 20000 in
theorem rAdd_nil1 (w : World) (s : ByteArray) (v : Value) : Calls Tryz.prog 40 #[.pointer none, .string s, v] w fun e w' => e = .returned (.int .i64 1) ∧ w' = w := by
  go_enter Tryz.func40, Tryz.ntmps40
  go_wp2_with fail
  go_ret
  exact ⟨rfl, rfl⟩
set_option maxRecDepth 20000 in
theorem rAdd_nil2 (w : World) (s : ByteArray) (b : Nat) : Calls Tryz.prog 40 #[Pt b, .string s, .pointer none] w fun e w' => e = .returned (.int .i64 1) ∧ w' = w := by
  go_enter Tryz.func40, Tryz.ntmps40
  go_wp2_with fail
  go_ret
  exact ⟨rfl, rfl⟩
set_option maxRecDepth 20000 in
theorem rAdd_leaf {w : World} {nb : Nat} {k : Int} {f : Value} {tx : ByteArray} {m : Value} {L : List RK} {up : Value} (h : Rc w nb k f tx m L up) (h1 : k ≠ 1) (s : ByteArray) (b : Nat) : Calls Tryz.prog 40 #[Pt nb, .string s, Pt b] w fun e w' => e = .returned (.int .i64 193) ∧ w' = w := by
  obtain ⟨a, c, hn, -⟩ := h.cel
  have hc : w.cell? ⟨nb, 0, none⟩ = some (.int .i8 k) := by rw [cell_of_row w nb 0 _ _ _ hn]; rfl
  have e1 : (k == 1) = false := beq_eq_false_iff_ne.2 h1
  clear h hn
  go_enter Tryz.func40, Tryz.ntmps40
  go_wp2_with fail
  go_ret
  exact ⟨rfl, rfl⟩
set_option maxRecDepth 20000 in
theorem rMove_nil1 (w : World) (s1 s2 : ByteArray) (v : Value) : Calls Tryz.prog 44 #[.pointer none, .string s1, v, .string s2] w fun e w' => e = .returned (.int .i64 1) ∧ w' = w := by
  go_enter Tryz.func44, Tryz.ntmps44
  go_wp2_with fail
  go_ret
  exact ⟨rfl, rfl⟩
set_option maxRecDepth 20000 in
theorem rMove_nil2 (w : World) (s1 s2 : ByteArray) (b : Nat) : Calls Tryz.prog 44 #[Pt b, .string s1, .pointer none, .string s2] w fun e w' => e = .returned (.int .i64 1) ∧ w' = w := by
  go_enter Tryz.func44, Tryz.ntmps44
  go_wp2_with fail
  go_ret
  exact ⟨rfl, rfl⟩
def RKd (w : World) (b : Nat) (k : Int) : Prop := Calls Tryz.prog 37 #[Pt b] w fun e w' => e = .returned (.int .i8 k) ∧ w' = w
set_option maxRecDepth 20000 in
theorem rMove_dir {w : World} {b1 b2 : Nat} {k1 k2 : Int} (h1 : RKd w b1 k1) (h2 : RKd w b2 k2) (hk : k1 ≠ 1 ∨ k2 ≠ 1) (s1 s2 : ByteArray) : Calls Tryz.prog 44 #[Pt b1, .string s1, Pt b2, .string s2] w fun e w' => e = .returned (.int .i64 193) ∧ w' = w := by
  have A1 := aside (show Calls Tryz.prog 37 #[Pt b1] w fun e w' => e = .returned (.int .i8 k1) ∧ w' = w from h1)
  have A2 := aside (show Calls Tryz.prog 37 #[Pt b2] w fun e w' => e = .returned (.int .i8 k2) ∧ w' = w from h2)
  clear h1 h2
  by_cases e1 : k1 = 1
  · subst e1
    have e2 : (k2 == 1) = false := beq_eq_false_iff_ne.2 (hk.resolve_left (fun e => e rfl))
    clear hk
    go_enter Tryz.func44, Tryz.ntmps44
    go_wp2_with fail
    refine A1.out.mono ?_
    rintro e w1 ⟨rfl, rfl⟩
    go_wp2_with fail
    refine A2.out.mono ?_
    rintro e w1 ⟨rfl, rfl⟩
    go_wp2_with fail
    go_ret
    exact ⟨rfl, rfl⟩
  · have e2 : (k1 == 1) = false := beq_eq_false_iff_ne.2 e1
    clear hk
    go_enter Tryz.func44, Tryz.ntmps44
    go_wp2_with fail
    refine A1.out.mono ?_
    rintro e w1 ⟨rfl, rfl⟩
    go_wp2_with fail
    go_ret
    exact ⟨rfl, rfl⟩
set_option maxRecDepth 20000 in
theorem rMove_none {w : World} {b1 b2 : Nat} {c0 : Int} (h1 : RKd w b1 1) (h2 : RKd w b2 1) (s1 s2 : ByteArray) (hG : Calls Tryz.prog 38 #[Pt b1, .string s1] w fun e w' => e = .returned (.tuple #[.pointer none, .int .i64 c0]) ∧ Below w.heap.size w w') (h0 : c0 ≠ 0) : Calls Tryz.prog 44 #[Pt b1, .string s1, Pt b2, .string s2] w fun e w' => e = .returned (.int .i64 192) ∧ Below w.heap.size w w' := by
  have A1 := aside (show Calls Tryz.prog 37 #[Pt b1] w fun e w' => e = .returned (.int .i8 1) ∧ w' = w from h1)
  have A2 := aside (show Calls Tryz.prog 37 #[Pt b2] w fun e w' => e = .returned (.int .i8 1) ∧ w' = w from h2)
  have AG := aside hG
  have e0 : (c0 == 0) = false := beq_eq_false_iff_ne.2 h0
  clear h1 h2 hG h0
  go_enter Tryz.func44, Tryz.ntmps44
  go_wp2_with fail
  refine A1.out.mono ?_
  rintro e w1 ⟨rfl, rfl⟩
  go_wp2_with fail
  refine A2.out.mono ?_
  rintro e w1 ⟨rfl, rfl⟩
  go_wp2_with fail
  refine AG.out.mono ?_
  rintro e w1 ⟨rfl, hb⟩
  have AB := aside hb
  clear hb AG
  go_wp2_with fail
  go_ret
  exact ⟨rfl, AB.out⟩
set_option maxRecDepth 20000 in
set_option maxHeartbeats 400000 in
theorem drop_leaf (nb k : Nat) (t : TypeId) (name : ByteArray) (w : World) (h : Nd w nb t k) (ht : t = 109 ∨ t = 85 ∨ t = 111 ∨ t = 110) : Calls Tryz.prog 49 #[Pt nb, .string name] w fun e w' => e = .returned (.int .i64 193) ∧ w' = w := by
  have AG := aside (get_other nb k t name w h ht)
  clear h
  go_enter Tryz.func49, Tryz.ntmps49
  go_wp2_with fail
  refine AG.out.mono ?_
  rintro e w' ⟨rfl, rfl⟩
  go_wp2
  go_ret
  exact ⟨rfl, rfl⟩
set_option maxRecDepth 20000 in
set_option maxHeartbeats 1000000 in
theorem tr_drop {lo : Nat} {w : World} {S : List En} (h : Tr lo w S) {d c : En} {n : B} (hd : d ∈ S) (hdk : d.k = 1) (hc : c ∈ S) (hp : c.p = d.p ++ [n]) (hk : c.k = 1 → kidU S c.p = []) :
    Calls Tryz.prog 49 #[Pt d.nb, .string (ba n)] w fun e w' => e = .returned (.int .i64 0) ∧ Tr lo w' (out c.p S) ∧ Upd (blk S) w w' := by
  have AG := aside (h.get_yes hd hdk hc hp)
  have AT := aside (tr_take h hd hdk hc hp)
  obtain ⟨N, hN⟩ : ∃ N, N = ba n := ⟨_, rfl⟩
  rw [← hN] at AG AT ⊢
  by_cases hck : c.k = 1
  · obtain ⟨-, -, -, -, up, L, h5, -, h7⟩ := h.dir c hc hck
    obtain ⟨es, cl, hmp, hE⟩ := h5.map
    have hl0 : L = [] := by
      have := (h.kidlen h5 h7).1
      rw [hk hck] at this
      exact List.eq_nil_of_length_eq_zero this
    subst hl0
    have hlen := fun ty => len_map hmp hE ty
    have c2 := h5.c2
    have hn := h5.nod
    clear hmp hE h5 h7 h hk hd hc hp hdk hN
    obtain ⟨cb, hcb⟩ : ∃ cb, cb = c.nb := ⟨_, rfl⟩
    obtain ⟨dk, hdk⟩ : ∃ dk, dk = c.db := ⟨_, rfl⟩
    obtain ⟨mk, hmk⟩ : ∃ mk, mk = c.mb := ⟨_, rfl⟩
    rw [← hcb] at AG AT hn
    rw [← hdk] at hn c2
    rw [← hmk] at hlen c2
    clear hcb hdk hmk
    simp only [List.length_nil] at hlen
    go_enter Tryz.func49, Tryz.ntmps49
    go_wp2_with fail
    refine AG.out.mono ?_
    rintro e w' ⟨rfl, rfl⟩
    go_wp2_with fail
    refine (directory_dir cb dk _ hn).mono ?_
    rintro e w' ⟨rfl, rfl⟩
    go_wp2_with fail
    refine AT.out.mono ?_
    rintro e w3 ⟨rfl, hT, -, hU⟩
    have A1 := aside hT
    have A2 := aside hU
    clear hT hU AT AG
    go_wp2_with fail
    go_ret
    exact ⟨rfl, A1.out, A2.out⟩
  · obtain ⟨t, k, hnd, ht⟩ := (h.lef c hc hck).nd
    clear h hk hd hc hp hdk hN
    obtain ⟨cb, hcb⟩ : ∃ cb, cb = c.nb := ⟨_, rfl⟩
    rw [← hcb] at AG AT hnd
    clear hcb
    go_enter Tryz.func49, Tryz.ntmps49
    go_wp2_with fail
    refine AG.out.mono ?_
    rintro e w' ⟨rfl, rfl⟩
    go_wp2_with fail
    refine (directory_other cb k t _ hnd ht).mono ?_
    rintro e w' ⟨rfl, rfl⟩
    go_wp2_with fail
    refine AT.out.mono ?_
    rintro e w3 ⟨rfl, hT, -, hU⟩
    have A1 := aside hT
    have A2 := aside hU
    clear hT hU AT AG
    go_wp2_with fail
    go_ret
    exact ⟨rfl, A1.out, A2.out⟩
end Go.Proofs.YtbnaegoahdcejaaGreatDoor

namespace Go.Proofs.YtbnaegoahdcejaaGreatDoor
open Go.RowKit Go.ChangeMaps

/-- What a change of the program's directories leaves alone. -/
structure Kpt (w w' : World) : Prop where
  size : w.heap.size ≤ w'.heap.size
  bl : ∀ g, g < w.heap.size → ((∃ cs T, w.heap[g]? = some (.cells cs T (0, 0)) ∧ T ≠ 95) ∨ ∃ v, w.cell? ⟨g, 0, none⟩ = some v ∧ ∀ p, v ≠ .pointer p) → w'.heap[g]? = w.heap[g]?
theorem Kpt.of_below {w w' : World} (b : Below w.heap.size w w') : Kpt w w' := ⟨b.size, fun g hg _ => b.block g hg⟩
theorem Kpt.of_blk {lo : Nat} {w w' : World} {S : List En} (h : Tr lo w S) (u : Upd (blk S) w w') : Kpt w w' := by
  refine ⟨u.size, fun g hg hc => u.block g hg ?_⟩
  rintro ⟨e, he, hk, hb⟩
  obtain ⟨-, -, -, -, up, L, h5, -, -⟩ := h.dir e he hk
  rcases hb with rfl | rfl
  · rcases hc with ⟨cs, T, h1, h2⟩ | ⟨v, h1, h2⟩
    · rw [h5.dir] at h1
      simp only [Option.some.injEq, Obj.cells.injEq] at h1
      exact h2 h1.2.1.symm
    · rw [cell_of_row w _ 0 _ _ _ h5.dir] at h1
      simp only [List.getElem?_toArray, List.getElem?_cons_zero, Option.some.injEq] at h1
      exact h2 _ h1.symm
  · obtain ⟨es, cl, m1, -⟩ := h5.map
    rcases hc with ⟨cs, T, h1, h2⟩ | ⟨v, h1, h2⟩
    · rw [m1] at h1; cases h1
    · unfold World.cell? at h1
      simp [m1] at h1
theorem Kpt.cells {w w' : World} (k : Kpt w w') {g : Nat} {cs : Array Value} {T : TypeId} (h : w.heap[g]? = some (.cells cs T (0, 0))) (hT : T ≠ 95) : w'.heap[g]? = w.heap[g]? := k.bl g (Array.getElem?_eq_some_iff.1 h).1 (.inl ⟨cs, T, h, hT⟩)
theorem Kpt.rc {w w' : World} (k : Kpt w w') {nb : Nat} {kk : Int} {f : Value} {tx : ByteArray} {m : Value} {L : List RK} {up : Value} (h : Rc w nb kk f tx m L up) : Rc w' nb kk f tx m L up := by
  obtain ⟨cs, h1⟩ := h.node.1
  exact h.keep (k.cells h1 (by decide)) (fun g cs hg => k.cells hg (by decide))
theorem Kpt.nd {w w' : World} (k : Kpt w w') {nb b : Nat} {t : TypeId} (h : Nd w nb t b) : Nd w' nb t b := (k.cells (show w.heap[nb]? = _ from h) (by decide)).trans h
theorem Kpt.mt {w w' : World} (k : Kpt w w') {nb b db : Nat} (h : Mt w nb b db) : Mt w' nb b db := ⟨k.nd h.nod, (k.cells h.mnt (by decide)).trans h.mnt⟩
theorem r4_kpt {w w' : World} {fb : Nat} {x : B} (k : Kpt w w') (h : R4 w fb x) : R4 w' fb x := by
  obtain ⟨sb, hi, h1, h2⟩ := h
  have hcl : ∀ {g o : Nat} {v u : Value}, w.cell? ⟨g, 0, none⟩ = some v → (∀ p, v ≠ .pointer p) → w.cell? ⟨g, o, none⟩ = some u → w'.cell? ⟨g, o, none⟩ = some u := fun {g} {o} {v} {u} hv hn hu => by
    rw [← hu]
    exact World.cell?_of_block (k.bl g (World.block_lt_of_cell? w ⟨g, 0, none⟩ hv) (.inr ⟨v, hv, hn⟩))
  obtain ⟨lv, g1, g2⟩ := h2.con
  refine ⟨sb, hi, (k.cells h1 (by decide)).trans h1, h2.lb, Nat.le_trans h2.lw k.size, h2.bd, lv, (k.cells g1 (by decide)).trans g1, ?_⟩
  rcases g2 with h3 | ⟨h0, g, cap, q, cap2, e, hg, hq, hc, c0, c1, c2⟩
  · exact .inl h3
  · refine .inr ⟨h0, g, cap, q, cap2, e, hg, hq, hc, hcl c0 (fun p e => by cases e) c0, hcl c0 (fun p e => by cases e) c1, fun j v hj => ?_⟩
    obtain ⟨z, hz⟩ := bcells_zero h0
    have hz0 := c2 0 _ hz
    have hj2 := c2 j v hj
    rw [Addr.add_lit] at hz0 hj2 ⊢
    rw [Nat.zero_add] at hz0 hj2 ⊢
    exact hcl hz0 (fun p e => by cases e) hj2
theorem Rt.kpt {lo : Nat} {w w' : World} {T : List En} {rb : List B → Nat} (h : Rt R4 lo w T rb) (k : Kpt w w') : Rt R4 lo w' T rb :=
  Rt.of h.rq h.low ⟨fun e he hk => k.rc (h.dir e he hk), fun e he hk => k.rc (h.lnk e he hk), fun e he hk => by
    obtain ⟨fb, h1, h2⟩ := h.fil e he hk
    exact ⟨fb, k.rc h1, r4_kpt k h2⟩, fun e he hk => by
    obtain ⟨h1, m, h2, h3⟩ := h.mnt e he hk
    exact ⟨h1, m, k.rc h2, h3⟩⟩
/-- Mounts that can be mounted. -/
def Mtd (lo : Nat) (w : World) (S : List En) : Prop := ∀ e ∈ S, e.k = 3 → ∃ k db, lo ≤ k ∧ Mt w e.nb k db
theorem Mtd.kpt {lo : Nat} {w w' : World} {S : List En} (h : Mtd lo w S) (k : Kpt w w') : Mtd lo w' S := fun e he hk => by
  obtain ⟨b, db, h1, h2⟩ := h e he hk
  exact ⟨b, db, h1, k.mt h2⟩
theorem saf_rn : Saf (Ty [127]) := fun T hT cs f => Ty.no (by
  simp only [LT, List.mem_cons, List.not_mem_nil, or_false] at hT
  rcases hT with rfl | rfl | rfl | rfl | rfl | rfl | rfl | rfl | rfl <;> decide) cs f
theorem nd_rn {w w' : World} (c : Ch 0 (Ty [127]) w w') {nb b : Nat} {t : TypeId} (h : Nd w nb t b) : Nd w' nb t b := c.keep (Nat.zero_le _) h (Ty.no (by decide) _ _)
theorem mt_rn {w w' : World} (c : Ch 0 (Ty [127]) w w') {nb b db : Nat} (h : Mt w nb b db) : Mt w' nb b db := ⟨nd_rn c h.nod, c.keep (Nat.zero_le _) h.mnt (Ty.no (by decide) _ _)⟩
theorem tr_rn {lo : Nat} {w w' : World} {S : List En} (c : Ch 0 (Ty [127]) w w') (h : Tr lo w S) : Tr lo w' S := h.ch (c.lo (Nat.zero_le _)) saf_rn (fun cs f => Ty.no (by decide) cs f) (fun es c => Ty.map es c)
/-- A new node of the program's, a mount or a white. -/
def Fp (lo : Nat) (w : World) (S : List En) (b k : Nat) : Prop := lo ≤ b ∧ (∀ e ∈ S, e.nb ≠ b) ∧ ((k = 3 ∧ ∃ kb db, lo ≤ kb ∧ Mt w b kb db) ∨ (k = 4 ∧ ∃ kb, Nd w b 85 kb))
/-- A new node of the document's. -/
def Fr (lo : Nat) (w : World) (T : List En) (rb : List B → Nat) (b k : Nat) : Prop := (k = 3 ∨ k = 4) ∧ lo ≤ b ∧ (∀ e ∈ T, rb e.p ≠ b) ∧ ∃ m, Rc w b (k : Int) (.pointer none) ⟨#[]⟩ m [] (.pointer none) ∧ (k = 3 → ∃ mb, m = Pt mb)
/-- Where a walk began; and a step that is held, if there is one. -/
structure Wbx where
  w : World
  z : Option (Nat × Array Value)
abbrev Wbx.heap (b : Wbx) : Array Obj := b.w.heap
/-- Both trees, and the new node of either side, if there is one. -/
structure Wz (w0 : Wbx) (W : World) (S T : List En) (rb : List B → Nat) (x y : Option (Nat × Nat)) : Prop where
  bel : Below w0.heap.size w0.w W
  tb : ∀ b cs, w0.z = some (b, cs) → W.heap[b]? = some (.cells cs 37 (0, 0))
  tr : Tr w0.heap.size W S
  mt : Mtd w0.heap.size W S
  rt : Rt R4 w0.heap.size W T rb
  fx : ∀ b k, x = some (b, k) → Fp w0.heap.size W S b k
  fy : ∀ b k, y = some (b, k) → Fr w0.heap.size W T rb b k
theorem Wz.prog {w0 : Wbx} {W W' : World} {S S' T : List En} {rb : List B → Nat} {x x' y : Option (Nat × Nat)} (h : Wz w0 W S T rb x y) (k : Kpt W W') (hb : Below w0.heap.size W W') (hT : Tr w0.heap.size W' S') (hM : Mtd w0.heap.size W' S') (hx : ∀ b k, x' = some (b, k) → Fp w0.heap.size W' S' b k) : Wz w0 W' S' T rb x' y :=
  ⟨h.bel.trans hb, fun b cs e => (k.cells (h.tb b cs e) (by decide)).trans (h.tb b cs e), hT, hM, h.rt.kpt k, hx, fun b kk e => by
    obtain ⟨h1, h2, h3, m, h4, h5⟩ := h.fy b kk e
    exact ⟨h1, h2, h3, m, k.rc h4, h5⟩⟩
theorem Wz.doc {w0 : Wbx} {W W' : World} {S T T' : List En} {rb rb' : List B → Nat} {x y y' : Option (Nat × Nat)} (h : Wz w0 W S T rb x y) (c : Ch 0 (Ty [127]) W W') (hb : Below w0.heap.size W W') (hT : Rt R4 w0.heap.size W' T' rb') (hy : ∀ b k, y' = some (b, k) → Fr w0.heap.size W' T' rb' b k) : Wz w0 W' S T' rb' x y' :=
  ⟨h.bel.trans hb, fun b cs e => c.keep (Nat.zero_le _) (h.tb b cs e) (Ty.no (by decide) _ _), tr_rn c h.tr, fun e he hk => by
    obtain ⟨b, db, h1, h2⟩ := h.mt e he hk
    exact ⟨b, db, h1, mt_rn c h2⟩, hT, fun b k e => by
    obtain ⟨h1, h2, h3⟩ := h.fx b k e
    refine ⟨h1, h2, h3.imp (fun ⟨e1, kb, db, h4, h5⟩ => ⟨e1, kb, db, h4, mt_rn c h5⟩) (fun ⟨e1, kb, h4⟩ => ⟨e1, kb, nd_rn c h4⟩)⟩, hy⟩
theorem Wz.below {w0 : Wbx} {W W' : World} {S T : List En} {rb : List B → Nat} {x y : Option (Nat × Nat)} (h : Wz w0 W S T rb x y) (b : Below W.heap.size W W') : Wz w0 W' S T rb x y :=
  h.prog (Kpt.of_below b) (b.mono h.bel.size) (h.tr.below b) (h.mt.kpt (Kpt.of_below b)) (fun bb k e => by
    obtain ⟨h1, h2, h3⟩ := h.fx bb k e
    exact ⟨h1, h2, h3.imp (fun ⟨e1, kb, db, h4, h5⟩ => ⟨e1, kb, db, h4, h5.below b⟩) (fun ⟨e1, kb, h4⟩ => ⟨e1, kb, h4.below b⟩)⟩)
/-- What is so of the document's names, told by the program's tree. -/
theorem Wz.nam {w0 : Wbx} {W : World} {S T : List En} {rb : List B → Nat} {x y : Option (Nat × Nat)} (h : Wz w0 W S T rb x y) (hE : SamE S T) : NamD T := fun e he => by
  obtain ⟨s, hs, hp⟩ := (hE (pe e)).2 ⟨e, he, rfl⟩
  unfold pe at hp
  simp only [Prod.mk.injEq] at hp
  obtain ⟨h1, h2, h3⟩ := hp
  refine ⟨by rw [← h1]; exact h.tr.dep s hs, ⟨?_, fun hk => ?_⟩, by rw [← h1]; exact h.tr.nam s hs⟩
  · rw [← h3]
    by_cases hk : s.k = 1
    · obtain ⟨-, -, -, h4, -⟩ := h.tr.dir s hs hk
      rw [h4]; simp
    · exact (h.tr.lef s hs hk).2.1
  · rw [← h3]
    obtain ⟨-, -, -, h4, -⟩ := h.tr.dir s hs (by rw [h2]; exact hk)
    exact h4
/-- What is found at a path on both sides. -/
def Fv (S T : List En) (rb : List B → Nat) (p : List B) (v u : Value) : Prop :=
  (∃ a ∈ S, ∃ b ∈ T, a.p = p ∧ b.p = p ∧ a.k = b.k ∧ v = Pt a.nb ∧ u = Pt (rb b.p)) ∨ ((¬ ∃ e ∈ S, e.p = p) ∧ (¬ ∃ e ∈ T, e.p = p) ∧ v = .pointer none ∧ u = .pointer none)
theorem SamE.ex {S T : List En} (h : SamE S T) {p : List B} : (∃ e ∈ S, e.p = p) ↔ ∃ e ∈ T, e.p = p := by
  constructor
  · rintro ⟨e, he, rfl⟩
    obtain ⟨f, hf, h1⟩ := (h (pe e)).1 ⟨e, he, rfl⟩
    exact ⟨f, hf, congrArg Prod.fst h1⟩
  · rintro ⟨e, he, rfl⟩
    obtain ⟨f, hf, h1⟩ := (h (pe e)).2 ⟨e, he, rfl⟩
    exact ⟨f, hf, congrArg Prod.fst h1⟩
theorem SamE.twin {S T : List En} (h : SamE S T) {e : En} (he : e ∈ S) : ∃ f ∈ T, f.p = e.p ∧ f.k = e.k ∧ f.x = e.x := by
  obtain ⟨f, hf, h1⟩ := (h (pe e)).1 ⟨e, he, rfl⟩
  unfold pe at h1
  simp only [Prod.mk.injEq] at h1
  exact ⟨f, hf, h1.1, h1.2.1, h1.2.2⟩
theorem SamE.twin2 {S T : List En} (h : SamE S T) {e : En} (he : e ∈ T) : ∃ f ∈ S, f.p = e.p ∧ f.k = e.k ∧ f.x = e.x := by
  obtain ⟨f, hf, h1⟩ := (h (pe e)).2 ⟨e, he, rfl⟩
  unfold pe at h1
  simp only [Prod.mk.injEq] at h1
  exact ⟨f, hf, h1.1, h1.2.1, h1.2.2⟩
/-- Where both trees stand between two steps. -/
structure Lp (w0 : Wbx) (W : World) (u0 v0 N : Nat) (S T : List En) (rb : List B → Nat) (x y : Option (Nat × Nat)) : Prop where
  wz : Wz w0 W S T rb x y
  se : SamE S T
  ru : ∃ r ∈ S, r.p = [] ∧ r.nb = u0
  rv : rb [] = v0
  ls : S.length ≤ N
  lt : T.length ≤ N
/-- What a step makes of both, whichever side is first. -/
structure Stp2 (w0 : Wbx) (u0 v0 N : Nat) (S T : List En) (rb : List B → Nat) (f : FuncId) (av : Array Value) (g : FuncId) (bv : Array Value) (c : Int) (S' T' : List En) (rb' : List B → Nat) : Prop where
  pf : ∀ W T1 rb1, Wz w0 W S T1 rb1 none none → Calls Tryz.prog f av W fun e W' => e = .returned (.int .i64 c) ∧ Wz w0 W' S' T1 rb1 none none
  pg : ∀ W S1, Wz w0 W S1 T rb none none → Calls Tryz.prog g bv W fun e W' => e = .returned (.int .i64 c) ∧ Wz w0 W' S1 T' rb' none none
  se : SamE S' T'
  ru : ∃ r ∈ S', r.p = [] ∧ r.nb = u0
  rv : rb' [] = v0
  ls : S'.length ≤ N + 1
  lt : T'.length ≤ N + 1
end Go.Proofs.YtbnaegoahdcejaaGreatDoor

namespace Go.Proofs.YtbnaegoahdcejaaGreatDoor
open Go.RowKit Go.ChangeMaps

theorem pe_mvd {S T : List En} (h : SamE S T) {c c' : En} (hc : c.p = c'.p) (q : List B) : SamE (mvd S c q) (mvd T c' q) := by
  have half : ∀ {S T : List En} {c c' : En}, c.p = c'.p → (∀ t, (∃ e ∈ S, pe e = t) → ∃ e ∈ T, pe e = t) → ∀ t, (∃ e ∈ mvd S c q, pe e = t) → ∃ e ∈ mvd T c' q, pe e = t := fun {S} {T} {c} {c'} hc h t => by
    rintro ⟨e, he, rfl⟩
    rcases mem_mvd.1 he with ⟨h1, h2⟩ | ⟨y, hy, h1, rfl⟩
    · obtain ⟨f, hf, hp⟩ := h (pe e) ⟨e, h1, rfl⟩
      have h3 : f.p = e.p := congrArg Prod.fst hp
      exact ⟨f, mem_mvd.2 (.inl ⟨hf, by rw [h3, ← hc]; exact h2⟩), hp⟩
    · obtain ⟨f, hf, hp⟩ := h (pe y) ⟨y, hy, rfl⟩
      have h3 : f.p = y.p := congrArg Prod.fst hp
      refine ⟨(f.rel c'.p).ins q, mem_mvd.2 (.inr ⟨f, hf, by rw [h3, ← hc]; exact h1, rfl⟩), ?_⟩
      unfold pe at hp ⊢
      simp only [Prod.mk.injEq] at hp
      simp only [Prod.mk.injEq]
      refine ⟨?_, hp.2.1, hp.2.2⟩
      rw [ins_path, ins_path, hp.1, hc]
  exact fun t => ⟨half hc (fun t => (h t).1) t, half hc.symm (fun t => (h t).2) t⟩
theorem pe_out {S T : List En} (h : SamE S T) (q : List B) : SamE (out q S) (out q T) := by
  have half : ∀ {S T : List En}, (∀ t, (∃ e ∈ S, pe e = t) → ∃ e ∈ T, pe e = t) → ∀ t, (∃ e ∈ out q S, pe e = t) → ∃ e ∈ out q T, pe e = t := fun {S} {T} h t => by
    rintro ⟨e, he, rfl⟩
    obtain ⟨h1, h2⟩ := mem_out.1 he
    obtain ⟨f, hf, hp⟩ := h (pe e) ⟨e, h1, rfl⟩
    have h3 : f.p = e.p := congrArg Prod.fst hp
    exact ⟨f, mem_out.2 ⟨hf, by rw [h3]; exact h2⟩, hp⟩
  exact fun t => ⟨half (fun t => (h t).1) t, half (fun t => (h t).2) t⟩
theorem hgt_pe {S T : List En} (h : SamE S T) (p : List B) : hgt S p = hgt T p := by
  refine hgt_eq (fun e he hp => ?_) ?_
  · obtain ⟨f, hf, h1, -, -⟩ := h.twin2 he
    rw [← h1] at hp ⊢
    exact hgt_le hf hp
  · rcases hgt_is S p with h0 | ⟨e, he, hp, hl⟩
    · exact .inl h0
    · obtain ⟨f, hf, h1, -, -⟩ := h.twin he
      exact .inr ⟨f, hf, by rw [h1]; exact hp, by rw [h1]; exact hl⟩
theorem anyp_pe {S T : List En} (h : SamE S T) (p : List B) : (S.any fun c => decide (c.p = p)) = T.any fun c => decide (c.p = p) := by
  rw [Bool.eq_iff_iff, any_ex, any_ex, h.ex]
theorem mvc_pe {S T : List En} (h : SamE S T) {d t c d' t' c' : En} (hd : d.p = d'.p) (ht : t.p = t'.p) (hc : c.p = c'.p) (n a : B) : mvc S d t c n a = mvc T d' t' c' n a := by
  unfold mvc rnc adc
  rw [hd, ht, hc, hgt_sub, hgt_sub, hgt_pe h, anyp_pe h, anyp_pe (pe_out h c'.p)]
theorem mvd_len {S : List En} {c : En} {q : List B} : (mvd S c q).length = S.length := by
  unfold mvd sub
  rw [List.length_append, List.length_map, List.length_map, ← List.length_append]
  exact (out_und c.p S).length_eq
theorem mtd_mvd {lo : Nat} {w : World} {S : List En} (h : Mtd lo w S) (c : En) (q : List B) : Mtd lo w (mvd S c q) := fun e he hk => by
  rcases mem_mvd.1 he with ⟨h1, -⟩ | ⟨y, hy, -, rfl⟩
  · exact h e h1 hk
  · exact h y hy hk
theorem blk_lo {lo : Nat} {w : World} {S : List En} (h : Tr lo w S) (k : Nat) (hk : blk S k) : lo ≤ k := by
  obtain ⟨e, he, h1, h2⟩ := hk
  obtain ⟨-, h3, h4, -⟩ := h.dir e he h1
  rcases h2 with rfl | rfl
  · exact h3
  · exact h4
/-- A call that changes nothing, on either side. -/
theorem stp_no {w0 : Wbx} {u0 v0 N : Nat} {S T : List En} {rb : List B → Nat} {f g : FuncId} {av bv : Array Value} {c : Int} (hE : SamE S T) (hru : ∃ r ∈ S, r.p = [] ∧ r.nb = u0) (hrv : rb [] = v0) (hls : S.length ≤ N) (hlt : T.length ≤ N)
    (hf : ∀ W T1 rb1, Wz w0 W S T1 rb1 none none → Calls Tryz.prog f av W fun e W' => e = .returned (.int .i64 c) ∧ Below W.heap.size W W')
    (hg : ∀ W S1, Wz w0 W S1 T rb none none → Calls Tryz.prog g bv W fun e W' => e = .returned (.int .i64 c) ∧ Below W.heap.size W W') : Stp2 w0 u0 v0 N S T rb f av g bv c S T rb :=
  ⟨fun W T1 rb1 h => (hf W T1 rb1 h).mono fun e W' ⟨h1, h2⟩ => ⟨h1, h.below h2⟩, fun W S1 h => (hg W S1 h).mono fun e W' ⟨h1, h2⟩ => ⟨h1, h.below h2⟩, hE, hru, hrv, by omega, by omega⟩
theorem Calls.still {f : FuncId} {av : Array Value} {w : World} {v : Ending} (h : Calls Tryz.prog f av w fun e w' => e = v ∧ w' = w) : Calls Tryz.prog f av w fun e w' => e = v ∧ Below w.heap.size w w' :=
  h.mono fun e w' ⟨h1, h2⟩ => ⟨h1, by rw [h2]; exact Below.refl _ _⟩
/-- A Move on both sides. -/
theorem move_pair {w0 : Wbx} {W : World} {u0 v0 N : Nat} {S T : List En} {rb : List B → Nat} (h : Lp w0 W u0 v0 N S T rb none none) (hN : N ≤ 1000) {p1 p2 : List B} {v1 u1 v2 u2 : Value} (h1 : Fv S T rb p1 v1 u1) (h2 : Fv S T rb p2 v2 u2) (n a : B) (ha : a.length ≤ 1000000) :
    ∃ c S' T' rb', Stp2 w0 u0 v0 N S T rb 21 #[v1, .string (ba n), v2, .string (ba a)] 44 #[u1, .string (ba n), u2, .string (ba a)] c S' T' rb' := by
  have hND := h.wz.nam h.se
  have hls := h.ls
  have hlt := h.lt
  have no := fun (c : Int) => @stp_no w0 u0 v0 N S T rb 21 44 #[v1, .string (ba n), v2, .string (ba a)] #[u1, .string (ba n), u2, .string (ba a)] c h.se h.ru h.rv hls hlt
  rcases h1 with ⟨d, hd, d', hd', e1, e2, e3, rfl, rfl⟩ | ⟨-, -, rfl, rfl⟩
  · rcases h2 with ⟨t, ht, t', ht', g1, g2, g3, rfl, rfl⟩ | ⟨-, -, rfl, rfl⟩
    · by_cases hk : d.k = 1 ∧ t.k = 1
      · obtain ⟨hdk, htk⟩ := hk
        by_cases hex : ∃ e ∈ S, e.p = d.p ++ [n]
        · obtain ⟨c, hc, hcp⟩ := hex
          obtain ⟨c', hc', k1, k2, k3⟩ := h.se.twin hc
          have hdd : d.p = d'.p := e1.trans e2.symm
          have htt : t.p = t'.p := g1.trans g2.symm
          have hcp' : c'.p = d'.p ++ [n] := by rw [k1, hcp, hdd]
          have hcode := mvc_pe h.se hdd htt k1.symm n a
          have hne : c.p ≠ [] := by rw [hcp]; simp
          obtain ⟨m, hm⟩ : ∃ m, m = mvc S d t c n a := ⟨_, rfl⟩
          have hgm : mvc T d' t' c' n a = m := by rw [hm, hcode]
          refine ⟨m, if m = 0 then mvd S c (t.p ++ [a]) else S, mvt T d' t' c' n a, mvb T rb d' t' c' n a, fun V T1 rb1 hV => ?_, fun V S1 hV => ?_, ?_, ?_, ?_, ?_, ?_⟩
          · refine (tmove_any hV.tr hd hdk ht htk hc hcp a (by omega)).mono ?_
            rintro e V' ⟨rfl, hu, hres⟩
            rw [← hm] at hres ⊢
            have kp := Kpt.of_blk hV.tr hu
            refine ⟨rfl, hV.prog kp (hu.below hV.bel.size (fun k hk => blk_lo hV.tr k hk)) ?_ ?_ (fun b k e => by cases e)⟩
            · rcases hres with ⟨h0, hT⟩ | ⟨h0, hT⟩
              · rw [if_pos h0]; exact hT
              · rw [if_neg h0]; exact hT
            · by_cases h0 : m = 0
              · rw [if_pos h0]; exact mtd_mvd (hV.mt.kpt kp) _ _
              · rw [if_neg h0]; exact hV.mt.kpt kp
          · refine (rMove_any r4_st hV.rt hV.bel.size hND (by omega) hd' (e3 ▸ hdk) ht' (g3 ▸ htk) hc' hcp' a (by omega)).mono ?_
            rintro e V' ⟨rfl, hc1, hb1, hR⟩
            rw [hgm]
            exact ⟨rfl, hV.doc hc1 hb1 hR (fun b k e => by cases e)⟩
          · by_cases h0 : m = 0
            · rw [if_pos h0]
              unfold mvt
              rw [hgm]
              by_cases hs : t'.p = d'.p ∧ a = n
              · rw [if_neg (fun e => e.2 hs)]
                obtain ⟨hs1, rfl⟩ := hs
                have hq : t.p ++ [a] = c.p := by rw [htt, hs1, ← hdd, hcp]
                rw [hq]
                intro x
                rw [← h.se x]
                have hp : (mvd S c c.p).Perm S := mvd_back
                exact ⟨fun ⟨e, he, hx⟩ => ⟨e, hp.mem_iff.1 he, hx⟩, fun ⟨e, he, hx⟩ => ⟨e, hp.mem_iff.2 he, hx⟩⟩
              · rw [if_pos ⟨h0, hs⟩, ← htt]
                exact pe_mvd h.se k1.symm _
            · rw [if_neg h0]
              unfold mvt
              rw [hgm, if_neg (fun e => h0 e.1)]
              exact h.se
          · obtain ⟨r, hr, hrp, hrn⟩ := h.ru
            by_cases h0 : m = 0
            · rw [if_pos h0]
              exact ⟨r, mem_mvd.2 (.inl ⟨hr, fun e => hne (List.prefix_nil.1 (hrp ▸ e))⟩), hrp, hrn⟩
            · rw [if_neg h0]; exact ⟨r, hr, hrp, hrn⟩
          · unfold mvb
            split
            · unfold rbm
              rw [if_neg (fun e => by have := List.prefix_nil.1 e; simp at this)]
              exact h.rv
            · exact h.rv
          · split
            · rw [mvd_len]; omega
            · omega
          · unfold mvt
            split
            · rw [mvd_len]; omega
            · omega
        · have hex' : ¬ ∃ e ∈ T, e.p = d'.p ++ [n] := fun he => hex (by
            rw [show d.p = d'.p from e1.trans e2.symm]
            exact h.se.ex.2 he)
          refine ⟨192, S, T, rb, no 192 (fun V T1 rb1 hV => ?_) (fun V S1 hV => ?_)⟩
          · have k1 := hV.tr.kind hd
            have k2 := hV.tr.kind ht
            rw [hdk] at k1
            rw [htk] at k2
            exact Calls.still (move_none k1 k2 (hV.tr.get_no hd hdk (fun c hc hcp => hex ⟨c, hc, hcp⟩)) (by decide))
          · have k1 := hV.rt.kind hd'
            have k2 := hV.rt.kind ht'
            rw [← e3, hdk] at k1
            rw [← g3, htk] at k2
            have hR := hV.rt.dir d' hd' (e3 ▸ hdk)
            have hth : rth (rkd T rb d'.p) n = false := by
              rw [← Bool.not_eq_true, rth_pw n (rkd_pw hV.rt.one rb d'.p)]
              rintro ⟨v, hv⟩
              exact hex' (rkd_mem.1 hv).1
            exact rMove_none k1 k2 _ _ (rGet_no hR n (by have := rkd_len hV.rt d'.p; omega) hth) (by decide)
      · refine ⟨193, S, T, rb, no 193 (fun V T1 rb1 hV => ?_) (fun V S1 hV => ?_)⟩
        · have k1 := hV.tr.kind hd
          have k2 := hV.tr.kind ht
          by_cases hdk : d.k = 1
          · rw [hdk] at k1
            exact Calls.still (move_dir2 k1 k2 (by omega) (fun e => hk ⟨hdk, by omega⟩))
          · exact Calls.still (move_dir1 k1 (by omega) k2 (by omega) (by omega))
        · exact Calls.still (rMove_dir (hV.rt.kind hd') (hV.rt.kind ht') (by
            by_cases hdk : d.k = 1
            · exact .inr (fun e => hk ⟨hdk, by omega⟩)
            · exact .inl (by omega)) _ _)
    · refine ⟨1, S, T, rb, no 1 (fun V T1 rb1 hV => ?_) (fun V S1 hV => Calls.still (rMove_nil2 V _ _ _))⟩
      exact Calls.still (move_nil2 (hV.tr.kind hd) (by omega) (kind_nil V))
  · exact ⟨1, S, T, rb, no 1 (fun V T1 rb1 hV => Calls.still (move_nil1 (kind_nil V))) (fun V S1 hV => Calls.still (rMove_nil1 V _ _ _))⟩
end Go.Proofs.YtbnaegoahdcejaaGreatDoor

namespace Go.Proofs.YtbnaegoahdcejaaGreatDoor
open Go.RowKit Go.ChangeMaps

theorem rg_drop {F : World → Nat → B → Prop} (hF : Fst F) {w : World} {T : List En} {rb : List B → Nat} (g : Rg F w T rb (rkd T rb) (upf rb)) (q : Rq T rb) {d c : En} {n : B} (hd : d ∈ T) (hdk : d.k = 1) (hc : c ∈ T) (hp : c.p = d.p ++ [n]) (hz : c.k = 1 → rkd T rb c.p = []) :
    Calls Tryz.prog 50 #[Pt (rb d.p), .string (ba n)] w fun r w' => r = .returned (.int .i64 0) ∧ Rg F w' T rb (kcut T rb d.p n) (ucut rb c.p) ∧ Upd (fun k => ∃ e ∈ T, e.k = 1 ∧ (e.p = d.p ∨ e.p = c.p) ∧ k = rb e.p) w w' := by
  obtain ⟨ht, hat⟩ := rkd_at q hc hp
  have hcd : c.p ≠ d.p := fun e => by have := congrArg List.length (e ▸ hp); simp at this
  have hne : rb c.p ≠ rb d.p := fun e => hcd (q.inj c hc d hd e)
  have hL := Nat.le_trans (rkd_few q d.p) (show 100000 ≤ 1000000 by decide)
  have fin : ∀ {k2 : Int} {f2 : Value} {t2 : ByteArray} {m2 : Value} {L2 : List RK} {u2 : Value}, Rc w (rb c.p) k2 f2 t2 m2 L2 u2 → k2 = (c.k : Int) → (c.k = 1 → f2 = .pointer none ∧ t2 = ⟨#[]⟩ ∧ m2 = .pointer none ∧ L2 = rkd T rb c.p) → Calls Tryz.prog 50 #[Pt (rb d.p), .string (ba n)] w fun r w' => r = .returned (.int .i64 0) ∧ Rg F w' T rb (kcut T rb d.p n) (ucut rb c.p) ∧ Upd (fun k => ∃ e ∈ T, e.k = 1 ∧ (e.p = d.p ∨ e.p = c.p) ∧ k = rb e.p) w w' := by
    intro k2 f2 t2 m2 L2 u2 hE hk2 h1
    refine (rDrop_any (g.dir d hd hdk) hE n hL ht hat hne (fun e => by
      obtain ⟨-, -, -, h2⟩ := h1 (by omega)
      rw [h2]; exact hz (by omega))).mono ?_
    rintro r w' ⟨rfl, z1, z2, z3⟩
    have u : Upd (fun k => ∃ e ∈ T, e.k = 1 ∧ (e.p = d.p ∨ e.p = c.p) ∧ k = rb e.p) w w' := z3.mono (fun k _ hk => by
      rcases hk with rfl | ⟨e, rfl⟩
      · exact ⟨d, hd, hdk, .inl rfl, rfl⟩
      · exact ⟨c, hc, by omega, .inr rfl, rfl⟩)
    refine ⟨rfl, g.step hF q (fun p => p = d.p ∨ p = c.p) u (fun e he hk hx => ?_) (fun e he hk hx => ?_), u⟩
    · rcases hx with hx | hx
      · rw [hx]
        unfold kcut ucut
        rw [if_pos rfl, if_neg (fun e2 => hcd e2.symm)]
        exact z1
      · obtain rfl : e = c := rone_p q.one he hc hx
        obtain ⟨rfl, rfl, rfl, rfl⟩ := h1 hk
        unfold kcut ucut
        rw [if_neg hcd, if_pos rfl]
        exact z2 (by omega)
    · unfold kcut ucut
      rw [if_neg (fun e2 => hx (.inl e2)), if_neg (fun e2 => hx (.inr e2))]
      exact ⟨rfl, rfl⟩
  by_cases hk : c.k = 1
  · exact fin (g.dir c hc hk) (by rw [hk]; rfl) (fun _ => ⟨rfl, rfl, rfl, rfl⟩)
  · obtain ⟨f, t, m, hR, -⟩ := g.lef q hc hk
    exact fin hR rfl (fun e => absurd e hk)
/-- A Drop on both sides. -/
theorem drop_pair {w0 : Wbx} {W : World} {u0 v0 N : Nat} {S T : List En} {rb : List B → Nat} (h : Lp w0 W u0 v0 N S T rb none none) {p1 : List B} {v1 u1 : Value} (h1 : Fv S T rb p1 v1 u1) (n : B) :
    ∃ c S' T' rb', Stp2 w0 u0 v0 N S T rb 49 #[v1, .string (ba n)] 50 #[u1, .string (ba n)] c S' T' rb' := by
  have hls := h.ls
  have hlt := h.lt
  have no := fun (c : Int) => @stp_no w0 u0 v0 N S T rb 49 50 #[v1, .string (ba n)] #[u1, .string (ba n)] c h.se h.ru h.rv hls hlt
  rcases h1 with ⟨d, hd, d', hd', e1, e2, e3, rfl, rfl⟩ | ⟨-, -, rfl, rfl⟩
  · have hdd : d.p = d'.p := e1.trans e2.symm
    by_cases hdk : d.k = 1
    · have hdk' : d'.k = 1 := e3 ▸ hdk
      by_cases hex : ∃ e ∈ S, e.p = d.p ++ [n]
      · obtain ⟨c, hc, hcp⟩ := hex
        obtain ⟨c', hc', k1, k2, k3⟩ := h.se.twin hc
        have hcp' : c'.p = d'.p ++ [n] := by rw [k1, hcp, hdd]
        have hne : c.p ≠ [] := by rw [hcp]; simp
        by_cases hE : ∃ e ∈ S, ∃ x, e.p = c.p ++ [x]
        · obtain ⟨e, he, x, hex⟩ := hE
          have hck : ∀ {V : World}, Tr w0.heap.size V S → c.k = 1 := fun {V} hT => by
            obtain ⟨z, hz1, hz2, hz3⟩ := hT.par e he (by rw [hex]; simp)
            rw [hex, List.dropLast_concat] at hz2
            rw [← one_p hT.one hz1 hc hz2]; exact hz3
          refine ⟨194, S, T, rb, no 194 (fun V T1 rb1 hV => ?_) (fun V S1 hV => ?_)⟩
          · obtain ⟨-, -, -, -, up, L, h5, -, h7⟩ := hV.tr.dir d hd hdk
            obtain ⟨-, -, -, -, up2, L2, g5, -, g7⟩ := hV.tr.dir c hc (hck hV.tr)
            have hl := (h7 n (Pt c.nb)).2 ⟨c, hc, hcp, rfl⟩
            refine Calls.still (drop_full d.nb d.db d.mb up L (ba n) c.nb c.db c.mb up2 L2 V h5 hl g5 ?_)
            have hm : e ∈ kidU S c.p := mem_kidU.2 ⟨he, by rw [En.nm_of hex]; exact hex⟩
            rw [(hV.tr.kidlen g5 g7).1]
            exact List.length_pos_of_mem hm
          · obtain ⟨ht, hat⟩ := rkd_at hV.rt.rq hc' hcp'
            have hck' : c'.k = 1 := by rw [k2]; exact hck h.wz.tr
            refine rDrop_full (hV.rt.dir d' hd' hdk') (hV.rt.dir c' hc' hck') n (by have := rkd_len hV.rt d'.p; omega) ht hat ?_
            obtain ⟨f, hf, hfp⟩ := h.se.ex.1 ⟨e, he, hex⟩
            have hm : (x, rb (c'.p ++ [x])) ∈ rkd T rb c'.p := rkd_mem.2 ⟨⟨f, hf, by rw [hfp, k1]⟩, rfl⟩
            exact List.length_pos_of_mem hm
        · have hE' : ¬ ∃ e ∈ T, ∃ x, e.p = c'.p ++ [x] := by
            rintro ⟨e, he, x, hx⟩
            obtain ⟨f, hf, hfp⟩ := h.se.ex.2 ⟨e, he, hx⟩
            exact hE ⟨f, hf, x, by rw [hfp, k1]⟩
          refine ⟨0, out c.p S, out c'.p T, rb, fun V T1 rb1 hV => ?_, fun V S1 hV => ?_, ?_, ?_, h.rv, ?_, ?_⟩
          · refine (tr_drop hV.tr hd hdk hc hcp (fun _ => ?_)).mono ?_
            · cases hk : kidU S c.p with
              | nil => rfl
              | cons z l =>
                have hz : z ∈ kidU S c.p := by rw [hk]; simp
                obtain ⟨z1, z2⟩ := mem_kidU.1 hz
                exact absurd ⟨z, z1, _, z2⟩ hE
            · rintro e V' ⟨rfl, hT, hu⟩
              have kp := Kpt.of_blk hV.tr hu
              refine ⟨rfl, hV.prog kp (hu.below hV.bel.size (fun k hk => blk_lo hV.tr k hk)) hT (fun e he hk => ?_) (fun b k e => by cases e)⟩
              exact hV.mt.kpt kp e (mem_out.1 he).1 hk
          · have q := hV.rt.rq
            have hnil : rkd T rb c'.p = [] := by
              cases hL : rkd T rb c'.p with
              | nil => rfl
              | cons y L =>
                obtain ⟨x, v⟩ := y
                have hm : (x, v) ∈ rkd T rb c'.p := by rw [hL]; simp
                obtain ⟨⟨z, z1, z2⟩, -⟩ := rkd_mem.1 hm
                exact absurd ⟨z, z1, x, z2⟩ hE'
            refine (rg_drop r4_st hV.rt.rg q hd' hdk' hc' hcp' (fun _ => hnil)).mono ?_
            rintro e V' ⟨rfl, hg, hu⟩
            have hno : ∀ e ∈ T, c'.p <+: e.p → e = c' := fun e he hpr => by
              obtain ⟨r, hr⟩ := hpr
              cases r with
              | nil => exact rone_p q.one he hc' (by rw [← hr]; simp)
              | cons x r =>
                obtain ⟨z, z1, z2⟩ := q.pre _ he rfl (show c'.p ++ [x] <+: e.p from ⟨r, by rw [← hr]; simp⟩)
                exact absurd ⟨z, z1, x, z2⟩ hE'
            exact ⟨rfl, hV.doc (Rg.chg hV.rt.rg hg (X := fun p => p = d'.p ∨ p = c'.p) hu) (hu.below hV.bel.size (fun k ⟨e, he, _, _, hk⟩ => by rw [hk]; exact hV.rt.low e he)) (Rg.dropped q hc' hcp' hno hV.rt.low hg) (fun b k e => by cases e)⟩
          · rw [k1]; exact pe_out h.se _
          · obtain ⟨r, hr, hrp, hrn⟩ := h.ru
            exact ⟨r, mem_out.2 ⟨hr, fun e => hne (List.prefix_nil.1 (hrp ▸ e))⟩, hrp, hrn⟩
          · exact Nat.le_trans (List.length_filter_le _ _) (by omega)
          · exact Nat.le_trans (List.length_filter_le _ _) (by omega)
      · have hex' : ¬ ∃ e ∈ T, e.p = d'.p ++ [n] := fun he => hex (by
          rw [hdd]
          exact h.se.ex.2 he)
        refine ⟨192, S, T, rb, no 192 (fun V T1 rb1 hV => ?_) (fun V S1 hV => ?_)⟩
        · obtain ⟨-, -, -, -, up, L, h5, -, h7⟩ := hV.tr.dir d hd hdk
          refine Calls.still (drop_none d.nb d.db d.mb up L (ba n) V h5 ?_)
          cases e : lk L (ba n) with
          | none => rfl
          | some v => obtain ⟨c, hc, hcp, -⟩ := (h7 n v).1 e; exact absurd ⟨c, hc, hcp⟩ hex
        · have hth : rth (rkd T rb d'.p) n = false := by
            rw [← Bool.not_eq_true, rth_pw n (rkd_pw hV.rt.one rb d'.p)]
            rintro ⟨v, hv⟩
            exact hex' (rkd_mem.1 hv).1
          exact rDrop_none (hV.rt.dir d' hd' hdk') n (by have := rkd_len hV.rt d'.p; omega) hth
    · refine ⟨193, S, T, rb, no 193 (fun V T1 rb1 hV => ?_) (fun V S1 hV => ?_)⟩
      · obtain ⟨t, k, hn, ht⟩ := (hV.tr.lef d hd hdk).nd
        exact Calls.still (drop_leaf _ _ _ _ V hn ht)
      · obtain ⟨f, tx, m, hR⟩ := hV.rt.lef hd' (by omega)
        exact Calls.still (rDrop_leaf hR (by omega) _)
  · exact ⟨1, S, T, rb, no 1 (fun V T1 rb1 hV => Calls.still (drop_nil _ V)) (fun V S1 hV => Calls.still (rDrop_nil V _))⟩
/-- What Add of a new node makes of both, whichever side is first. -/
structure Stp3 (w0 : Wbx) (u0 v0 N : Nat) (S T : List En) (rb : List B → Nat) (k : Nat) (va ub : Value) (s : ByteArray) (c : Int) (S' : Nat → List En) (T' : List En) (rb' : Nat → List B → Nat) : Prop where
  pf : ∀ W T1 rb1 y m, Wz w0 W S T1 rb1 (some (m, k)) y → Calls Tryz.prog 47 #[va, .string s, Pt m] W fun e W' => e = .returned (.int .i64 c) ∧ Wz w0 W' (S' m) T1 rb1 none y
  pg : ∀ W S1 x o, Wz w0 W S1 T rb x (some (o, k)) → Calls Tryz.prog 40 #[ub, .string s, Pt o] W fun e W' => e = .returned (.int .i64 c) ∧ Wz w0 W' S1 T' (rb' o) x none
  se : ∀ m, SamE (S' m) T'
  ru : ∀ m, ∃ r ∈ S' m, r.p = [] ∧ r.nb = u0
  rv : ∀ o, rb' o [] = v0
  ls : ∀ m, (S' m).length ≤ N + 1
  lt : T'.length ≤ N + 1
theorem Wz.drx {w0 : Wbx} {W : World} {S T : List En} {rb : List B → Nat} {x y : Option (Nat × Nat)} (h : Wz w0 W S T rb x y) : Wz w0 W S T rb none y := ⟨h.bel, h.tb, h.tr, h.mt, h.rt, fun b k e => (by cases e), h.fy⟩
theorem Wz.dry {w0 : Wbx} {W : World} {S T : List En} {rb : List B → Nat} {x y : Option (Nat × Nat)} (h : Wz w0 W S T rb x y) : Wz w0 W S T rb x none := ⟨h.bel, h.tb, h.tr, h.mt, h.rt, h.fx, fun b k e => (by cases e)⟩
theorem stp3_no {w0 : Wbx} {u0 v0 N : Nat} {S T : List En} {rb : List B → Nat} {k : Nat} {va ub : Value} {s : ByteArray} {c : Int} (hE : SamE S T) (hru : ∃ r ∈ S, r.p = [] ∧ r.nb = u0) (hrv : rb [] = v0) (hls : S.length ≤ N) (hlt : T.length ≤ N)
    (hf : ∀ W T1 rb1 y m, Wz w0 W S T1 rb1 (some (m, k)) y → Calls Tryz.prog 47 #[va, .string s, Pt m] W fun e W' => e = .returned (.int .i64 c) ∧ Below W.heap.size W W')
    (hg : ∀ W S1 x o, Wz w0 W S1 T rb x (some (o, k)) → Calls Tryz.prog 40 #[ub, .string s, Pt o] W fun e W' => e = .returned (.int .i64 c) ∧ Below W.heap.size W W') : Stp3 w0 u0 v0 N S T rb k va ub s c (fun _ => S) T (fun _ => rb) :=
  ⟨fun W T1 rb1 y m h => (hf W T1 rb1 y m h).mono fun e W' ⟨h1, h2⟩ => ⟨h1, (h.below h2).drx⟩, fun W S1 x o h => (hg W S1 x o h).mono fun e W' ⟨h1, h2⟩ => ⟨h1, (h.below h2).dry⟩, fun _ => hE, fun _ => hru, fun _ => hrv, fun _ => by omega, by omega⟩
theorem Fp.nd {lo : Nat} {w : World} {S : List En} {b k : Nat} (h : Fp lo w S b k) : ∃ t kb, Nd w b t kb ∧ (t = 109 ∨ t = 85 ∨ t = 111 ∨ t = 110) := by
  obtain ⟨-, -, ⟨-, kb, db, -, h1⟩ | ⟨-, kb, h1⟩⟩ := h
  · exact ⟨_, _, h1.nod, .inr (.inr (.inl rfl))⟩
  · exact ⟨_, _, h1, .inr (.inl rfl)⟩
theorem Fp.k {lo : Nat} {w : World} {S : List En} {b k : Nat} (h : Fp lo w S b k) : k = 3 ∨ k = 4 := by
  obtain ⟨-, -, ⟨h1, -⟩ | ⟨h1, -⟩⟩ := h
  · exact .inl h1
  · exact .inr h1
set_option maxHeartbeats 1000000 in
/-- An Add of a new node on both sides. -/
theorem add_pair {w0 : Wbx} {W : World} {u0 v0 N : Nat} {S T : List En} {rb : List B → Nat} {x0 y0 : Option (Nat × Nat)} (h : Lp w0 W u0 v0 N S T rb x0 y0) (hN : N ≤ 1000) (k : Nat) {p1 : List B} {v1 u1 : Value} (h1 : Fv S T rb p1 v1 u1) (a : B) (ha : a.length ≤ 1000000) :
    ∃ c S' T' rb', Stp3 w0 u0 v0 N S T rb k v1 u1 (ba a) c S' T' rb' := by
  have hND := h.wz.nam h.se
  have hls := h.ls
  have hlt := h.lt
  have no := fun (c : Int) => @stp3_no w0 u0 v0 N S T rb k v1 u1 (ba a) c h.se h.ru h.rv hls hlt
  rcases h1 with ⟨d, hd, d', hd', e1, e2, e3, rfl, rfl⟩ | ⟨-, -, rfl, rfl⟩
  · have hdd : d.p = d'.p := e1.trans e2.symm
    by_cases hdk : d.k = 1
    · have hdk' : d'.k = 1 := e3 ▸ hdk
      obtain ⟨N1, hN1⟩ : ∃ N1 : Nat → En, N1 = fun m => ⟨[], k, [], m, 0, 0⟩ := ⟨_, rfl⟩
      obtain ⟨N2, hN2⟩ : ∃ N2 : En, N2 = ⟨d'.p ++ [a], k, [], 0, 0, 0⟩ := ⟨_, rfl⟩
      obtain ⟨c, hc⟩ : ∃ c, c = rac T d' a := ⟨_, rfl⟩
      have hz : ∀ m, hgt [N1 m] [] = 0 := fun m => (hgt_eq (fun e he _ => by rw [List.mem_singleton.1 he, hN1]; simp) (.inl rfl)).symm
      have hcode : ∀ m, adc S [N1 m] d.p a = c := fun m => by
        rw [hc]
        unfold adc rac tcode
        rw [hz m, hdd]
        have hkl : ¬ 4096 ≤ (kidE T d'.p).length := by
          unfold kidE
          rw [(srt_perm En.nm _).length_eq]
          have : (kidU T d'.p).length ≤ T.length := by unfold kidU; exact List.length_filter_le _ _
          omega
        by_cases c1 : nameOk (ba a) = false
        · rw [if_pos c1, if_pos c1]
        · rw [if_neg c1, if_neg c1]
          by_cases c2 : ∃ e ∈ T, e.p = d'.p ++ [a]
          · rw [if_pos c2, if_pos (any_ex.2 (h.se.ex.2 c2))]
          · rw [if_neg c2, if_neg (fun e => c2 (h.se.ex.1 (any_ex.1 e))), if_neg hkl]
      refine ⟨c, fun m => if c = 0 then S ++ [(N1 m).ins (d.p ++ [a])] else S, if c = 0 then T ++ [N2] else T, fun o => if c = 0 then rbu rb (d'.p ++ [a]) o else rb, fun V T1 rb1 y m hV => ?_, fun V S1 x o hV => ?_, fun m => ?_, fun m => ?_, fun o => ?_, fun m => ?_, ?_⟩
      · obtain ⟨f1, f2, f3⟩ := hV.fx m k rfl
        have hL : Lf w0.heap.size V (N1 m) := by
          rw [hN1]
          refine ⟨f1, by simp, .inr (.inr ?_)⟩
          rcases f3 with ⟨r, kb, db, -, h4⟩ | ⟨r, kb, h4⟩
          · exact .inl ⟨r, rfl, kb, h4.nod⟩
          · exact .inr ⟨r, rfl, kb, h4⟩
        have hFr : Free w0.heap.size V [N1 m] (N1 m) := ⟨by simp, by rw [hN1], fun e => by rw [hN1] at e; simp only at e; have := (hV.fx m k rfl).k; omega, fun _ => ⟨rfl, hL⟩⟩
        have hNk : (N1 m).k = k := by rw [hN1]
        have hNb : (N1 m).nb = m := by rw [hN1]
        have hadd := tr_add hV.tr hFr hd hdk a (by omega) (by simp) (fun x hx y hy => by rw [List.mem_singleton.1 hy, hNb]; exact f2 x hx) (fun x hx y hy _ e => by rw [List.mem_singleton.1 hy, hNk] at e; omega)
        rw [hcode m, hNb] at hadd
        refine hadd.mono ?_
        rintro e V' ⟨rfl, hres⟩
        rcases hres with ⟨h0, hT, hu⟩ | ⟨h0, hb⟩
        · have hu2 : Upd (blk S) V V' := hu.mono (fun j _ hj => hj.elim id (fun ⟨e, he, hk1, _⟩ => by rw [List.mem_singleton.1 he, hNk] at hk1; omega))
          have kp := Kpt.of_blk hV.tr hu2
          refine ⟨rfl, hV.prog kp (hu2.below hV.bel.size (fun k hk => blk_lo hV.tr k hk)) ?_ ?_ (fun b k e => by cases e)⟩
          · rw [if_pos h0]; exact hT
          · rw [if_pos h0]
            intro e he hek
            rcases List.mem_append.1 he with he | he
            · exact hV.mt.kpt kp e he hek
            · rw [List.mem_singleton.1 he] at hek ⊢
              have hk3 : k = 3 := by rw [← hNk]; exact hek
              rcases f3 with ⟨-, kb, db, h3, h4⟩ | ⟨r, -⟩
              · exact ⟨kb, db, h3, by rw [show ((N1 m).ins (d.p ++ [a])).nb = m from hNb]; exact kp.mt h4⟩
              · omega
        · refine ⟨rfl, ?_⟩
          rw [if_neg h0]
          exact (hV.below hb).drx
      · obtain ⟨f0, f1, f2, mm, f3, f4⟩ := hV.fy o k rfl
        have hnew : RNew R4 V o N2 := by
          rw [hN2]
          exact .inr (.inr (.inr ⟨f0, rfl, mm, f3, f4⟩))
        have hdp := (hND d' hd').1
        refine (rt_add r4_st hV.rt hV.bel.size hd' hdk' (by omega) (x := a) (by omega) (e := N2) (by rw [hN2]) f2 f1 hnew (by omega)).mono ?_
        rintro e V' ⟨rfl, hb, hT, hbl, hu⟩
        rw [← hc] at hb hT ⊢
        by_cases h0 : c = 0
        · have hT2 := hT h0
          have hch : Ch 0 (Ty [127]) V V' := Ch.of_upd hu (fun j _ _ hj => by
            rcases hj with rfl | rfl
            · obtain ⟨c1, g1⟩ := (hV.rt.dir d' hd' hdk').node.1
              have hd2 : d' ∈ T ++ [N2] := by simp [hd']
              obtain ⟨c2, g2⟩ := (hT2.dir d' hd2 hdk').node.1
              have hrb : rbu rb (d'.p ++ [a]) o d'.p = rb d'.p := by
                unfold rbu
                rw [if_neg (fun e => by have := congrArg List.length e; simp at this)]
              rw [hrb] at g2
              exact ⟨_, _, g1, g2, ⟨_, _, _, by simp, rfl⟩, ⟨_, _, _, by simp, rfl⟩⟩
            · obtain ⟨c1, g1⟩ := f3.node.1
              have hn2 : N2 ∈ T ++ [N2] := by simp
              obtain ⟨ff, tt, mm2, L2, uu, hR2⟩ := hT2.rg.rc hT2.rq hn2
              obtain ⟨c2, g2⟩ := hR2.node.1
              have hrb : rbu rb (d'.p ++ [a]) j N2.p = j := by
                unfold rbu
                rw [if_pos (by rw [hN2])]
              rw [hrb] at g2
              exact ⟨_, _, g1, g2, ⟨_, _, _, by simp, rfl⟩, ⟨_, _, _, by simp, rfl⟩⟩)
          refine ⟨rfl, ?_⟩
          rw [if_pos h0, if_pos h0]
          exact hV.doc hch hbl hT2 (fun b k e => by cases e)
        · refine ⟨rfl, ?_⟩
          rw [if_neg h0, if_neg h0]
          exact (hV.below (hb h0)).dry
      · by_cases h0 : c = 0
        · rw [if_pos h0, if_pos h0]
          have hpe : pe ((N1 m).ins (d.p ++ [a])) = pe N2 := by
            rw [hN1, hN2]
            unfold pe En.ins
            simp [hdd]
          intro t
          constructor
          · rintro ⟨e, he, rfl⟩
            rcases List.mem_append.1 he with he | he
            · obtain ⟨f, hf, hfp⟩ := (h.se (pe e)).1 ⟨e, he, rfl⟩
              exact ⟨f, by simp [hf], hfp⟩
            · rw [List.mem_singleton.1 he]
              exact ⟨N2, by simp, hpe.symm⟩
          · rintro ⟨e, he, rfl⟩
            rcases List.mem_append.1 he with he | he
            · obtain ⟨f, hf, hfp⟩ := (h.se (pe e)).2 ⟨e, he, rfl⟩
              exact ⟨f, by simp [hf], hfp⟩
            · rw [List.mem_singleton.1 he]
              exact ⟨_, by simp, hpe⟩
        · rw [if_neg h0, if_neg h0]; exact h.se
      · obtain ⟨r, hr, hrp, hrn⟩ := h.ru
        by_cases h0 : c = 0
        · rw [if_pos h0]; exact ⟨r, by simp [hr], hrp, hrn⟩
        · rw [if_neg h0]; exact ⟨r, hr, hrp, hrn⟩
      · by_cases h0 : c = 0
        · rw [if_pos h0]
          unfold rbu
          rw [if_neg (by simp)]
          exact h.rv
        · rw [if_neg h0]; exact h.rv
      · split
        · rw [List.length_append]; simp; omega
        · omega
      · split
        · rw [List.length_append]; simp; omega
        · omega
    · refine ⟨193, _, _, _, no 193 (fun V T1 rb1 y m hV => ?_) (fun V S1 x o hV => ?_)⟩
      · obtain ⟨t, kk, hn, ht⟩ := (hV.tr.lef d hd hdk).nd
        obtain ⟨t2, k2, hn2, -⟩ := (hV.fx m k rfl).nd
        exact Calls.still (add_notdir (ba a) d.nb m k2 kk t2 t V hn2 hn ht)
      · obtain ⟨f, tx, mm, hR⟩ := hV.rt.lef hd' (by omega)
        exact Calls.still (rAdd_leaf hR (by omega) _ _)
  · refine ⟨1, _, _, _, no 1 (fun V T1 rb1 y m hV => ?_) (fun V S1 x o hV => Calls.still (rAdd_nil1 V _ _))⟩
    obtain ⟨t2, k2, hn2, -⟩ := (hV.fx m k rfl).nd
    exact Calls.still (add_niln (ba a) m k2 t2 V hn2)
end Go.Proofs.YtbnaegoahdcejaaGreatDoor

namespace Go.Proofs.YtbnaegoahdcejaaGreatDoor
open Go.RowKit Go.ChangeMaps

theorem Wz.newx {w0 : Wbx} {W W' : World} {S T : List En} {rb : List B → Nat} {y : Option (Nat × Nat)} (h : Wz w0 W S T rb none y) (b : Below W.heap.size W W') {m k : Nat} (hF : Fp w0.heap.size W' S m k) : Wz w0 W' S T rb (some (m, k)) y := by
  have h2 := h.below b
  exact ⟨h2.bel, h2.tb, h2.tr, h2.mt, h2.rt, fun b k e => by
    simp only [Option.some.injEq, Prod.mk.injEq] at e
    rw [← e.1, ← e.2]; exact hF, h2.fy⟩
theorem Wz.newy {w0 : Wbx} {W W' : World} {S T : List En} {rb : List B → Nat} {x : Option (Nat × Nat)} (h : Wz w0 W S T rb x none) (b : Below W.heap.size W W') {m k : Nat} (hF : Fr w0.heap.size W' T rb m k) : Wz w0 W' S T rb x (some (m, k)) := by
  have h2 := h.below b
  exact ⟨h2.bel, h2.tb, h2.tr, h2.mt, h2.rt, h2.fx, fun b k e => by
    simp only [Option.some.injEq, Prod.mk.injEq] at e
    rw [← e.1, ← e.2]; exact hF⟩
theorem wz_white {w0 : Wbx} {W : World} {S T : List En} {rb : List B → Nat} {y : Option (Nat × Nat)} (h : Wz w0 W S T rb none y) : Calls Tryz.prog 17 #[] W fun e W' => ∃ m, e = .returned (Pt m) ∧ Wz w0 W' S T rb (some (m, 4)) y :=
  (white_new W).mono fun e W' ⟨m, k, h1, h2, h3, h4⟩ => ⟨m, h1, h.newx h4 ⟨Nat.le_trans h.bel.size h2, fun x hx e => by have := h.tr.ndlt hx; omega, .inr ⟨rfl, k, h3⟩⟩⟩
theorem wz_rwhite {w0 : Wbx} {W : World} {S T : List En} {rb : List B → Nat} {x : Option (Nat × Nat)} (h : Wz w0 W S T rb x none) : Calls Tryz.prog 48 #[] W fun e W' => ∃ m, e = .returned (Pt m) ∧ Wz w0 W' S T rb x (some (m, 4)) :=
  (rWhite_any W).mono fun e W' ⟨h1, h2, h3⟩ => ⟨W.heap.size, h1, h.newy h3 ⟨.inr rfl, h.bel.size, fun x hx e => by have := h.rt.lt hx; omega, _, h2, fun e => by cases e⟩⟩
/-- A mount on both sides: refused alike, or a new node on either. -/
theorem mount_pair {w0 : Wbx} {S T : List En} {rb : List B → Nat} {p1 : List B} {v1 u1 : Value} (h1 : Fv S T rb p1 v1 u1) :
    (∃ c : Int, (∀ V T1 rb1 y, Wz w0 V S T1 rb1 none y → Calls Tryz.prog 45 #[v1] V fun e V' => e = .returned (.tuple #[.pointer none, .int .i64 c]) ∧ V' = V) ∧ (∀ V S1 x, Wz w0 V S1 T rb x none → Calls Tryz.prog 46 #[u1] V fun e V' => e = .returned (.tuple #[.pointer none, .int .i64 c]) ∧ V' = V)) ∨
    ((∀ V T1 rb1 y, Wz w0 V S T1 rb1 none y → Calls Tryz.prog 45 #[v1] V fun e V' => ∃ m, e = .returned (.tuple #[Pt m, .int .i64 0]) ∧ Wz w0 V' S T1 rb1 (some (m, 3)) y) ∧ (∀ V S1 x, Wz w0 V S1 T rb x none → Calls Tryz.prog 46 #[u1] V fun e V' => ∃ m, e = .returned (.tuple #[Pt m, .int .i64 0]) ∧ Wz w0 V' S1 T rb x (some (m, 3)))) := by
  rcases h1 with ⟨d, hd, d', hd', e1, e2, e3, rfl, rfl⟩ | ⟨-, -, rfl, rfl⟩
  · by_cases hk : d.k = 1 ∨ d.k = 3
    · right
      refine ⟨fun V T1 rb1 y hV => ?_, fun V S1 x hV => ?_⟩
      · have fin : ∀ {db : Nat} {e : Ending} {V' : World}, (∃ mn k, e = .returned (.tuple #[Pt mn, .int .i64 0]) ∧ V.heap.size ≤ mn ∧ V.heap.size ≤ k ∧ Mt V' mn k db ∧ Below V.heap.size V V') → ∃ m, e = .returned (.tuple #[Pt m, .int .i64 0]) ∧ Wz w0 V' S T1 rb1 (some (m, 3)) y := by
          rintro db e V' ⟨mn, k, z1, z2, z3, z4, z5⟩
          exact ⟨mn, z1, hV.newx z5 ⟨Nat.le_trans hV.bel.size z2, fun x hx e => by have := hV.tr.ndlt hx; omega, .inl ⟨rfl, k, db, Nat.le_trans hV.bel.size z3, z4⟩⟩⟩
        rcases hk with hk | hk
        · obtain ⟨-, -, -, -, up, L, h5, -, -⟩ := hV.tr.dir d hd hk
          exact (mount_dir _ _ V h5.nod).mono fun e V' hr => fin hr
        · obtain ⟨kb, db, -, hM⟩ := hV.mt d hd hk
          exact (mount_mount _ _ _ V hM).mono fun e V' hr => fin hr
      · have fin : ∀ {mb : Nat} {e : Ending} {V' : World}, e = .returned (.tuple #[Pt V.heap.size, .int .i64 0]) → Rc V' V.heap.size 3 (.pointer none) ⟨#[]⟩ (Pt mb) [] (.pointer none) → Below V.heap.size V V' → ∃ m, e = .returned (.tuple #[Pt m, .int .i64 0]) ∧ Wz w0 V' S1 T rb x (some (m, 3)) := by
          intro mb e V' z1 z2 z3
          exact ⟨V.heap.size, z1, hV.newy z3 ⟨.inl rfl, hV.bel.size, fun x hx e => by have := hV.rt.lt hx; omega, _, z2, fun _ => ⟨mb, rfl⟩⟩⟩
        rcases hk with hk | hk
        · exact (rMount_dir (hV.rt.dir d' hd' (e3 ▸ hk))).mono fun e V' ⟨z1, z2, z3⟩ => fin z1 z2 z3
        · obtain ⟨-, m, hR, hm⟩ := hV.rt.mnt d' hd' (.inl (e3 ▸ hk))
          obtain ⟨mb, rfl⟩ := hm (e3 ▸ hk)
          rw [show d'.k = 3 from e3 ▸ hk] at hR
          exact (rMount_mount hR).mono fun e V' ⟨z1, z2, z3⟩ => fin z1 z2 z3
    · left
      refine ⟨193, fun V T1 rb1 y hV => ?_, fun V S1 x hV => ?_⟩
      · obtain ⟨-, -, hL⟩ := hV.tr.lef d hd (fun e => hk (.inl e))
        rcases hL with ⟨-, fb, hb, -, h4, -⟩ | ⟨-, lb, -, h4⟩ | ⟨e, -⟩ | ⟨-, -, kb, h4⟩
        · exact mount_leaf _ _ _ V h4.nod (.inl rfl)
        · exact mount_leaf _ _ _ V h4.nod (.inr (.inr rfl))
        · exact absurd (.inr e) hk
        · exact mount_leaf _ _ _ V h4 (.inr (.inl rfl))
      · obtain ⟨f, tx, m, hR⟩ := hV.rt.lef hd' (fun e => hk (.inl (by omega)))
        exact rMount_leaf hR (fun e => hk (.inl (by omega))) (fun e => hk (.inr (by omega)))
  · exact .inl ⟨1, fun V T1 rb1 y _ => mount_nil V, fun V S1 x _ => rMount_nil V⟩
/-- A path's names, of "" none. -/
def pa (s : B) : List B := if s = [] then [] else spl s
theorem Fv.none_of {S T : List En} {rb : List B → Nat} {lo : Nat} {W : World} (hT : Tr lo W S) {F : World → Nat → B → Prop} {lo2 : Nat} (hR : Rt F lo2 W T rb) {l : List B} {i : Nat} (h : Fv S T rb (l.take i) (.pointer none) (.pointer none)) : Fv S T rb l (.pointer none) (.pointer none) := by
  rcases h with ⟨a, -, b, -, -, -, -, e, -⟩ | ⟨h1, h2, -, -⟩
  · cases e
  · refine .inr ⟨fun ⟨e, he, hp⟩ => h1 ?_, fun ⟨e, he, hp⟩ => h2 (hR.pre _ he rfl (by rw [hp]; exact List.take_prefix _ _)), rfl, rfl⟩
    obtain ⟨c, c1, c2, -⟩ := hT.anc (e.p.length - (l.take i).length) e he (by rw [hp, List.length_take]; omega) (by rw [hp]; exact List.take_prefix _ _)
    exact ⟨c, c1, c2⟩
set_option maxRecDepth 20000 in
set_option maxHeartbeats 4000000 in
theorem found_any {w0 : Wbx} {W : World} {u0 v0 N : Nat} {S T : List En} {rb : List B → Nat} (h : Lp w0 W u0 v0 N S T rb none none) (s : B) (hs : s.length ≤ 1000000) :
    Calls Tryz.prog 43 #[Pt u0, Pt v0, .string (ba s)] W fun e W' => ∃ v u, e = .returned (.tuple #[v, u]) ∧ Fv S T rb (pa s) v u ∧ Below W.heap.size W W' := by
  have hroot : Fv S T rb [] (Pt u0) (Pt v0) := by
    obtain ⟨r, hr, hrp, hrn⟩ := h.ru
    obtain ⟨r', hr', k1, k2, -⟩ := h.se.twin hr
    exact .inl ⟨r, hr, r', hr', hrp, k1.trans hrp, k2.symm, by rw [hrn], by rw [k1, hrp, h.rv]⟩
  have AR := aside hroot
  by_cases hs0 : s = []
  · have hN0 : ba s = ⟨#[]⟩ := by rw [hs0]; rfl
    rw [hN0]
    have Apa : Aside (pa s = []) := by show pa s = []; unfold pa; rw [if_pos hs0]
    clear hroot hN0 h hs hs0
    go_enter Tryz.func43, Tryz.ntmps43
    go_wp2_with fail
    go_ret2
    exact ⟨_, _, rfl, by rw [Apa.out]; exact AR.out, Below.refl _ _⟩
  · have AN := aside (names_sn s (by omega) W)
    have hk := spl_len s
    have hkc := List.count_le_length (a := (47 : UInt8)) (l := s)
    obtain ⟨l, hl⟩ : ∃ l, l = spl s := ⟨_, rfl⟩
    rw [← hl] at AN
    obtain ⟨n, hn⟩ : ∃ n, n = l.length := ⟨_, rfl⟩
    rw [← hn] at AN
    have hn1 : n ≤ 1000001 := by rw [hn, hl]; omega
    have An := aside hn
    have Apa : Aside (pa s = l) := by show pa s = l; unfold pa; rw [if_neg hs0, hl]
    have hNe : (ba s).toList ≠ [] := by rw [Lib.toList_data, ba_list]; exact hs0
    obtain ⟨Z, hZ⟩ : ∃ Z, Z = ba s := ⟨_, rfl⟩
    rw [← hZ] at AN hNe ⊢
    have hNb : (Z.toList == ([] : List UInt8)) = false := beq_eq_false_iff_ne.2 hNe
    have AH := aside h
    clear hroot h hs hs0 hk hkc hl hn hZ hNe
    go_enter Tryz.func43, Tryz.ntmps43
    go_wp2_with fail
    refine AN.out.mono ?_
    rintro e w1 ⟨a, c, rfl, hsn, hnc, hb1⟩
    have B1 := aside hb1
    have As := aside hsn
    clear hb1 hsn AN
    go_wp2_with fail
    go_loopg [0, 1, 9] n (fun gk s0 s1 s9 wx => ∃ i : Nat, i + gk = n ∧ s9 = .int .i64 (i : Int) ∧ Fv S T rb (l.take i) s0 s1 ∧ Below w1.heap.size w1 wx)
    case atStart => exact ⟨0, by omega, rfl, AR.out, Below.refl _ _⟩
    case round =>
      obtain ⟨i, hig, rfl, hFv, hbx⟩ := hrel
      have BX : Aside (Below W.heap.size W wr) := below_tr B1.out hbx
      have BX1 := aside hbx
      have AHr := aside (AH.out.wz.below BX.out)
      have AFv := aside hFv
      clear hbx
      rcases hFv with ⟨d, hd, d', hd', e1, e2, e3, rfl, rfl⟩ | ⟨-, -, rfl, rfl⟩
      · obtain ⟨db, hdb⟩ : ∃ db, db = d.nb := ⟨_, rfl⟩
        obtain ⟨rd, hrd⟩ : ∃ rd, rd = rb d'.p := ⟨_, rfl⟩
        have Adb := aside hdb
        have Ard := aside hrd
        cases gk with
        | zero =>
          obtain rfl : i = n := by omega
          have hi : ¬ (i : Int) < (i : Int) := by omega
          have htk : l.take i = l := List.take_of_length_le (by rw [← An.out]; exact Nat.le_refl _)
          have A2 : Aside (Fv S T rb (pa s) (Pt db) (Pt rd)) := by
            show Fv S T rb (pa s) (Pt db) (Pt rd)
            have := AFv.out
            rw [htk] at this
            rw [Apa.out, hdb, hrd]
            exact this
          rw [← hdb, ← hrd]
          clear htk hd hd' e1 e2 e3 hdb hrd
          go_wp2_with fail
          go_ret2
          exact ⟨_, _, rfl, A2.out, BX.out⟩
        | succ gk =>
          have hi : (i : Int) < (n : Int) := by omega
          have hi0 : (0 : Int) ≤ (i : Int) := by omega
          have hwi : IntKind.i64.wrap ((i : Int) + 1) = ((i + 1 : Nat) : Int) := by rw [wrap_small _ (by omega) (by omega)]; simp
          obtain ⟨x, hx⟩ : ∃ x, l[i]? = some x := ⟨_, List.getElem?_eq_getElem (by rw [← An.out]; omega)⟩
          obtain ⟨g, o, rfl, hcell⟩ := As.out (fun e => by rw [e] at hx; simp at hx)
          have hcx := hcell i x hx
          have hcr : wr.cell? ⟨g, o + i, none⟩ = some (.string (ba x)) := (BX1.out.cell (World.block_lt_of_cell? w1 _ hcx)).trans hcx
          have htk : l.take (i + 1) = l.take i ++ [x] := by rw [List.take_add_one, hx]; rfl
          have hdx : d.p ++ [x] = l.take (i + 1) := by rw [htk, e1]
          have hdx' : d'.p ++ [x] = l.take (i + 1) := by rw [htk, e2]
          have hT := AHr.out.tr
          have hR := AHr.out.rt
          obtain ⟨v, u, c1, c2, AG, AQ, AF⟩ : ∃ (v u : Value) (c1 c2 : Int), Aside (Calls Tryz.prog 28 #[Pt d.nb, .string (ba x)] wr fun r w' => r = .returned (.tuple #[v, .int .i64 c1]) ∧ w' = wr) ∧ Aside (Calls Tryz.prog 38 #[Pt (rb d'.p), .string (ba x)] wr fun r w' => r = .returned (.tuple #[u, .int .i64 c2]) ∧ Below wr.heap.size wr w') ∧ Aside (Fv S T rb (l.take (i + 1)) v u) := by
            by_cases hex : ∃ e ∈ S, e.p = d.p ++ [x]
            · obtain ⟨e, he, hep⟩ := hex
              obtain ⟨e', he', k1, k2, -⟩ := AH.out.se.twin he
              have hdk : d.k = 1 := by
                obtain ⟨z, z1, z2, z3⟩ := hT.par e he (by rw [hep]; simp)
                rw [hep, List.dropLast_concat] at z2
                rw [← one_p hT.one z1 hd z2]; exact z3
              have hep' : e'.p = d'.p ++ [x] := by rw [k1, hep, e1, e2]
              refine ⟨Pt e.nb, Pt (rb e'.p), 0, 0, hT.get_yes hd hdk he hep, (rt_get hR hd' x).mono fun r w' ⟨h1, hb⟩ => ?_, .inl ⟨e, he, e', he', by rw [hep, hdx], by rw [hep', hdx'], k2.symm, rfl, rfl⟩⟩
              rcases h1 with ⟨-, rfl⟩ | ⟨h1, -⟩
              · exact ⟨by rw [hep'], hb⟩
              · exact absurd ⟨e', he', hep'⟩ h1
            · have hex' : ¬ ∃ e ∈ T, e.p = d'.p ++ [x] := fun he => hex (by rw [e1, ← e2]; exact AH.out.se.ex.2 he)
              have hF : Fv S T rb (l.take (i + 1)) (.pointer none) (.pointer none) := .inr ⟨by rw [← hdx]; exact hex, by rw [← hdx']; exact hex', rfl, rfl⟩
              by_cases hdk : d.k = 1
              · have hth : rth (rkd T rb d'.p) x = false := by
                  rw [← Bool.not_eq_true, rth_pw x (rkd_pw hR.one rb d'.p)]
                  rintro ⟨v, hv⟩
                  exact hex' (rkd_mem.1 hv).1
                exact ⟨.pointer none, .pointer none, 192, 192, hT.get_no hd hdk (fun c hc hcp => hex ⟨c, hc, hcp⟩), rGet_no (hR.dir d' hd' (e3 ▸ hdk)) x (by have := rkd_len hR d'.p; omega) hth, hF⟩
              · obtain ⟨f, tx, m, hRc⟩ := hR.lef hd' (by omega)
                exact ⟨.pointer none, .pointer none, 193, 193, hT.get_leaf hd hdk (ba x), (rGet_leaf hRc (by omega) (ba x)).mono fun r w' ⟨h1, h2⟩ => ⟨h1, by rw [h2]; exact Below.refl _ _⟩, hF⟩
          obtain ⟨X, hX⟩ : ∃ X, X = ba x := ⟨_, rfl⟩
          rw [← hX] at hcr AG AQ
          rw [← hdb] at AG
          rw [← hrd] at AQ
          rw [← hdb, ← hrd]
          clear hcell hcx hx htk hdx hdx' hT hR hX hdb hrd hd hd' e1 e2 e3
          go_wp2_with fail
          refine AG.out.mono ?_
          rintro r w3 ⟨rfl, h3⟩
          obtain rfl := h3.symm
          go_wp2_with fail
          refine AQ.out.mono ?_
          rintro r w4 ⟨rfl, hb4⟩
          have B4 := aside (below_tr BX1.out hb4)
          clear hb4 AG AQ h3
          go_wp2_with fail
          go_roundg gk
          case measure => omega
          case rel => exact ⟨i + 1, by omega, by first | rfl | simp, AF.out, B4.out⟩
      · have A2 : Aside (Fv S T rb (pa s) (.pointer none) (.pointer none)) := by
          show Fv S T rb (pa s) (.pointer none) (.pointer none)
          rw [Apa.out]
          exact Fv.none_of AHr.out.tr AHr.out.rt AFv.out
        by_cases hlt : i < n
        · have hi : (i : Int) < (n : Int) := by omega
          go_wp2_with fail
          go_ret2
          exact ⟨_, _, rfl, A2.out, BX.out⟩
        · have hi : ¬ (i : Int) < (n : Int) := by omega
          go_wp2_with fail
          go_ret2
          exact ⟨_, _, rfl, A2.out, BX.out⟩
end Go.Proofs.YtbnaegoahdcejaaGreatDoor
