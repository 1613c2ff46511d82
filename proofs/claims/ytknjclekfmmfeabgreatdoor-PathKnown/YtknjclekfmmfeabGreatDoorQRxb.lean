/- The document's Add among the records. -/
import Derived.Test.YtknjclekfmmfeabGreatDoorQRxa
import Derived.Test.YtknjclekfmmfeabGreatDoorQRae
namespace Go.Proofs.YtknjclekfmmfeabGreatDoor
open Go.RowKit Go.ChangeMaps

theorem sadd_rbr (S : List Ne) (i j : Nat) (x : B) : rbr (sadd S i j x) = rbr S := by
  funext a
  unfold rbr
  rw [sadd_get]
  cases S[a]? <;> rfl
theorem sadd_rks (S : List Ne) (i j : Nat) (x : B) (K : List (B × Nat)) : rks (sadd S i j x) K = rks S K := by unfold rks; rw [sadd_rbr]
theorem sadd_rpv (S : List Ne) (i j : Nat) (x : B) (p : Option Nat) : rpv (sadd S i j x) p = rpv S p := by
  cases p with
  | none => rfl
  | some p => unfold rpv; rw [sadd_rbr]
theorem rks_len (S : List Ne) (K : List (B × Nat)) : (rks S K).length = K.length := by unfold rks; rw [List.length_map]
theorem RX.code {lo : Nat} {w : World} {S : List Ne} (h : RX lo w S) {i j : Nat} {d e : Ne} {x : B} {K : List (B × Nat)} (hi : S[i]? = some d) (hj : S[j]? = some e) (hK : K.Perm d.L) (hs : Srt K) (hwd : ∀ q ∈ way S i i, ∃ f, S[q]? = some f) :
    rcd x (rks S K) e.k (e.rb ∈ d.rb :: (way S i i).map (rbr S)) e.par.isSome ((way S i i).map (rbr S)).length = adc S i d x j e := by
  have hmem : e.rb ∈ d.rb :: (way S i i).map (rbr S) ↔ j ∈ i :: way S i i := by
    have hm : d.rb :: (way S i i).map (rbr S) = (i :: way S i i).map (rbr S) := by rw [List.map_cons, rbr_of hi]
    rw [hm, List.mem_map]
    constructor
    · rintro ⟨q, hq, hqe⟩
      obtain ⟨f, hf⟩ : ∃ f, S[q]? = some f := by
        rcases List.mem_cons.1 hq with rfl | hq
        · exact ⟨d, hi⟩
        · exact hwd q hq
      rw [rbr_of hf] at hqe
      by_cases hqj : q = j
      · exact hqj ▸ hq
      · exact absurd hqe (h.one q j f e hf hj hqj)
    · intro hq
      exact ⟨j, hq, rbr_of hj⟩
  have hth : rth (rks S K) x = (lkp d.L x).isSome := by
    rw [Bool.eq_iff_iff, rth_srt S x hs, lkp_isSome]
    exact ⟨fun ⟨j, hj⟩ => ⟨j, hK.mem_iff.1 hj⟩, fun ⟨j, hj⟩ => ⟨j, hK.mem_iff.2 hj⟩⟩
  unfold rcd adc
  rw [hth, rks_len, hK.length_eq, List.length_map]
  simp only [hmem]
theorem adc_name {S : List Ne} {i j : Nat} {d e : Ne} {x : B} (h : adc S i d x j e = 0) : lkp d.L x = none := by
  unfold adc at h
  split at h
  · omega
  · split at h
    · omega
    · next h2 => simpa using h2
/-- What the document's Add leaves. -/
def RAdP (lo : Nat) (S : List Ne) (i j : Nat) (x : B) (c : Int) (w : World) (r : Ending) (w' : World) : Prop :=
  r = .returned (.int .i64 c) ∧ Below lo w w' ∧ (c ≠ 0 → Below w.heap.size w w') ∧ (c = 0 → RX lo w' (sadd S i j x) ∧ ∃ F : Nat → Prop, Upd F w w' ∧ ∀ b, F b → ∃ cs, w.heap[b]? = some (.cells cs 114 (0, 0)))
theorem radd {lo : Nat} {w w0 : World} {S : List Ne} (h : RX lo w S) (hG : GX lo w0 S) (hlo : lo ≤ w.heap.size) {i j : Nat} {d e : Ne} (hi : S[i]? = some d) (hd : d.k = 1) (hj : S[j]? = some e) (x : B) (hx : x.length ≤ 1000000000) (hS : S.length ≤ 1000000) (hL : d.L.length ≤ 1000000) (hij : e.k = 1 → e.L = [] ∧ i < j ∨ j ∈ i :: way S i i ∨ e.par.isSome = true) :
    Calls Tryz.prog 30 #[Pt d.rb, .string (ba x), Pt e.rb] w fun r w' => RAdP lo S i j x (adc S i d x j e) w r w' := by
  obtain ⟨n1, f1, m1, K1, hD, hP1, hs1, -⟩ := h.nod i d hi
  obtain ⟨n2, f2, m2, K2, hE, hP2, hs2, hm2⟩ := h.nod j e hj
  have hU := h.up hG.par i i d (Nat.le_refl _) hi
  have hwl := way_len S i i
  have hil := mem_len hi
  have hwd : ∀ q ∈ way S i i, ∃ f, S[q]? = some f := fun q hq => by
    obtain ⟨f, hf, -⟩ := hG.way_dir _ _ q hq
    exact ⟨f, hf⟩
  have hcode := h.code (x := x) hi hj hP1 hs1 hwd
  have hmemw : j ∈ i :: way S i i → e.rb ∈ d.rb :: (way S i i).map (rbr S) := fun hq => by
    have hm : d.rb :: (way S i i).map (rbr S) = (i :: way S i i).map (rbr S) := by rw [List.map_cons, rbr_of hi]
    rw [hm]
    exact List.mem_map.2 ⟨j, hq, rbr_of hj⟩
  have hK2 : e.L = [] → rks S K2 = [] := fun e1 => by
    rw [e1] at hP2
    rw [hP2.eq_nil]; rfl
  rw [hd] at hD
  have hmain := rAdd_any hD hE x hx ((way S i i).map (rbr S)) hU (by rw [List.length_map]; omega) (by rw [rks_len, hP1.length_eq]; exact hL) e.par.isSome
    (by
      cases hp : e.par with
      | none => exact .inl ⟨rfl, rfl⟩
      | some p => exact .inr ⟨rfl, _, rfl⟩)
    (fun hk => by
      rcases hij hk with ⟨e1, -⟩ | e1 | e1
      · exact .inr (.inr (hK2 e1))
      · exact .inl (hmemw e1)
      · exact .inr (.inl e1))
    (fun hk => hK2 (by obtain ⟨-, -, -, h4, -⟩ := hG.nod j e hj; exact (h4 hk).1))
  rw [hcode] at hmain
  refine hmain.mono ?_
  rintro r w' ⟨rfl, hno, hyes⟩
  by_cases hc : adc S i d x j e = 0
  · obtain ⟨hD', hE', u⟩ := hyes hc
    have hFlo : ∀ b, (b = d.rb ∨ e.k = 1 ∧ b = e.rb) → lo ≤ b := fun b hb => by
      rcases hb with rfl | ⟨-, rfl⟩ <;> omega
    refine ⟨by rw [hc], u.below hlo hFlo, fun e1 => absurd hc e1, fun _ => ⟨⟨fun a f hf => ?_, fun a b f g hf hg hab => ?_⟩, _, u, fun b hb => ?_⟩⟩
    · rw [sadd_get] at hf
      obtain ⟨g, hg, rfl⟩ := Option.map_eq_some_iff.1 hf
      by_cases hai : a = i
      · subst hai
        obtain rfl : d = g := by rw [hi] at hg; exact Option.some.inj hg
        have hp : (sup a j x a d).par = d.par := by
          show (if a = j ∧ d.k = 1 then some a else d.par) = d.par
          rw [if_neg]
          rintro ⟨e1, -⟩
          subst e1
          obtain rfl : d = e := by rw [hi] at hj; exact Option.some.inj hj
          exact (adc_zero hc hd).1 (by simp)
        have hl : (sup a j x a d).L = d.L ++ [(x, j)] := if_pos rfl
        rw [← rbr_of hj, ins_map] at hD'
        refine ⟨n1, f1, m1, insK K1 x j, ?_, ?_, insK_srt hs1 (fun q hq e1 => ?_), fun hk => ?_⟩
        · rw [sadd_rks, sadd_rpv, hp]
          show Rc w' d.rb d.k f1 (ba d.to) m1 _ _
          rw [hd]
          exact hD'
        · rw [hl]
          exact (insK_perm x j K1).trans (hP1.append_right _)
        · have h1 := adc_name hc
          have h2 : (lkp d.L x).isSome = true := lkp_isSome.2 ⟨q.2, by rw [← e1]; exact hP1.mem_iff.1 hq⟩
          rw [h1] at h2
          cases h2
        · have : d.k = 3 := hk
          omega
      · by_cases haj : a = j ∧ g.k = 1
        · obtain ⟨rfl, hgk⟩ := haj
          obtain rfl : e = g := by rw [hj] at hg; exact Option.some.inj hg
          have hp : (sup i a x a e).par = some i := if_pos ⟨rfl, hgk⟩
          have hl : (sup i a x a e).L = e.L := if_neg hai
          refine ⟨n2, f2, m2, K2, ?_, by rw [hl]; exact hP2, hs2, fun hk => ?_⟩
          · rw [sadd_rks, sadd_rpv, hp]
            show Rc w' e.rb e.k f2 (ba e.to) m2 _ (Pt (rbr S i))
            rw [hgk, rbr_of hi]
            exact hE' hgk
          · have : e.k = 3 := hk
            omega
        · obtain ⟨n3, f3, m3, K3, hR, hP3, hs3, hm3⟩ := h.nod a g hg
          have hp : (sup i j x a g).par = g.par := if_neg haj
          have hl : (sup i j x a g).L = g.L := if_neg hai
          obtain ⟨a3, c3, hc3, -⟩ := id hR.cel
          refine ⟨n3, f3, m3, K3, ?_, by rw [hl]; exact hP3, hs3, fun hk => by rw [sadd_rbr]; exact hm3 hk⟩
          rw [sadd_rks, sadd_rpv, hp]
          show Rc w' g.rb g.k f3 (ba g.to) m3 _ _
          have hnF : ∀ (b : Nat) (cs : Array Value) (T : TypeId), w.heap[b]? = some (Obj.cells cs T (0, 0)) → T ≠ 114 → w'.heap[b]? = w.heap[b]? := fun b cs T hb hT => u.block b (Array.getElem?_eq_some_iff.1 hb).1 (fun hf => by
            obtain ⟨a4, c4, hc4, -⟩ := hD.cel
            obtain ⟨a5, c5, hc5, -⟩ := hE.cel
            rcases hf with rfl | ⟨-, rfl⟩
            · exact dir_cells hb hc4 hT rfl
            · exact dir_cells hb hc5 hT rfl)
          refine hR.keep (u.block _ hR.lt (fun hf => ?_)) (fun b cs hb => hnF b cs _ hb (by decide))
          rcases hf with e1 | ⟨hk, e1⟩
          · exact h.one a i g d hg hi hai e1
          · by_cases haj2 : a = j
            · subst haj2
              obtain rfl : e = g := by rw [hj] at hg; exact Option.some.inj hg
              exact haj ⟨rfl, hk⟩
            · exact h.one a j g e hg hj haj2 e1
    · rw [sadd_get] at hf hg
      obtain ⟨f1', hf1, rfl⟩ := Option.map_eq_some_iff.1 hf
      obtain ⟨g1, hg1, rfl⟩ := Option.map_eq_some_iff.1 hg
      exact h.one a b f1' g1 hf1 hg1 hab
    · obtain ⟨a4, c4, hc4, -⟩ := hD.cel
      obtain ⟨a5, c5, hc5, -⟩ := hE.cel
      rcases hb with rfl | ⟨-, rfl⟩
      · exact ⟨_, hc4⟩
      · exact ⟨_, hc5⟩
  · exact ⟨rfl, (hno hc).mono hlo, fun _ => hno hc, fun e1 => absurd e1 hc⟩
/-- One more record there. -/
theorem RX.push {lo : Nat} {w w' : World} {S : List Ne} {e : Ne} (h : RX lo w S) (hG : GX lo w S) (b : Below w.heap.size w w') (hlo : lo ≤ e.rb) {f m : Value} (hn : Rc w' e.rb e.k f (ba e.to) m [] (.pointer none)) (hL : e.L = []) (hp : e.par = none) (hu : e.k = 3 → m = Pt (rbr (S ++ [e]) e.u)) (hu2 : ∀ (i : Nat) (d : Ne), S[i]? = some d → d.k = 3 → d.u < S.length) (hnew : w.heap.size ≤ e.rb) : RX lo w' (S ++ [e]) := by
  refine ⟨fun i g hg => ?_, fun i j g d hg hd hij => ?_⟩
  · rcases app_cases hg with hg | ⟨rfl, rfl⟩
    · obtain ⟨n1, f1, m1, K, hR, hP, hs, hm⟩ := (h.below b).nod i g hg
      have e1 : rks (S ++ [e]) K = rks S K := by
        unfold rks
        refine List.map_congr_left fun p hp => ?_
        obtain ⟨d, hd, -⟩ := hG.kid i g p.1 p.2 hg (hP.mem_iff.1 hp)
        unfold rbr
        rw [app_old (mem_len hd)]
      have e2 : rpv (S ++ [e]) g.par = rpv S g.par := by
        cases hq : g.par with
        | none => rfl
        | some q =>
          obtain ⟨-, d, hd, -⟩ := hG.par i g q hg hq
          show Pt (rbr (S ++ [e]) q) = Pt (rbr S q)
          unfold rbr
          rw [app_old (mem_len hd)]
      refine ⟨n1, f1, m1, K, by rw [e1, e2]; exact hR, hP, hs, fun hk => ?_⟩
      rw [hm hk]
      unfold rbr
      rw [app_old (hu2 i g hg hk)]
    · exact ⟨hlo, f, m, [], by rw [hp]; exact hn, by rw [hL], by unfold Srt; simp, hu⟩
  · have hfar : ∀ (a : Nat) (q : Ne), S[a]? = some q → q.rb ≠ e.rb := fun a q hq => by
      obtain ⟨-, f1, m1, K, hR, -⟩ := h.nod a q hq
      have := hR.lt
      omega
    rcases app_cases hg with hg1 | ⟨rfl, rfl⟩
    · rcases app_cases hd with hd1 | ⟨rfl, rfl⟩
      · exact h.one i j g d hg1 hd1 hij
      · exact hfar i g hg1
    · rcases app_cases hd with hd1 | ⟨rfl, rfl⟩
      · exact (hfar j d hd1).symm
      · exact absurd rfl hij
theorem RX.empty (lo : Nat) (w : World) : RX lo w [] := ⟨fun i e h => by simp at h, fun i j e d h => by simp at h⟩
end Go.Proofs.YtknjclekfmmfeabGreatDoor
