/- slices.Replace and slices.Insert where all is put at the end, and (*Bytes).replace over any answer of Replace; what a call may have changed. -/
import Derived.Test.YtleenkdlnmoepaaFit
namespace Go.Proofs.Ytleenkdlnmoepaa
open Go.RowKit
attribute [local simp] lcells_nil readB_length bcells_length
set_option maxHeartbeats 1000000 in
theorem insertEnd_any (v : Value) (n : Nat) (xs : List Value) (w : World) (hown : w.ownsRow 0 179 2 v n xs) (hn : n ≤ 4294967296) (vb : Nat) (m c : Nat) (vs : List Value) (hm : 0 < m) (hm2 : m ≤ 4294967296) (hvl : vs.length = m * 2)
    (hvs : ∀ j u, vs[j]? = some u → w.cell? ⟨vb, j, none⟩ = some u) (h1 : ∀ u ∈ vs, u.oneCell' = true) :
    Calls Try.prog 58 #[v, .int .i64 n, .slice (some ⟨vb, 0, none⟩) m c] w fun e w' => ∃ v', e = .returned v' ∧ w'.ownsRow 0 179 2 v' (n + m) (xs ++ vs) ∧ w.grownBy w' v.ownBlock ∧
      (v'.ownBlock = v.ownBlock ∧ (∃ g, v.ownBlock = some g) ∨ v'.ownBlock = some w.heap.size ∧ Below w.heap.size w w') := by
  have h63 : n + m ≤ maxLen := by unfold maxLen; omega
  have hby : (n + m) * 32 ≤ 140737488355328 := by omega
  have hvs2 : ∀ j u, vs[j]? = some u → w.cell? ((⟨vb, 0, none⟩ : Addr).add j) = some u := fun j u h => by rw [Addr.add_lit, Nat.zero_add]; exact hvs j u h
  have H63 := aside h63
  have HO := aside hown
  have HV := aside hvs2
  have HL := aside hvl
  have H1 := aside h1
  obtain ⟨a, cap, hv, hc1, hc2⟩ := row_form hown
  have hm0 : ((m : Int) == 0) = false := by simp; omega
  have hmz : ¬ (m = 0) := by omega
  clear h63 hown hvs hvs2 hvl h1
  unfold maxLen at hc2
  obtain ⟨ob, hob⟩ : ∃ ob, ob = v.ownBlock := ⟨_, rfl⟩
  rw [← hob]
  subst hv
  have HOB := aside hob
  clear hob
  go_enter Try.func58, Try.ntmps58
  go_wp2_with (at_builtin; refine wpList_append_where _ rfl _ _ 113 rfl 179 (.agg #[.int .i64 0, .slice none 0 0]) 2 32 Try.underlying113 info56 rfl (by decide) (.slice a n cap) n xs rfl HO.out ⟨vb, 0, none⟩ m c vs rfl HL.out HV.out H1.out H63.out hby hm ?_; intro v' w' ho hg hwh; rw [← HOB.out] at hg hwh)
  all_goals go_ret
  all_goals exact ⟨_, rfl, ho, hg, hwh⟩


/-- What a call may have changed: the old blocks of F, and new memory. -/
structure Upd (F : Nat → Prop) (w w' : World) : Prop where
  os : w'.os = w.os
  tape : w'.tape = w.tape
  output : w'.output = w.output
  size : w.heap.size ≤ w'.heap.size
  block : ∀ k, k < w.heap.size → ¬ F k → w'.heap[k]? = w.heap[k]?

theorem Upd.of_below {F : Nat → Prop} {w w' : World} (h : Below w.heap.size w w') : Upd F w w' := ⟨h.os, h.tape, h.output, h.size, fun k hk _ => h.block k hk⟩
theorem Upd.below {F : Nat → Prop} {w w' : World} {B : Nat} (h : Upd F w w') (hB : B ≤ w.heap.size) (hF : ∀ k, F k → B ≤ k) : Below B w w' :=
  ⟨h.os, h.tape, h.output, h.size, fun k hk => h.block k (by omega) (fun hf => by have := hF k hf; omega)⟩
theorem Upd.of_grown {F : Nat → Prop} {w w' : World} {row : Option Nat} (h : w.grownBy w' row) (hF : ∀ k, row = some k → F k) : Upd F w w' :=
  ⟨h.os, h.tape, h.output, h.size, fun k hk hn => h.block k hk (fun e => hn (hF k e.symm))⟩
theorem Upd.refl (F : Nat → Prop) (w : World) : Upd F w w := ⟨rfl, rfl, rfl, Nat.le_refl _, fun _ _ _ => rfl⟩
theorem Upd.trans {F G : Nat → Prop} {a b c : World} (h : Upd F a b) (k : Upd G b c) (hG : ∀ j, j < a.heap.size → G j → F j) : Upd F a c :=
  ⟨k.os.trans h.os, k.tape.trans h.tape, k.output.trans h.output, Nat.le_trans h.size k.size, fun j hj hn => (k.block j (Nat.lt_of_lt_of_le hj h.size) (fun hg => hn (hG j hj hg))).trans (h.block j hj hn)⟩
theorem Upd.mono {F G : Nat → Prop} {a b : World} (h : Upd F a b) (hG : ∀ j, j < a.heap.size → F j → G j) : Upd G a b :=
  ⟨h.os, h.tape, h.output, h.size, fun j hj hn => h.block j hj (fun hf => hn (hG j hj hf))⟩
theorem Upd.setCell {F : Nat → Prop} {w : World} {p : Addr} (hp : F p.block) (u : Value) : Upd F w (w.setCell p u) :=
  ⟨rfl, rfl, rfl, by simp, fun k _ hn => Below.heap_setCell _ _ _ _ (fun e => hn (by rw [e]; exact hp))⟩
theorem Upd.row {F : Nat → Prop} {w w' : World} {e : TypeId} {s : Nat} {v : Value} {n : Nat} {xs : List Value} (h : Upd F w w') (hr : w.ownsRow 0 e s v n xs) (hn : ∀ k, v.ownBlock = some k → ¬ F k) : w'.ownsRow 0 e s v n xs := by
  refine ⟨hr.1, ?_⟩
  rcases hr.2 with h2 | ⟨g, cap, cur, rfl, hg, hh, r⟩
  · exact .inl h2
  · exact .inr ⟨g, cap, cur, rfl, hg, (h.block g (Array.getElem?_eq_some_iff.1 hh).1 (hn g rfl)).trans hh, r⟩

set_option maxHeartbeats 400000 in
theorem replaceM_of (b : Nat) (i j : Int) (x0 x1 lv vv : Value) (n : Nat) (xs : List Value) (n' : Nat) (xs' : List Value) (w : World) (hobj : w.heap[b]? = some (.cells #[x0, x1, lv] 115 (0, 0))) (hne : lv.ownBlock ≠ some b) (hown : w.ownsRow 0 179 2 lv n xs) (hn : n' ≤ 4294967296) (h1 : ∀ u ∈ xs', u.oneCell' = true)
    (hR : Calls Try.prog 57 #[lv, .int .i64 i, .int .i64 j, vv] w fun e w' => ∃ v', e = .returned v' ∧ w'.ownsRow 0 179 2 v' n' xs' ∧ w.grownBy w' lv.ownBlock ∧ (v'.ownBlock = lv.ownBlock ∨ ∃ g, v'.ownBlock = some g ∧ w.heap.size ≤ g)) :
    Calls Try.prog 50 #[.pointer (some ⟨b, 0, none⟩), .int .i64 i, .int .i64 j, vv] w fun e w' => e = .returned (.tuple #[]) ∧ ∃ lv', w'.heap[b]? = some (.cells #[x0, x1, lv'] 115 (0, 0)) ∧ w'.ownsRow 0 179 2 lv' n' xs' ∧
      (lv'.ownBlock = lv.ownBlock ∨ ∃ g, lv'.ownBlock = some g ∧ w.heap.size ≤ g) ∧ Upd (fun k => k = b ∨ lv.ownBlock = some k) w w' := by
  have hb : b < w.heap.size := (Array.getElem?_eq_some_iff.1 hobj).1
  have hl : w.cell? ⟨b, 2, none⟩ = some lv := by rw [cell_of_row w b 2 _ _ _ hobj]; rfl
  obtain ⟨la, cap, hlv, -, -⟩ := row_form hown
  have HR := aside hR
  have HO := aside hobj
  have H1 := aside h1
  have HNE := aside hne
  have HLV := aside hlv
  clear hR hobj h1 hne hlv hown
  go_enter Try.func50, Try.ntmps50
  rw [HLV.out] at hl
  go_wp2_with fail
  rw [← HLV.out]
  refine HR.out.mono ?_
  rintro e w1 ⟨v1, rfl, ho1, hg1, hw1⟩
  have hobj1 : w1.heap[b]? = some (.cells #[x0, x1, lv] 115 (0, 0)) := (hg1.block b hb (fun e => HNE.out e.symm)).trans HO.out
  go_wp2_with fail
  refine (fit55_any v1 n' xs' w1 ho1 hn H1.out).mono ?_
  rintro e w2 ⟨v2, rfl, ho2, hb2, hw2⟩
  have hobj2 : w2.heap[b]? = some (.cells #[x0, x1, lv] 115 (0, 0)) := (hb2.block b (by have := hg1.size; omega)).trans hobj1
  have hl2 : w2.cell? ⟨b, 2, none⟩ = some lv := by rw [cell_of_row w2 b 2 _ _ _ hobj2]; rfl
  have hf2 : w2.frozen? ⟨b, 2, none⟩ = false := frozen_of_row w2 b 2 _ _ hobj2
  obtain ⟨a2, c2, hv2, -, -⟩ := row_form ho2
  have HO2 := aside ho2
  have HOB2 := aside hobj2
  subst hv2
  clear ho2 ho1 hobj1 hobj2
  go_wp2
  go_end0
  have hsz := hg1.size
  have hsz2 := hb2.size
  have hwh : Value.ownBlock (.slice a2 n' c2) = lv.ownBlock ∨ ∃ g, Value.ownBlock (.slice a2 n' c2) = some g ∧ w.heap.size ≤ g := by
    rcases hw2 with e2 | ⟨g, e2, hg⟩
    · rw [e2]; exact hw1
    · exact .inr ⟨g, e2, by omega⟩
  have hnb : Value.ownBlock (.slice a2 n' c2) ≠ some b := by
    rcases hwh with e2 | ⟨g, e2, hg⟩
    · rw [e2]; exact HNE.out
    · rw [e2]; intro e3; injection e3 with e3; omega
  refine ⟨rfl, .slice a2 n' c2, by rw [heap_setCell_same w2 b 2 _ _ _ HOB2.out]; rfl, ?_, hwh, ?_⟩
  · exact (Upd.setCell (F := fun k => k = b) (p := ⟨b, 2, none⟩) rfl _).row HO2.out (fun k hk e => hnb (by rw [hk, e]))
  · refine (Upd.of_grown hg1 (fun k hk => .inr hk)).trans (G := fun k => k = b) ((Upd.of_below hb2).trans (G := fun k => k = b) (Upd.setCell (F := fun k => k = b) (p := ⟨b, 2, none⟩) rfl _) (fun _ _ h => h)) (fun k _ hk => .inl hk)

set_option maxHeartbeats 400000 in
set_option maxRecDepth 100000 in
theorem replaceEnd_any (v : Value) (n : Nat) (xs : List Value) (w : World) (hown : w.ownsRow 0 179 2 v n xs) (hn : n ≤ 4294967296) (vb : Nat) (m c : Nat) (vs : List Value) (hm : 0 < m) (hm2 : m ≤ 4294967296) (hvl : vs.length = m * 2)
    (hvs : ∀ j u, vs[j]? = some u → w.cell? ⟨vb, j, none⟩ = some u) (h1 : ∀ u ∈ vs, u.oneCell' = true) :
    Calls Try.prog 57 #[v, .int .i64 n, .int .i64 n, .slice (some ⟨vb, 0, none⟩) m c] w fun e w' => ∃ v', e = .returned v' ∧ w'.ownsRow 0 179 2 v' (n + m) (xs ++ vs) ∧ w.grownBy w' v.ownBlock ∧
      (v'.ownBlock = v.ownBlock ∨ ∃ g, v'.ownBlock = some g ∧ w.heap.size ≤ g) := by
  have HI := aside (insertEnd_any v n xs w hown hn vb m c vs hm hm2 hvl hvs h1)
  obtain ⟨a, cap, hv, hc1, hc2⟩ := row_form hown
  obtain ⟨ob, hob⟩ : ∃ ob, ob = v.ownBlock := ⟨_, rfl⟩
  rw [← hob]
  have HOB := aside hob
  have HV := aside hv
  clear hown hvs h1 hob
  unfold maxLen at hc2
  go_enter Try.func57, Try.ntmps57
  rw [hv]
  clear hv
  go_wp2_with (go_at_call 58; rw [← HV.out]; refine HI.out.mono ?_; rintro e w1 ⟨v1, rfl, ho1, hg1, hw1⟩)
  all_goals go_ret
  all_goals
    rw [← HOB.out] at hg1 hw1
    refine ⟨_, rfl, ho1, hg1, ?_⟩
    rcases hw1 with ⟨e1, -⟩ | ⟨e1, -⟩
    · exact .inl e1
    · exact .inr ⟨_, e1, Nat.le_refl _⟩
end Go.Proofs.Ytleenkdlnmoepaa
