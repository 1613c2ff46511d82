/- (*Bytes).lay and Put, whole: what stands behind them, and what they may have changed. -/
import Derived.Test.YtkekaljcbmkomaaLaid
import Derived.Test.YtkekaljcbmkomaaLay0
import Derived.Test.YtkekaljcbmkomaaLayIn
import Derived.Test.YtkekaljcbmkomaaLayR
import Derived.Test.YtkekaljcbmkomaaLayL
import Derived.Test.YtkekaljcbmkomaaEraseAny
import Derived.Test.YtkekaljcbmkomaaPut
namespace Go.Proofs.Ytkekaljcbmkomaa
open Go.RowKit

theorem lay_any (b : Nat) (x0 x1 lv : Value) (sz : Nat) (L : List Piece) (x : Nat) (src : Addr) (l : List UInt8) (c : Nat) (w : World) (hS : Str w b x0 x1 lv L) (hI : Inv sz L) (h0 : 0 < l.length) (hl : l.length ≤ 4194304) (hxl : x + l.length ≤ 1073741824)
    (hsrc : ∀ j v, (bcells l)[j]? = some v → w.cell? (src.add j) = some v) :
    Calls Try.prog 36 #[.pointer (some ⟨b, 0, none⟩), .int .i64 x, .slice (some src) l.length c] w fun e w' => e = .returned (.tuple #[]) ∧ ∃ lv' L', Str w' b x0 x1 lv' L' ∧ Laid L L' x l ∧ Grew b lv L w lv' L' ∧ Upd (Foot b lv L) w w' := by
  obtain ⟨i, hi⟩ : ∃ i, L.findIdx (fun d => decide ((x : Int) ≤ d.fin)) = i := ⟨_, rfl⟩
  obtain ⟨j, hj⟩ : ∃ j, L.findIdx (fun d => decide ((x : Int) + (l.length : Int) < d.org)) = j := ⟨_, rfl⟩
  have hjl : j ≤ L.length := by rw [← hj]; exact List.findIdx_le_length
  have hil : i ≤ L.length := by rw [← hi]; exact List.findIdx_le_length
  have hijle : i ≤ j := by
    apply Nat.le_of_not_lt
    intro hlt
    rw [← hi] at hlt
    obtain ⟨ht, h1⟩ := findIdx_lt hlt
    have h2 : decide ((x : Int) + (l.length : Int) < (L[j].org : Int)) = true := by
      have := findIdx_at (q := fun d : Piece => decide ((x : Int) + (l.length : Int) < d.org)) (L := L) (by rw [hj]; exact ht)
      simpa only [hj] using this
    have h1 := of_decide_eq_false h1
    have h2 := of_decide_eq_true h2
    unfold Piece.fin at h1
    omega
  rcases Nat.lt_or_eq_of_le hijle with hij | hij
  · obtain ⟨f, hf⟩ : ∃ f, L[i]? = some f := ⟨_, List.getElem?_eq_getElem (by omega)⟩
    obtain ⟨t, ht⟩ : ∃ t, L[j - 1]? = some t := ⟨_, List.getElem?_eq_getElem (by omega)⟩
    have hE := fun g cc => laid_touch hI h0 hi hj hij hf ht g cc
    have hfL : f ∈ L := List.mem_of_getElem? hf
    obtain ⟨hlf, rfl⟩ := List.getElem?_eq_some_iff.1 hf
    obtain ⟨hlt, rfl⟩ := List.getElem?_eq_some_iff.1 ht
    have hxf : x ≤ L[i].fin := by
      have := findIdx_at (q := fun d : Piece => decide ((x : Int) ≤ d.fin)) (L := L) (by rw [hi]; exact hlf)
      have h2 : decide ((x : Int) ≤ (L[i].fin : Int)) = true := by simpa only [hi] using this
      have := of_decide_eq_true h2
      omega
    have hte : L[j - 1].org ≤ x + l.length := by
      obtain ⟨_, h2⟩ := findIdx_lt (q := fun d : Piece => decide ((x : Int) + (l.length : Int) < d.org)) (L := L) (t := j - 1) (by rw [hj]; omega)
      have h2 := of_decide_eq_false h2
      omega
    rcases Nat.lt_or_ge x L[i].org with hfx | hfx
    · refine (layMergeL_any b x0 x1 lv sz L x i j src l.length c w L[i] L[j - 1] l hS hI hxl hi hj hij hf ht rfl h0 hsrc hfx hte).mono ?_
      rintro e w' ⟨rfl, lv', g, cap, hS', hg, hv, hu⟩
      have hE' := hE g cap
      rw [show min L[i].org x = x by omega, show x - L[i].org = 0 by omega, List.take_zero, List.nil_append] at hE'
      refine ⟨rfl, lv', _, hS', hE', grew_of hv (fun n hn => ?_), hu⟩
      rw [List.mem_singleton.1 hn]; exact .inr hg
    · rcases Nat.lt_or_ge L[i].fin (x + l.length) with hfe | hfe
      · refine (layMergeR_any b x0 x1 lv sz L x i j src l.length c w L[i] L[j - 1] l hS hI hxl hi hj hij hf ht rfl h0 hsrc hfx hfe hxf hte).mono ?_
        rintro e w' ⟨rfl, lv', g, cap, hS', hg, hv, hu⟩
        have hE' := hE g cap
        rw [show min L[i].org x = L[i].org by omega] at hE'
        refine ⟨rfl, lv', _, hS', hE', grew_of hv (fun n hn => ?_), hu⟩
        rw [List.mem_singleton.1 hn]
        rcases hg with hg | hg
        · exact .inl ⟨_, hfL, hg.symm⟩
        · exact .inr hg
      · have hj1 : j = i + 1 := by
          apply Nat.le_antisymm ?_ hij
          apply Nat.le_of_not_lt
          intro hlt2
          have h3 : i + 1 < L.length := by omega
          obtain ⟨_, h2⟩ := findIdx_lt (q := fun d : Piece => decide ((x : Int) + (l.length : Int) < d.org)) (L := L) (t := i + 1) (by rw [hj]; omega)
          have h2 := of_decide_eq_false h2
          have := hI.lt hlf h3 (by omega)
          omega
        subst hj1
        refine (layIn_any b x0 x1 lv sz L x i (i + 1) src l.length c w L[i] L[i + 1 - 1] l hS hI hxl hi hj hij hf ht rfl h0 hsrc hfx hfe).mono ?_
        rintro e w' ⟨rfl, hS', hu⟩
        have hE' := hE L[i].blk L[i].cap
        have e1 : L[i].bs.take (x - L[i].org) ++ l ++ L[i + 1 - 1].bs.drop (min (x + l.length) L[i + 1 - 1].fin - L[i + 1 - 1].org) = splice L[i].bs (x - L[i].org) l := by
          simp only [Nat.add_sub_cancel]
          unfold splice
          rw [show min (x + l.length) L[i].fin - L[i].org = x - L[i].org + l.length by omega, List.append_assoc]
        rw [show min L[i].org x = L[i].org by omega, e1] at hE'
        refine ⟨rfl, lv, _, hS', hE', grew_of (.inl rfl) (fun n hn => ?_), hu.mono (fun k _ hk => .inr (.inr ⟨_, hfL, hk.symm⟩))⟩
        rw [List.mem_singleton.1 hn]
        exact .inl ⟨_, hfL, rfl⟩
  · subst hij
    refine (lay0_any b x0 x1 lv sz L x i src l c w hS hI h0 hl hxl hi hj hsrc).mono ?_
    rintro e w' ⟨rfl, lv', g, cap, hS', hg, hv, hu⟩
    refine ⟨rfl, lv', _, hS', laid_alone hI h0 hi hj g cap, grew_of hv (fun n hn => ?_), hu.mono (fun k _ hk => ?_)⟩
    · rw [List.mem_singleton.1 hn]; exact .inr hg
    · rcases hk with e | e
      · exact .inl e
      · exact .inr (.inl e)

theorem Grew.mono {b : Nat} {lv lv' : Value} {L L' : List Piece} {w W : World} (h : Grew b lv L W lv' L') (hs : w.heap.size ≤ W.heap.size) : Grew b lv L w lv' L' := fun k hk => by
  rcases h k hk with h | h
  · exact .inl h
  · exact .inr (by omega)

/-- Put where it fits. -/
theorem put_any (b sz : Nat) (lv : Value) (L : List Piece) (x : Nat) (src : Addr) (l : List UInt8) (c : Nat) (w : World) (hR : Rep w b sz lv L) (h0 : 0 < l.length) (hxl : x + l.length ≤ 1073741824) (hheld : heldOf L - ovls x (x + l.length) L + l.length ≤ 4194304)
    (hsrc : ∀ j v, (bcells l)[j]? = some v → w.cell? (src.add j) = some v) :
    Calls Try.prog 19 #[.pointer (some ⟨b, 0, none⟩), .int .i64 x, .slice (some src) l.length c] w fun e w' => e = .returned (.int .i64 0) ∧ ∃ lv' L', Rep w' b (max sz (x + l.length)) lv' L' ∧ Laid L L' x l ∧ Grew b lv L w lv' L' ∧ Upd (Foot b lv L) w w' := by
  have h := put_of b sz lv L x l.length c (some src) w (fun lv' L' => Laid L L' x l ∧ Grew b lv L w lv' L') hR h0 hxl hheld
    (fun W hW => (lay_any b _ _ lv sz L x src l c W (hR.below hW).str hR.inv h0 (by omega) hxl (fun j v hj => (hW.cell (World.block_lt_of_cell? w _ (hsrc j v hj))).trans (hsrc j v hj))).mono (by
      rintro e w' ⟨rfl, lv', L', hS, hL, hG, hu⟩
      exact ⟨rfl, lv', L', hS, ⟨hL, hG.mono hW.size⟩, hu⟩))
  refine h.mono ?_
  rintro e w' ⟨rfl, lv', L', hS, ⟨hL, hG⟩, hu⟩
  have hh := hL.held
  have ho := ovls_le x (x + l.length) L
  refine ⟨rfl, lv', L', ⟨?_, hL.sep, hL.ne, fun d hd => ?_, by have := hR.inv.size; omega, by omega⟩, hL, hG, hu⟩
  · rw [show heldOf L - ovls x (x + l.length) L + l.length = heldOf L' by omega] at hS
    exact hS
  · rcases hL.fin d hd with h1 | ⟨e, he, h1⟩
    · omega
    · have := hR.inv.fin e he; omega
end Go.Proofs.Ytkekaljcbmkomaa
