/- (*Bytes).erase, whole: what stands behind it, and what it may have changed. -/
import Derived.Test.YtkekaljcbmkomaaErased
import Derived.Test.YtkekaljcbmkomaaEraseLR
import Derived.Test.YtkekaljcbmkomaaEraseL
import Derived.Test.YtkekaljcbmkomaaEraseR
import Derived.Test.YtkekaljcbmkomaaEraseN
import Derived.Test.YtkekaljcbmkomaaEraseZ
namespace Go.Proofs.Ytkekaljcbmkomaa
open Go.RowKit
/-- The blocks of an object are those that it had, or new ones. -/
def Grew (b : Nat) (lv : Value) (L : List Piece) (w : World) (lv' : Value) (L' : List Piece) : Prop := ∀ k, Foot b lv' L' k → Foot b lv L k ∨ w.heap.size ≤ k

theorem grew_of {b : Nat} {lv lv' : Value} {L N : List Piece} {w : World} {i j : Nat} (hv : lv'.ownBlock = lv.ownBlock ∨ ∃ k, lv'.ownBlock = some k ∧ w.heap.size ≤ k) (hN : ∀ n, n ∈ N → (∃ d, d ∈ L ∧ d.blk = n.blk) ∨ w.heap.size ≤ n.blk) : Grew b lv L w lv' (L.take i ++ N ++ L.drop j) := by
  rintro k (rfl | hk | ⟨d, hd, rfl⟩)
  · exact .inl (.inl rfl)
  · rcases hv with e | ⟨k', e, h⟩
    · exact .inl (.inr (.inl (e ▸ hk)))
    · rw [e] at hk; injection hk with hk; exact .inr (by omega)
  · simp only [List.mem_append] at hd
    rcases hd with (hd | hd) | hd
    · exact .inl (.inr (.inr ⟨d, List.mem_of_mem_take hd, rfl⟩))
    · rcases hN d hd with ⟨e, he, h⟩ | h
      · exact .inl (.inr (.inr ⟨e, he, h⟩))
      · exact .inr h
    · exact .inl (.inr (.inr ⟨d, List.mem_of_mem_drop hd, rfl⟩))

theorem erase_any (b : Nat) (sz : Nat) (lv : Value) (L : List Piece) (x y : Nat) (w : World) (hR : Rep w b sz lv L) (hxy : x < y) (hy : y ≤ 1073741824) :
    Calls Try.prog 37 #[.pointer (some ⟨b, 0, none⟩), .int .i64 x, .int .i64 y] w fun e w' => e = .returned (.tuple #[]) ∧ ∃ lv' L', Rep w' b sz lv' L' ∧ Erased L L' x y ∧ Grew b lv L w lv' L' ∧ Upd (Foot b lv L) w w' := by
  have key : ∀ (w' : World) (lv' : Value) (L' : List Piece), Str w' b (.int .i64 sz) (.int .i64 ((heldOf L - ovls x y L : Nat) : Int)) lv' L' → Erased L L' x y → Rep w' b sz lv' L' := fun w' lv' L' hS hE => by
    have hh := hE.held
    refine ⟨?_, hE.sep, hE.ne, fun d hd => ?_, hR.inv.size, by have := hR.inv.held; omega⟩
    · rw [show heldOf L - ovls x y L = heldOf L' by omega] at hS; exact hS
    · obtain ⟨e, he, -, h2, -⟩ := hE.inn d hd
      have := hR.inv.fin e he; omega
  rcases Nat.lt_or_eq_of_le (hR.inv.ij (x := x) (y := y) (by omega)) with hij | hij
  · have hjl : L.findIdx (fun d => decide ((y : Int) ≤ d.org)) ≤ L.length := List.findIdx_le_length
    obtain ⟨f, hf⟩ : ∃ f, L[L.findIdx (fun d => decide ((x : Int) < d.fin))]? = some f := ⟨_, List.getElem?_eq_getElem (by omega)⟩
    obtain ⟨t, ht⟩ : ∃ t, L[L.findIdx (fun d => decide ((y : Int) ≤ d.org)) - 1]? = some t := ⟨_, List.getElem?_eq_getElem (by omega)⟩
    have hE := fun gl cl gr cr => erased_parts hR.inv hxy rfl rfl hij hf ht gl cl gr cr
    have hfL : f ∈ L := List.mem_of_getElem? hf
    by_cases hfx : f.org < x <;> by_cases hty : y < t.fin
    · refine (eraseLR_any b sz lv L x y _ _ w hR hxy hy rfl rfl hij f t hf ht hfx hty).mono ?_
      rintro e w' ⟨rfl, lv', gl, cl, gr, cr, hS, hgl, hgr, hv, hu⟩
      have hE' := hE gl cl gr cr
      simp only [leftN, rightN, if_pos hfx, if_pos hty, List.cons_append, List.nil_append] at hE'
      refine ⟨rfl, lv', _, key _ _ _ hS hE', hE', grew_of hv (fun n hn => ?_), hu⟩
      simp only [List.mem_cons, List.not_mem_nil, or_false] at hn
      rcases hn with rfl | rfl
      · rcases hgl with e | e
        · exact .inl ⟨f, hfL, e.symm⟩
        · exact .inr e
      · exact .inr hgr
    · refine (eraseL_any b sz lv L x y _ _ w hR hxy hy rfl rfl hij f t hf ht hfx (by omega)).mono ?_
      rintro e w' ⟨rfl, lv', gl, cl, hS, hgl, hv, hu⟩
      have hE' := hE gl cl 0 0
      simp only [leftN, rightN, if_pos hfx, if_neg hty, List.append_nil] at hE'
      refine ⟨rfl, lv', _, key _ _ _ hS hE', hE', grew_of hv (fun n hn => ?_), hu⟩
      rw [List.mem_singleton.1 hn]
      rcases hgl with e | e
      · exact .inl ⟨f, hfL, e.symm⟩
      · exact .inr e
    · refine (eraseR_any b sz lv L x y _ _ w hR hxy hy rfl rfl hij f t hf ht (by omega) hty).mono ?_
      rintro e w' ⟨rfl, lv', gr, cr, hS, hgr, hv, hu⟩
      have hE' := hE 0 0 gr cr
      simp only [leftN, rightN, if_neg hfx, if_pos hty, List.nil_append] at hE'
      refine ⟨rfl, lv', _, key _ _ _ hS hE', hE', grew_of hv (fun n hn => ?_), hu⟩
      rw [List.mem_singleton.1 hn]
      exact .inr hgr
    · refine (eraseN_any b sz lv L x y _ _ w hR hxy hy rfl rfl hij f t hf ht (by omega) (by omega)).mono ?_
      rintro e w' ⟨rfl, lv', hS, hv, hu⟩
      have hE' := hE 0 0 0 0
      simp only [leftN, rightN, if_neg hfx, if_neg hty, List.append_nil] at hE'
      simp only [List.append_nil] at hS
      refine ⟨rfl, lv', _, key _ _ _ hS hE', hE', ?_, hu⟩
      have := grew_of (b := b) (L := L) (N := []) (i := L.findIdx (fun d => decide ((x : Int) < d.fin))) (j := L.findIdx (fun d => decide ((y : Int) ≤ d.org))) hv (fun n hn => by simp at hn)
      simpa only [List.append_nil] using this
  · refine (eraseZ_any b sz lv L x y _ _ w hR hxy hy rfl rfl hij).mono ?_
    rintro e w' ⟨rfl, lv', hS, hv, hu⟩
    have hE' := erased_same hR.inv hxy rfl rfl hij
    exact ⟨rfl, lv', _, key _ _ _ hS hE', hE', grew_of hv (fun n hn => by simp at hn), hu⟩
end Go.Proofs.Ytkekaljcbmkomaa
