/- (*Bytes).replace where only the stretches that stay are asked for, and append onto a row of bytes. -/
import Derived.Test.YtkekaljcbmkomaaLayS
namespace Go.Proofs.Ytkekaljcbmkomaa
open Go.RowKit
attribute [local simp] lcells_nil readB_length bcells_length
/-- (*Bytes).replace with the pieces N in the place of those from i up to j; of the old pieces only those that stay are asked for. -/
theorem replaceKept (b : Nat) (x0 x1 lv vv : Value) (L N : List Piece) (i j : Nat) (w : World) (hobj : w.heap[b]? = some (.cells #[x0, x1, lv] 50 (0, 0))) (hlr : w.ownsRow 0 56 2 lv L.length (lcells L)) (hlne : lv.ownBlock ≠ some b)
    (hkd : ∀ d, d ∈ L.take i ++ L.drop j → w.ownsRow 0 5 1 d.dv d.bs.length (bcells d.bs)) (hkb : ∀ d, d ∈ L.take i ++ L.drop j → d.blk ≠ b ∧ lv.ownBlock ≠ some d.blk) (hnd : (L.map fun d => d.blk).Nodup)
    (hij : i ≤ j) (hj : j ≤ L.length) (hlen : L.length ≤ 4194304) (hN : N.length ≤ 2)
    (hv : w.ownsRow 0 56 2 vv N.length (lcells N)) (hv0 : N.length = 0 → vv = .slice none 0 0) (hvf : ∀ k, vv.ownBlock = some k → lv.ownBlock ≠ some k)
    (hrow : ∀ d, d ∈ N → w.ownsRow 0 5 1 d.dv d.bs.length (bcells d.bs)) (hb : ∀ d, d ∈ N → d.blk ≠ b ∧ lv.ownBlock ≠ some d.blk) (hN2 : (N.map fun d => d.blk).Nodup) (hd : ∀ d, d ∈ N → ∀ e, e ∈ L.take i ++ L.drop j → e.blk ≠ d.blk) :
    Calls Try.prog 47 #[.pointer (some ⟨b, 0, none⟩), .int .i64 i, .int .i64 j, vv] w fun e w' => e = .returned (.tuple #[]) ∧ ∃ lv', Str w' b x0 x1 lv' (L.take i ++ N ++ L.drop j) ∧
      (lv'.ownBlock = lv.ownBlock ∨ ∃ k, lv'.ownBlock = some k ∧ w.heap.size ≤ k) ∧ Upd (fun k => k = b ∨ lv.ownBlock = some k) w w' := by
  have hmem : ∀ d, d ∈ L.take i ++ N ++ L.drop j → d ∈ L.take i ++ L.drop j ∨ d ∈ N := fun d hd => by
    simp only [List.mem_append] at hd ⊢
    rcases hd with (h | h) | h
    · exact .inl (.inl h)
    · exact .inr h
    · exact .inl (.inr h)
  have hdat : ∀ d, d ∈ L.take i ++ N ++ L.drop j → w.ownsRow 0 5 1 d.dv d.bs.length (bcells d.bs) := fun d hd => by
    rcases hmem d hd with h | h
    · exact hkd d h
    · exact hrow d h
  have hdne : ∀ d, d ∈ L.take i ++ N ++ L.drop j → d.blk ≠ b ∧ lv.ownBlock ≠ some d.blk := fun d hd => by
    rcases hmem d hd with h | h
    · exact hkb d h
    · exact hb d h
  have hnd2 : ((L.take i ++ N ++ L.drop j).map fun d => d.blk).Nodup := by
    have hp : ((L.take i ++ N ++ L.drop j).map fun d => d.blk).Perm (((L.take i ++ L.drop j).map fun d => d.blk) ++ N.map fun d => d.blk) := by
      simp only [List.map_append, List.append_assoc]
      exact List.Perm.append_left _ List.perm_append_comm
    rw [hp.nodup_iff, List.nodup_append]
    refine ⟨?_, hN2, ?_⟩
    · have hsl : (L.take i ++ L.drop j).Sublist L := by
        have h1 : (L.drop j).Sublist (L.drop i) := by rw [show j = i + (j - i) by omega, ← List.drop_drop]; exact List.drop_sublist _ _
        have h2 := List.Sublist.append (List.Sublist.refl (L.take i)) h1
        rwa [List.take_append_drop] at h2
      exact List.Nodup.sublist (hsl.map _) hnd
    · intro a ha c hc e
      obtain ⟨d1, hd1, rfl⟩ := List.mem_map.1 ha
      obtain ⟨d2, hd2, rfl⟩ := List.mem_map.1 hc
      exact hd d2 hd2 d1 hd1 e
  have hR : Calls Try.prog 56 #[lv, .int .i64 i, .int .i64 j, vv] w fun e w' => ∃ v', e = .returned v' ∧ w'.ownsRow 0 56 2 v' (L.take i ++ N ++ L.drop j).length (lcells (L.take i ++ N ++ L.drop j)) ∧ w.grownBy w' lv.ownBlock ∧ (v'.ownBlock = lv.ownBlock ∨ ∃ g, v'.ownBlock = some g ∧ w.heap.size ≤ g) := by
    have h := replace_any lv L.length i j N.length (lcells L) vv (lcells N) w hlr (lcells_one _) hij hj (by omega) (by omega) hv hv0 (fun k hk e => hvf k e hk) (lcells_one _)
    refine h.mono ?_
    rintro e w' ⟨v', rfl, ho, hgr, hw⟩
    refine ⟨v', rfl, ?_, hgr, hw⟩
    rw [lcells_take, lcells_drop, ← lcells_append, ← lcells_append] at ho
    rw [show (L.take i ++ N ++ L.drop j).length = i + N.length + (L.length - j) by simp; omega]
    exact ho
  refine (replaceM_of b i j x0 x1 lv vv L.length (lcells L) _ (lcells (L.take i ++ N ++ L.drop j)) w hobj hlne hlr (by simp; omega) (lcells_one _) hR).mono ?_
  rintro e w' ⟨rfl, lv', ho, hr, hw, hu⟩
  have hbl : b < w.heap.size := (Array.getElem?_eq_some_iff.1 hobj).1
  refine ⟨rfl, lv', ⟨ho, hr, fun d hd => hu.row (hdat d hd) (fun k hk => ?_), ?_, fun d hd => ⟨(hdne d hd).1, ?_⟩, hnd2⟩, hw, hu⟩
  · simp only [Piece.dv, Value.ownBlock, Option.some.injEq] at hk
    subst hk
    rintro (e1 | e1)
    · exact (hdne d hd).1 e1
    · exact (hdne d hd).2 e1
  · rcases hw with e1 | ⟨g, e1, hg⟩
    · rw [e1]; exact hlne
    · rw [e1]; intro e2; injection e2 with e2; omega
  · rcases hw with e1 | ⟨g, e1, hg⟩
    · rw [e1]; exact (hdne d hd).2
    · have := ((hdat d hd).lt d.blk rfl).2
      rw [e1]; intro e2; injection e2 with e2; omega

/-- append onto a row of bytes that is there (also of none). -/
theorem wpList_append_bytes (w : World) {ops : Array Oper} {rest : List Oper} {o : Oper} {a : Act} {Q : Exit → Act → World → Prop} (hgd : o.guard = none) (s x : Operand)
    (ho : o.op = .call { callee := .builtin .append, args := #[s, x], argTypes := #[22, 22] }) (g cap n : Nat) (P : List UInt8) (hs : a.eval s = .slice (some ⟨g, 0, none⟩) n cap) (hn : n = P.length) (hown : w.ownsRow 0 5 1 (.slice (some ⟨g, 0, none⟩) n cap) n (bcells P))
    (sa : Option Addr) (m c : Nat) (T : List UInt8) (hx : a.eval x = .slice sa m c) (hm : m = T.length) (hnews : 0 < m → ∃ ad, sa = some ad ∧ ∀ j u, (bcells T)[j]? = some u → w.cell? (ad.add j) = some u) (hsz : n + m ≤ 8589934592)
    (h : ∀ g' cap' w', w'.ownsRow 0 5 1 (.slice (some ⟨g', 0, none⟩) (n + m) cap') (n + m) (bcells (P ++ T)) → w.grownBy w' (some g) → (g' = g ∨ w.heap.size ≤ g') → wpList Try.prog ops Q rest (a.put o.dst (.slice (some ⟨g', 0, none⟩) (n + m) cap')) w') : wpList Try.prog ops Q (o :: rest) a w := by
  subst hm
  by_cases h0 : T.length = 0
  · obtain rfl : T = [] := List.eq_nil_of_length_eq_zero h0
    obtain ⟨i, hi, hz, hs5, hb⟩ := info_parts info5
    have hnc : n ≤ cap := by obtain ⟨_, _, e, h, -⟩ := row_form hown; simp only [Value.slice.injEq] at e; omega
    have hr : (Builtin.append_ #[22, 22] o.type #[.slice (some ⟨g, 0, none⟩) n cap, .slice sa 0 c]).run Try.prog w = .ok (.slice (some ⟨g, 0, none⟩) n cap) w := by
      cases sa <;> simp [Builtin.append_, run_underlying Try.underlying22, sizeOf, typeInfo, hi, Builtin.lenOf, Builtin.firstCells, hnc, storeCells, loadCells, loadCellsFrom]
    refine wpList_append_to w hgd s x 22 22 ho _ _ hs hx hr ?_
    have := h g cap w (by simpa using hown) (World.grownBy.refl _ _) (.inl rfl)
    simpa using this
  · obtain ⟨ad, rfl, hc⟩ := hnews (by omega)
    refine wpList_append_where w hgd s x 22 ho 5 (.int .u8 0) 1 1 Try.underlying22 info5 rfl (by decide) _ n (bcells P) hs hown ad T.length c (bcells T) hx (by simp) hc (bcells_one _) (by unfold maxLen; omega) (by omega) (by omega) ?_
    intro v' w' ho' hg hw
    rcases ho'.2 with ⟨-, hz⟩ | ⟨g', cap', cur, rfl, r⟩
    · omega
    · have e : bcells P ++ bcells T = bcells (P ++ T) := by simp [bcells]
      rw [e] at ho'
      refine h g' cap' w' ho' hg ?_
      rcases hw with ⟨e1, -⟩ | ⟨e1, -⟩
      · simp only [Value.ownBlock, Option.some.injEq] at e1; exact .inl e1
      · simp only [Value.ownBlock, Option.some.injEq] at e1; exact .inr (by omega)
end Go.Proofs.Ytkekaljcbmkomaa
