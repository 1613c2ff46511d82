/- Below: what it tells. -/
import Derived.Test.YtleenkdlnmoepaaOwnI
namespace Go.Proofs.Ytleenkdlnmoepaa
open Go.RowKit Go.MapLit Go.ChangeMaps

set_option maxRecDepth 20000 in
set_option maxHeartbeats 1000000 in
theorem below_no (b : Bok) (a : Int) (w : World) (h : Bk w b) (hw : (Lit.int .i64 a).wf = true) (hl : lk b.L a = none) : Calls Try.prog 13 #[pt b.p, .int .i64 a] w fun e w' => e = .returned (.slice none 0 0) ∧ Below w.heap.size w w' := by
  have c0 := h.c0
  have hk := (h.no hw hl).1
  clear h hl
  go_enter Try.func13, Try.ntmps13
  go_wp2
  go_ret
  exact ⟨rfl, below_al w _⟩

theorem ownI_push {w : World} {v : Value} {n : Nat} {l : List Int} {x : Int} (hn : n = l.length) (h : w.ownsRow 0 3 1 v (n + 1) (nums l ++ [.int .i64 x])) : OwnI w v (l ++ [x]) := by
  unfold OwnI
  rw [List.length_append, show nums (l ++ [x]) = nums l ++ [.int .i64 x] by simp [nums], ← hn]
  exact h
theorem wf_nat {n : Nat} (h : n ≤ 4096) : (Lit.int .i64 (n : Int)).wf = true := by
  have e1 : IntKind.i64.min = -9223372036854775808 := by decide
  have e2 : IntKind.i64.max = 9223372036854775807 := by decide
  simp [Lit.wf, e1, e2]; omega

set_option maxRecDepth 20000 in
set_option maxHeartbeats 2000000 in
theorem below_yes (b : Bok) (a : Int) (w : World) (h : Bk w b) (hw : (Lit.int .i64 a).wf = true) {g : Gr} (hl : lk b.L a = some g) :
    Calls Try.prog 13 #[pt b.p, .int .i64 a] w fun e w' => ∃ s n c, e = .returned (.slice s n c) ∧ OwnI w' (.slice s n c) (blw b.L g.id (b.made - 1 - g.id)) ∧ Below w.heap.size w w' ∧ ∀ k, (Value.slice s n c).ownBlock = some k → w.heap.size ≤ k := by
  obtain rfl : a = (g.id : Int) := lk_id hl
  have hgm := h.inv.lt g (lk_mem hl).1
  have hmo := h.inv.most
  have c0 := h.c0
  have hk := (h.yes hw hl).1
  obtain ⟨N, hN⟩ : ∃ N, N = b.made - 1 - g.id := ⟨_, rfl⟩
  have HN := aside hN
  have HB := aside h
  obtain ⟨W, hW⟩ : ∃ W, W = w.alloc (.cells #[.int .u8 (g.r : Int), .int .i64 (g.of : Int)] 63) := ⟨_, rfl⟩
  have HW : Aside (Below w.heap.size w W) := by rw [hW]; exact below_al w _
  rw [← hN]
  clear h hl hN
  go_enter Try.func13, Try.ntmps13
  go_wp2
  rw [← hW]
  clear hW
  go_loopg [7, 8] N (fun G s7 s8 wr => ∃ (k m : Nat) (sa : Option Addr) (n c : Nat), k + G = N ∧ s8 = .int .i64 (m : Int) ∧ m ≤ b.made ∧ s7 = .slice sa n c ∧ Aside (m = g.id + 1 + k) ∧ Aside (OwnI wr (.slice sa n c) (blw b.L g.id k)) ∧ Aside (Below w.heap.size w wr) ∧ Aside (∀ j, (Value.slice sa n c).ownBlock = some j → w.heap.size ≤ j))
  case atStart => exact ⟨0, g.id + 1, none, 0, 0, by omega, by go_num, by omega, rfl, aside rfl, aside (ownI_none _), HW, aside (by simp [Value.ownBlock])⟩
  case round =>
    obtain ⟨k, m, sa, n, c, hkG, rfl, hmm, rfl, hmk, hO, hB, hF⟩ := hrel
    have hBk := HB.out.below hB.out
    have d0 := hBk.c0
    have d1 := hBk.c1
    by_cases hlt : m < b.made
    · have hwm := wf_nat (n := m) (by omega)
      have hgk : 0 < gk := by have := HN.out; have := hmk.out; omega
      cases hl : lk b.L (m : Int) with
      | none =>
        have hk2 := (hBk.no hwm hl).1
        have HL : Aside (blw b.L g.id (k + 1) = blw b.L g.id k) := by
          rw [blw_succ, stp, under, ← hmk.out, hl]; rfl
        have HBk := aside hBk
        clear hBk hl
        go_wp2
        go_roundg (gk - 1)
        case measure => omega
        case rel => exact ⟨k + 1, m + 1, sa, n, c, by omega, by go_num, by omega, rfl, aside (by have := hmk.out; omega), aside (by rw [HL.out]; exact hO.out.below (below_al wr _)), aside (below_tr hB.out (below_al wr _)), hF⟩
      | some x =>
        have hk2 := (hBk.yes hwm hl).1
        have S := fun (V : World) (hV : Below wr.heap.size wr V) => seek_any sa (blw b.L g.id k) c (x.of : Int) V (by have := blw_len b.L g.id k; have := HN.out; omega) (hO.out.ns.below hV) (blw_sorted b.L g.id k)
        rw [← hO.out.len] at S
        have hnk : n ≤ 4096 := by have := hO.out.len; have := blw_len b.L g.id k; have := HN.out; omega
        obtain ⟨q, hq⟩ : ∃ q, q = (blw b.L g.id k).contains (x.of : Int) := ⟨_, rfl⟩
        rw [← hq] at S
        have HS := aside S
        have HQ : Aside (under b.L g.id (blw b.L g.id k) (g.id + 1 + k) = (q || x.of == g.id)) := by
          unfold under; rw [← hmk.out, hl]; show ((blw b.L g.id k).contains (x.of : Int) || x.of == g.id) = _; rw [← hq]
        have HBk := aside hBk
        clear hBk hl S hq
        by_cases hu : q = true ∨ x.of = g.id
        · have HL : Aside (blw b.L g.id (k + 1) = blw b.L g.id k ++ [(m : Int)]) := by
            rw [blw_succ, stp, HQ.out, if_pos (by simpa using hu), hmk.out]; exact rfl
          obtain ⟨V, hV⟩ : ∃ V, V = (wr.alloc (.cells #[.int .u8 (x.r : Int), .int .i64 (x.of : Int)] 63)).alloc (.cells #[.int .i64 (m : Int)] 3) := ⟨_, rfl⟩
          have HV : Aside (Below wr.heap.size wr V) := by rw [hV]; exact below_tr (below_al wr _) (below_al _ _)
          have HVn : Aside (V.heap[wr.heap.size + 1]? = some (.cells [Value.int .i64 (m : Int)].toArray 3 (0, 0))) := by rw [hV]; exact heap_alloc2_new wr _ _
          have HVo := aside (hO.out.below HV.out)
          unfold OwnI at HVo
          rw [← hO.out.len] at HVo
          cases q with
          | true =>
            clear hu
            go_wp2_with (first | (go_at_call 30; with_reducible refine (HS.out _ (below_al wr _)).mono ?_; rintro e w2 ⟨kk, rfl, rfl⟩) | (at_builtin; rw [← hV]; refine wpList_push rfl _ _ 33 rfl 3 (.int .i64 0) 1 8 Try.underlying33 info3 rfl (by decide) (.slice sa n c) n (n + 1) _ rfl HVo.out (wr.heap.size + 1) [.int .i64 (m : Int)] rfl rfl (0, 0) HVn.out (one_i _) (by omega) (by decide) rfl ?_; intro a' c' w3 h1 h2 h3; have HO3 := aside h1; have HU3 := aside h2; have HF3 := aside h3; clear h1 h2 h3))
            go_roundg (gk - 1)
            case measure => omega
            case rel =>
              refine ⟨k + 1, m + 1, a', n + 1, c', by omega, by go_num, by omega, rfl, aside (by have := hmk.out; omega), aside (by rw [HL.out]; exact ownI_push hO.out.len HO3.out), aside ?_, aside (fun j hj => ?_)⟩
              · exact (below_tr hB.out HV.out).trans (HU3.out.below (below_tr hB.out HV.out).size (fun j hj => hF.out j hj))
              · rcases HF3.out with e | e
                · exact hF.out j (by rw [← e]; exact hj)
                · rw [hj] at e; simp only [Option.some.injEq] at e; rw [e]; exact (below_tr hB.out HV.out).size
          | false =>
            have hx1 : ((x.of : Int) == (g.id : Int)) = true := by
              rcases hu with hu | hu
              · cases hu
              · rw [hu]; simp
            clear hu
            go_wp2_with (first | (go_at_call 30; with_reducible refine (HS.out _ (below_al wr _)).mono ?_; rintro e w2 ⟨kk, rfl, rfl⟩) | (at_builtin; rw [← hV]; refine wpList_push rfl _ _ 33 rfl 3 (.int .i64 0) 1 8 Try.underlying33 info3 rfl (by decide) (.slice sa n c) n (n + 1) _ rfl HVo.out (wr.heap.size + 1) [.int .i64 (m : Int)] rfl rfl (0, 0) HVn.out (one_i _) (by omega) (by decide) rfl ?_; intro a' c' w3 h1 h2 h3; have HO3 := aside h1; have HU3 := aside h2; have HF3 := aside h3; clear h1 h2 h3))
            go_roundg (gk - 1)
            case measure => omega
            case rel =>
              refine ⟨k + 1, m + 1, a', n + 1, c', by omega, by go_num, by omega, rfl, aside (by have := hmk.out; omega), aside (by rw [HL.out]; exact ownI_push hO.out.len HO3.out), aside ?_, aside (fun j hj => ?_)⟩
              · exact (below_tr hB.out HV.out).trans (HU3.out.below (below_tr hB.out HV.out).size (fun j hj => hF.out j hj))
              · rcases HF3.out with e | e
                · exact hF.out j (by rw [← e]; exact hj)
                · rw [hj] at e; simp only [Option.some.injEq] at e; rw [e]; exact (below_tr hB.out HV.out).size
        · have HL : Aside (blw b.L g.id (k + 1) = blw b.L g.id k) := by
            rw [blw_succ, stp, HQ.out, if_neg (by simpa using hu)]; exact rfl
          have hq0 : q = false := by
            cases hq : q with
            | false => rfl
            | true => exact absurd (.inl hq) hu
          have hx0 : ¬ ((x.of : Int) = (g.id : Int)) := fun e => hu (.inr (by omega))
          subst hq0
          clear hu
          go_wp2_with (go_at_call 30; with_reducible refine (HS.out _ (below_al wr _)).mono ?_; rintro e w2 ⟨kk, rfl, rfl⟩)
          go_roundg (gk - 1)
          case measure => omega
          case rel => exact ⟨k + 1, m + 1, sa, n, c, by omega, by go_num, by omega, rfl, aside (by have := hmk.out; omega), aside (by rw [HL.out]; exact hO.out.below (below_al wr _)), aside (below_tr hB.out (below_al wr _)), hF⟩
    · have hmN : k = N := by have := HN.out; have := hmk.out; omega
      have HK := aside hmN
      clear hBk hmN
      go_wp2
      go_ret
      rw [← HK.out]
      exact ⟨sa, n, c, rfl, hO.out, hB.out, hF.out⟩

theorem below_any (b : Bok) (a : Int) (w : World) (h : Bk w b) (hw : (Lit.int .i64 a).wf = true) :
    Calls Try.prog 13 #[pt b.p, .int .i64 a] w fun e w' => ∃ s n c, e = .returned (.slice s n c) ∧ OwnI w' (.slice s n c) (belowL b.L b.made a) ∧ Below w.heap.size w w' ∧ ∀ k, (Value.slice s n c).ownBlock = some k → w.heap.size ≤ k := by
  unfold belowL
  cases hl : lk b.L a with
  | none =>
    refine (below_no b a w h hw hl).mono ?_
    rintro e w' ⟨rfl, hb⟩
    exact ⟨none, 0, 0, rfl, ownI_none _, hb, by simp [Value.ownBlock]⟩
  | some g => exact below_yes b a w h hw hl
end Go.Proofs.Ytleenkdlnmoepaa
