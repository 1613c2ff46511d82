/- The document's own taken and lay. -/
import Derived.Test.YtkekaljcbmkomaaRefA
import Derived.Test.YtkekaljcbmkomaaContent
namespace Go.Proofs.Ytkekaljcbmkomaa
open Go.RowKit

theorem len_room (T : List RP) (q : RP) (h : T.length ≤ 8388608) : (T ++ [q]).length + 1 ≤ maxLen ∧ ((T ++ [q]).length + 1) * 32 ≤ 140737488355328 := by
  simp only [List.length_append, List.length_cons, List.length_nil]
  exact ⟨by unfold maxLen; omega, by omega⟩

set_option maxHeartbeats 4000000 in
theorem takenRef_walk (b N : Nat) (a : Option Addr) (c : Nat) (R : List RP) (x y : Nat) (w : World) (hR : RefAt w b N a c R) (hxb : x ≤ 1073741824) (hyb : y ≤ 1073741824) (hn : R.length ≤ 4194304) :
    Calls Try.prog 42 #[.pointer (some ⟨b, 0, none⟩), .int .i64 x, .int .i64 y] w fun e w' => ∃ v, e = .returned v ∧ w'.ownsRow w.heap.size 59 2 v (takenR x y R).length (rcells (takenR x y R)) ∧ Below w.heap.size w w' := by
  have HR := aside hR
  clear hR
  obtain ⟨i, hi, hz, hs, hb⟩ := info_parts info59
  have Hi := aside hi
  have Hz := aside hz
  have Hs := aside hs
  have Hb := aside hb
  clear hi hz hs hb
  go_enter Try.func42, Try.ntmps42
  go_wp2
  go_loopw [7, 8] (fun s7 s8 wr => ∃ k : Nat, k ≤ R.length ∧ s8 = .int .i64 k ∧ Aside (wr.ownsRow w.heap.size 59 2 s7 (takenR x y (R.take k)).length (rcells (takenR x y (R.take k)))) ∧ Aside (Below w.heap.size w wr)) (fun _ s8 _ => R.length - (intOf s8).toNat)
  case atStart => exact ⟨0, Nat.zero_le _, rfl, World.ownsRow_nil _ _ _ _, Below.refl _ _⟩
  case round =>
    obtain ⟨k, hk, rfl, hO, hB⟩ := hrel
    have HRr := aside (HR.out.below hB.out)
    have c0 := HRr.out.list
    by_cases h1 : k < R.length
    · have t1 : (k : Int) < (R.length : Int) := by omega
      have hkm : R[k]? = some R[k] := List.getElem?_eq_getElem h1
      have hb := HR.out.ps.le R[k] (List.getElem_mem h1)
      have hcp := HR.out.ps.cp R[k] (List.getElem_mem h1)
      obtain ⟨blk, off, rfl, hrd⟩ := HRr.out.ps.rd (by intro h; simp [h] at h1)
      obtain ⟨r0, r1⟩ := hrd k _ hkm
      clear hrd
      have TK := aside (takenR_take (x := x) (y := y) hkm)
      have TL := aside (takenR_len x y (R.take k))
      clear hkm
      generalize R[k] = r at *
      have EN := aside (fun W => end_any r.at_ r.bs.length (some ⟨r.blk, r.off, none⟩) r.c W (by omega))
      go_wp2_with fail
      refine (EN.out _).mono ?_
      rintro e w1 ⟨rfl, hb1⟩
      have al := below_al wr (.cells #[.int .i64 r.at_, .slice (some ⟨r.blk, r.off, none⟩) r.bs.length r.c] 59)
      have hw1 := below_tr al hb1
      have B1 := aside (hB.out.trans (hw1.mono hB.out.size))
      have O1 := aside (row_below hO.out hw1)
      have bx : w1.heap[wr.heap.size]? = some (.cells #[.int .i64 r.at_, .slice (some ⟨r.blk, r.off, none⟩) r.bs.length r.c] 59 (0, 0)) := (hb1.block _ (by simp)).trans (heap_alloc_new wr _)
      have p0 : w1.cell? ⟨wr.heap.size, 0, none⟩ = some (.int .i64 r.at_) := by rw [cell_of_row _ _ 0 _ _ _ bx]; rfl
      have p1 : w1.cell? ⟨wr.heap.size, 1, none⟩ = some (.slice (some ⟨r.blk, r.off, none⟩) r.bs.length r.c) := by rw [cell_of_row _ _ 1 _ _ _ bx]; rfl
      have hlen := TL.out
      rw [List.length_take] at hlen
      generalize htl : takenR x y (R.take k) = T at *
      have h63 : T.length + 1 ≤ maxLen := by unfold maxLen; omega
      have hby : (T.length + 1) * 32 ≤ 140737488355328 := by omega
      have H63 := aside h63
      have H64 := aside (show T.length ≤ 8388608 by omega)
      clear al hb1 hw1 bx h63 htl TL hlen c0 r0 r1
      by_cases h2 : r.at_ + r.bs.length ≤ x
      · have t2 : ((r.at_ + r.bs.length : Nat) : Int) ≤ (x : Int) := by omega
        have t3 : decide (((r.at_ + r.bs.length : Nat) : Int) ≤ (x : Int)) = true := by simp; omega
        have TE := aside (show takenR x y (R.take (k + 1)) = T ++ [r] by rw [TK.out]; unfold cutR; rw [if_pos (.inl h2)])
        obtain ⟨A1, A2, A3, A4⟩ := app_facts O1.out B1.out (r)
        have A1 := aside A1
        have A2 := aside A2
        have A3 := aside A3
        have A4 := aside A4
        clear TK
        go_wp2_with (at_builtin; refine wpList_append_own _ rfl _ _ 51 rfl w.heap.size 59 i (.agg #[.int .i64 0, .slice none 0 0]) 2 32 Try.underlying51 Hi.out Hz.out Hs.out Hb.out rfl (by decide) u7 T.length (rcells T) rfl A1.out ⟨w1.heap.size, 0, none⟩ 1 1 (rcells [r]) rfl rfl A2.out (rcells_one _) H63.out hby A3.out ?_; intro v' w2 ho2 hg2 hv2; have RD := aside (A4.out v' w2 ho2 hg2); clear ho2 hg2 hv2)
        go_roundw
        case rel => exact ⟨k + 1, by omega, by go_num, by rw [TE.out]; exact RD.out.1.1, RD.out.1.2⟩
        case measure => simp [intOf]; omega
      · have t2 : decide (((r.at_ + r.bs.length : Nat) : Int) ≤ (x : Int)) = false := by simp; omega
        by_cases h3 : y ≤ r.at_
        · have t4 : (y : Int) ≤ (r.at_ : Int) := by omega
          have t3 : decide ((y : Int) ≤ (r.at_ : Int)) = true := by simp; omega
          have TE := aside (show takenR x y (R.take (k + 1)) = T ++ [r] by rw [TK.out]; unfold cutR; rw [if_pos (.inr h3)])
          obtain ⟨A1, A2, A3, A4⟩ := app_facts O1.out B1.out (r)
          have A1 := aside A1
          have A2 := aside A2
          have A3 := aside A3
          have A4 := aside A4
          clear TK
          go_wp2_with (at_builtin; refine wpList_append_own _ rfl _ _ 51 rfl w.heap.size 59 i (.agg #[.int .i64 0, .slice none 0 0]) 2 32 Try.underlying51 Hi.out Hz.out Hs.out Hb.out rfl (by decide) u7 T.length (rcells T) rfl A1.out ⟨w1.heap.size, 0, none⟩ 1 1 (rcells [r]) rfl rfl A2.out (rcells_one _) H63.out hby A3.out ?_; intro v' w2 ho2 hg2 hv2; have RD := aside (A4.out v' w2 ho2 hg2); clear ho2 hg2 hv2)
          go_roundw
          case rel => exact ⟨k + 1, by omega, by go_num, by rw [TE.out]; exact RD.out.1.1, RD.out.1.2⟩
          case measure => simp [intOf]; omega
        · have t3 : decide ((y : Int) ≤ (r.at_ : Int)) = false := by simp; omega
          have t4 : ¬ ((y : Int) ≤ (r.at_ : Int)) := by omega
          have TE := aside (show takenR x y (R.take (k + 1)) = T ++ ((if r.at_ < x then [⟨r.at_, r.blk, r.off, r.c, r.bs.take (x - r.at_)⟩] else []) ++ (if y < r.at_ + r.bs.length then [⟨y, r.blk, r.off + (y - r.at_), r.c - (y - r.at_), r.bs.drop (y - r.at_)⟩] else [])) by rw [TK.out]; unfold cutR; rw [if_neg (by omega)])
          have NB := aside (fun g (hg : u7.ownBlock = some g) => (hO.out.lt g hg).2)
          clear TK
          by_cases h4 : r.at_ < x
          · have t5 : (r.at_ : Int) < (x : Int) := by omega
            obtain ⟨z1, hz1⟩ : ∃ z1 : Nat, (x : Int) - (r.at_ : Int) = (z1 : Int) := ⟨x - r.at_, by omega⟩
            have hq1 : x - r.at_ = z1 := by omega
            have hzl : z1 ≤ r.bs.length := by omega
            have hwz : IntKind.i64.wrap (z1 : Int) = (z1 : Int) := by rw [IntKind.wrap_i64]; omega
            have hzc : (z1 : Int) ≤ (r.c : Int) := by omega
            have hzd : z1 ≤ r.c := by omega
            rw [if_pos h4, hq1] at TE
            obtain ⟨A1, A2, A3, A4⟩ := app_facts (row_below O1.out (below_dr w1)) (B1.out.trans ((below_dr w1).mono B1.out.size)) ⟨r.at_, r.blk, r.off, r.c, r.bs.take z1⟩
            simp only [List.length_take, Nat.min_eq_left hzl] at A1 A2 A3 A4
            have A1 := aside A1
            have A2 := aside A2
            have A3 := aside A3
            have A4 := aside A4
            have NE : Aside (some wr.heap.size ≠ u7.ownBlock) := fun h => by have := NB.out _ h.symm; omega
            have h63 := (len_room T (⟨r.at_, r.blk, r.off, r.c, r.bs.take z1⟩ : RP) H64.out).1
            have hby2 := (len_room T (⟨r.at_, r.blk, r.off, r.c, r.bs.take z1⟩ : RP) H64.out).2
            have H632 := aside h63
            have HBY2 := aside hby2
            clear hq1 h63 hby2 HRr
            go_upto_region 9 with fail
            go_cut [7] (fun s7 wc => Aside (wc.ownsRow w.heap.size 59 2 s7 (T ++ [(⟨r.at_, r.blk, r.off, r.c, r.bs.take z1⟩ : RP)]).length (rcells (T ++ [(⟨r.at_, r.blk, r.off, r.c, r.bs.take z1⟩ : RP)])) ∧ Below w.heap.size w wc) ∧ wc.cell? ⟨wr.heap.size, 0, none⟩ = some (.int .i64 r.at_) ∧ wc.cell? ⟨wr.heap.size, 1, none⟩ = some (.slice (some ⟨r.blk, r.off, none⟩) r.bs.length r.c))
            case first =>
              have P0 := aside p0
              have P1 := aside p1
              go_region_law (refine step_append_own rfl _ _ 51 rfl w.heap.size 59 i (.agg #[.int .i64 0, .slice none 0 0]) 2 32 Try.underlying51 Hi.out Hz.out Hs.out Hb.out rfl (by decide) u7 T.length (rcells T) rfl A1.out ⟨w1.heap.size, 0, none⟩ 1 1 (rcells [⟨r.at_, r.blk, r.off, r.c, r.bs.take z1⟩]) rfl rfl A2.out (rcells_one _) H63.out hby A3.out ?_; intro v' w2 ho2 hg2 hv2; have RD := aside (A4.out v' w2 ho2 hg2); clear ho2 hg2 hv2)
              all_goals go_wp2_with fail
              all_goals go_meet
              all_goals exact ⟨RD.out.1, RD.out.2 _ _ P0.out NE.out, RD.out.2 _ _ P1.out NE.out⟩
            case rest =>
              obtain ⟨hrow, p0, p1⟩ := hcut
              by_cases h5 : y < r.at_ + r.bs.length
              · have t6 : (y : Int) < ((r.at_ + r.bs.length : Nat) : Int) := by omega
                rw [if_pos h5] at TE
                have hby3 := HBY2.out
                go_wp2_with fail
                refine (EN.out _).mono ?_
                rintro e w2 ⟨rfl, hb2⟩
                have B2 := aside (hrow.out.2.trans (hb2.mono hrow.out.2.size))
                have O2 := aside (row_below hrow.out.1 hb2)
                have s0 : w2.cell? ⟨wr.heap.size, 0, none⟩ = some (.int .i64 r.at_) := (hb2.cell (World.block_lt_of_cell? wc _ p0)).trans p0
                have s1 : w2.cell? ⟨wr.heap.size, 1, none⟩ = some (.slice (some ⟨r.blk, r.off, none⟩) r.bs.length r.c) := (hb2.cell (World.block_lt_of_cell? wc _ p1)).trans p1
                obtain ⟨z, hz⟩ : ∃ z : Nat, (y : Int) - (r.at_ : Int) = (z : Int) := ⟨y - r.at_, by omega⟩
                have hq : y - r.at_ = z := by omega
                rw [hq] at TE
                obtain ⟨A1, A2, A3, A4⟩ := app_facts O2.out B2.out ⟨y, r.blk, r.off + z, r.c - z, r.bs.drop z⟩
                simp only [List.length_drop] at A1 A2 A3 A4
                have A1 := aside A1
                have A2 := aside A2
                have A3 := aside A3
                have A4 := aside A4
                clear hb2 p0 p1 hq
                go_wp2_with (at_builtin; refine wpList_append_own _ rfl _ _ 51 rfl w.heap.size 59 i (.agg #[.int .i64 0, .slice none 0 0]) 2 32 Try.underlying51 Hi.out Hz.out Hs.out Hb.out rfl (by decide) u7 (T ++ [(⟨r.at_, r.blk, r.off, r.c, r.bs.take z1⟩ : RP)]).length (rcells (T ++ [(⟨r.at_, r.blk, r.off, r.c, r.bs.take z1⟩ : RP)])) rfl A1.out ⟨w2.heap.size, 0, none⟩ 1 1 (rcells [⟨y, r.blk, r.off + z, r.c - z, r.bs.drop z⟩]) rfl rfl A2.out (rcells_one _) H632.out hby3 A3.out ?_; intro v' w3 ho2 hg2 hv2; have RD := aside (A4.out v' w3 ho2 hg2); clear ho2 hg2 hv2)
                go_roundw
                case rel => exact ⟨k + 1, by omega, by go_num, by rw [TE.out, ← List.append_assoc]; exact RD.out.1.1, RD.out.1.2⟩
                case measure => simp [intOf]; omega
              · have t6 : ¬ ((y : Int) < ((r.at_ + r.bs.length : Nat) : Int)) := by omega
                rw [if_neg h5, List.append_nil] at TE
                go_wp2_with fail
                refine (EN.out _).mono ?_
                rintro e w2 ⟨rfl, hb2⟩
                have B2 := aside (hrow.out.2.trans (hb2.mono hrow.out.2.size))
                have O2 := aside (row_below hrow.out.1 hb2)
                clear hb2
                go_wp2
                go_roundw
                case rel => exact ⟨k + 1, by omega, by go_num, by rw [TE.out]; exact O2.out, B2⟩
                case measure => simp [intOf]; omega
          · have t5 : ¬ ((r.at_ : Int) < (x : Int)) := by omega
            rw [if_neg h4, List.nil_append] at TE
            by_cases h5 : y < r.at_ + r.bs.length
            · have t6 : (y : Int) < ((r.at_ + r.bs.length : Nat) : Int) := by omega
              rw [if_pos h5] at TE
              go_wp2_with fail
              refine (EN.out _).mono ?_
              rintro e w2 ⟨rfl, hb2⟩
              have B2 := aside (B1.out.trans (hb2.mono B1.out.size))
              have O2 := aside (row_below O1.out hb2)
              have s0 : w2.cell? ⟨wr.heap.size, 0, none⟩ = some (.int .i64 r.at_) := (hb2.cell (World.block_lt_of_cell? w1 _ p0)).trans p0
              have s1 : w2.cell? ⟨wr.heap.size, 1, none⟩ = some (.slice (some ⟨r.blk, r.off, none⟩) r.bs.length r.c) := (hb2.cell (World.block_lt_of_cell? w1 _ p1)).trans p1
              obtain ⟨z, hz⟩ : ∃ z : Nat, (y : Int) - (r.at_ : Int) = (z : Int) := ⟨y - r.at_, by omega⟩
              have hq : y - r.at_ = z := by omega
              rw [hq] at TE
              obtain ⟨A1, A2, A3, A4⟩ := app_facts O2.out B2.out ⟨y, r.blk, r.off + z, r.c - z, r.bs.drop z⟩
              simp only [List.length_drop] at A1 A2 A3 A4
              have A1 := aside A1
              have A2 := aside A2
              have A3 := aside A3
              have A4 := aside A4
              clear hb2 p0 p1 hq
              go_wp2_with (at_builtin; refine wpList_append_own _ rfl _ _ 51 rfl w.heap.size 59 i (.agg #[.int .i64 0, .slice none 0 0]) 2 32 Try.underlying51 Hi.out Hz.out Hs.out Hb.out rfl (by decide) u7 T.length (rcells T) rfl A1.out ⟨w2.heap.size, 0, none⟩ 1 1 (rcells [⟨y, r.blk, r.off + z, r.c - z, r.bs.drop z⟩]) rfl rfl A2.out (rcells_one _) H63.out hby A3.out ?_; intro v' w3 ho2 hg2 hv2; have RD := aside (A4.out v' w3 ho2 hg2); clear ho2 hg2 hv2)
              go_roundw
              case rel => exact ⟨k + 1, by omega, by go_num, by rw [TE.out]; exact RD.out.1.1, RD.out.1.2⟩
              case measure => simp [intOf]; omega
            · have t6 : ¬ ((y : Int) < ((r.at_ + r.bs.length : Nat) : Int)) := by omega
              rw [if_neg h5, List.append_nil] at TE
              go_wp2_with fail
              refine (EN.out _).mono ?_
              rintro e w2 ⟨rfl, hb2⟩
              have B2 := aside (B1.out.trans (hb2.mono B1.out.size))
              have O2 := aside (row_below O1.out hb2)
              clear hb2
              go_wp2
              go_roundw
              case rel => exact ⟨k + 1, by omega, by go_num, by rw [TE.out]; exact O2.out, B2⟩
              case measure => simp [intOf]; omega
    · obtain rfl : k = R.length := by omega
      have t1 : ¬ ((R.length : Int) < (R.length : Int)) := by omega
      rw [List.take_length] at hO
      go_wp2
      go_ret
      exact ⟨_, rfl, hO.out, hB.out⟩
end Go.Proofs.Ytkekaljcbmkomaa

namespace Go.Proofs.Ytkekaljcbmkomaa
open Go.RowKit
attribute [local simp] lcells_nil readB_length bcells_length

theorem run_append_zero {P : Program} (w : World) (t ty e : TypeId) (i : TypeInfo) (ht : P.underlying t = some (.slice e)) (hi : P.info? e = some i) (ba : Option Addr) (n cap : Nat) (hn : n ≤ cap) (xa : Option Addr) (c : Nat) :
    (Builtin.append_ #[t, t] ty #[.slice ba n cap, .slice xa 0 c]).run P w = .ok (.slice ba n cap) w := by
  cases xa <;> cases ba <;> simp [Builtin.append_, run_underlying ht, sizeOf, typeInfo, hi, Builtin.lenOf, hn, Builtin.firstCells, loadCells, loadCellsFrom, storeCells]

theorem own_slice {w : World} {base : Nat} {e : TypeId} {size : Nat} {v : Value} {n : Nat} {xs : List Value} (h : w.ownsRow base e size v n xs) : ∃ a cap, v = .slice a n cap ∧ n ≤ cap := by
  rcases h.2 with ⟨rfl, rfl⟩ | ⟨g, cap, cur, rfl, -, -, hnc, -⟩
  · exact ⟨none, 0, rfl, Nat.le_refl _⟩
  · exact ⟨_, cap, rfl, hnc⟩

/-- A source: nothing, or cells that can be read. -/
def SrcAt (w : World) (x : Value) (m : Nat) (news : List Value) : Prop := ∃ xa c, x = .slice xa m c ∧ (0 < m → ∃ ad, xa = some ad ∧ ∀ j u, news[j]? = some u → w.cell? (ad.add j) = some u)

theorem wpList_append_any {P : Program} (w : World) {ops : Array Oper} {rest : List Oper} {o : Oper} {a : Act} {Q : Exit → Act → World → Prop} (hgd : o.guard = none) (s x : Operand) (t : TypeId)
    (ho : o.op = .call { callee := .builtin .append, args := #[s, x], argTypes := #[t, t] }) (e : TypeId) (z : Value) (size bytes : Nat) (ht : P.underlying t = some (.slice e)) (hinfo : (P.info? e).map (fun i => (i.zero, i.size, i.bytes)) = some (some z, size, bytes))
    (hzs : z.cells.size = size) (hsz : 0 < size) (v : Value) (n : Nat) (xs : List Value) (hs : a.eval s = v) (hown : w.ownsRow 0 e size v n xs)
    (xv : Value) (m : Nat) (news : List Value) (hx : a.eval x = xv) (hl : news.length = m * size) (hnews : SrcAt w xv m news) (h1 : ∀ u ∈ news, u.oneCell' = true)
    (h63 : n + m ≤ maxLen) (hbytes : (n + m) * bytes ≤ 140737488355328)
    (h : ∀ v' w', w'.ownsRow 0 e size v' (n + m) (xs ++ news) → Upd (fun k => v.ownBlock = some k) w w' → (v'.ownBlock = v.ownBlock ∨ v'.ownBlock = some w.heap.size) → wpList P ops Q rest (a.put o.dst v') w') : wpList P ops Q (o :: rest) a w := by
  obtain ⟨xa, c, rfl, hsrc⟩ := hnews
  rcases Nat.eq_zero_or_pos m with rfl | hm
  · obtain rfl : news = [] := List.eq_nil_of_length_eq_zero (by rw [hl]; omega)
    obtain ⟨i, hi, -⟩ := info_parts hinfo
    obtain ⟨ba, cap, rfl, hnc⟩ := own_slice hown
    refine wpList_plain hgd fun K hK => ?_
    unfold Oper.wp execOp
    simp only [ho, resolve, invoke, builtin, Sem.run_bind, Sem.run_pure, Result.andThen_ok, List.map_toArray, List.map_cons, List.map_nil, hs, hx, run_append_zero w t o.type e i ht hi ba n cap hnc xa c]
    exact hK _ _ (h _ w (by simpa using hown) (Upd.refl _ _) (.inl rfl))
  · obtain ⟨ad, rfl, hc⟩ := hsrc hm
    refine wpList_append_where w hgd s x t ho e z size bytes ht hinfo hzs hsz v n xs hs hown ad m c news hx hl hc h1 h63 hbytes hm (fun v' w' g1 g2 g3 => h v' w' g1 (Upd.of_grown g2 fun k hk => hk) ?_)
    rcases g3 with ⟨g3, -⟩ | ⟨g3, -⟩
    · exact .inl g3
    · exact .inr g3

/-- Two rows and a row of bytes named by a variable, each in a block of its own. -/
structure Lays (W : World) (base ob : Nat) (v8 v9 vB : Value) (oat : Nat) (A C : List RP) (oL : List UInt8) : Prop where
  r8 : W.ownsRow 0 59 2 v8 A.length (rcells A)
  r9 : W.ownsRow 0 59 2 v9 C.length (rcells C)
  rB : W.ownsRow 0 5 1 vB oL.length (bcells oL)
  ow : W.heap[ob]? = some (.cells #[.int .i64 oat, vB] 59 (0, 0))
  g8 : ∀ k, v8.ownBlock = some k → base ≤ k ∧ k ≠ ob ∧ v9.ownBlock ≠ some k ∧ vB.ownBlock ≠ some k
  g9 : ∀ k, v9.ownBlock = some k → base ≤ k ∧ k ≠ ob ∧ vB.ownBlock ≠ some k
  gB : ∀ k, vB.ownBlock = some k → base ≤ k ∧ k ≠ ob

theorem Lays.below {W W' : World} {base ob oat : Nat} {v8 v9 vB : Value} {A C : List RP} {oL : List UInt8} (h : Lays W base ob v8 v9 vB oat A C oL) (hb : Below W.heap.size W W') : Lays W' base ob v8 v9 vB oat A C oL :=
  ⟨row_below h.r8 hb, row_below h.r9 hb, row_below h.rB hb, (hb.block _ (Array.getElem?_eq_some_iff.1 h.ow).1).trans h.ow, h.g8, h.g9, h.gB⟩

theorem own_lt {w : World} {e : TypeId} {size : Nat} {v : Value} {n : Nat} {xs : List Value} (h : w.ownsRow 0 e size v n xs) {k : Nat} (hk : v.ownBlock = some k) : k < w.heap.size := (h.lt k hk).2

theorem Lays.app8 {W W' : World} {base ob oat : Nat} {v8 v9 vB v' : Value} {A C A' : List RP} {oL : List UInt8} (h : Lays W base ob v8 v9 vB oat A C oL) (hw : base ≤ W.heap.size) (hr : W'.ownsRow 0 59 2 v' A'.length (rcells A')) (hu : Upd (fun k => v8.ownBlock = some k) W W') (hv : v'.ownBlock = v8.ownBlock ∨ v'.ownBlock = some W.heap.size) : Lays W' base ob v' v9 vB oat A' C oL := by
  have hob := (Array.getElem?_eq_some_iff.1 h.ow).1
  refine ⟨hr, hu.row h.r9 (fun k hk hk2 => (h.g8 k hk2).2.2.1 hk), hu.row h.rB (fun k hk hk2 => (h.g8 k hk2).2.2.2 hk), (hu.block _ hob (fun hk => (h.g8 ob hk).2.1 rfl)).trans h.ow, fun k hk => ?_, h.g9, h.gB⟩
  rcases hv with hv | hv
  · rw [hv] at hk; exact h.g8 k hk
  · rw [hv] at hk
    obtain rfl : W.heap.size = k := by simpa using hk
    exact ⟨hw, by omega, fun e => absurd (own_lt h.r9 e) (by omega), fun e => absurd (own_lt h.rB e) (by omega)⟩
theorem Lays.app9 {W W' : World} {base ob oat : Nat} {v8 v9 vB v' : Value} {A C C' : List RP} {oL : List UInt8} (h : Lays W base ob v8 v9 vB oat A C oL) (hw : base ≤ W.heap.size) (hr : W'.ownsRow 0 59 2 v' C'.length (rcells C')) (hu : Upd (fun k => v9.ownBlock = some k) W W') (hv : v'.ownBlock = v9.ownBlock ∨ v'.ownBlock = some W.heap.size) : Lays W' base ob v8 v' vB oat A C' oL := by
  have hob := (Array.getElem?_eq_some_iff.1 h.ow).1
  refine ⟨hu.row h.r8 (fun k hk hk2 => (h.g8 k hk).2.2.1 hk2), hr, hu.row h.rB (fun k hk hk2 => (h.g9 k hk2).2.2 hk), (hu.block _ hob (fun hk => (h.g9 ob hk).2.1 rfl)).trans h.ow, fun k hk => ?_, fun k hk => ?_, h.gB⟩
  · refine ⟨(h.g8 k hk).1, (h.g8 k hk).2.1, fun e => ?_, (h.g8 k hk).2.2.2⟩
    rcases hv with hv | hv
    · rw [hv] at e; exact (h.g8 k hk).2.2.1 e
    · rw [hv] at e
      obtain rfl : W.heap.size = k := by simpa using e
      exact absurd (own_lt h.r8 hk) (by omega)
  · rcases hv with hv | hv
    · rw [hv] at hk; exact h.g9 k hk
    · rw [hv] at hk
      obtain rfl : W.heap.size = k := by simpa using hk
      exact ⟨hw, by omega, fun e => absurd (own_lt h.rB e) (by omega)⟩
/-- The bytes grow, and the variable is set anew. -/
theorem Lays.appB {W W' : World} {base ob oat : Nat} {v8 v9 vB v' : Value} {A C : List RP} {oL oL' : List UInt8} (h : Lays W base ob v8 v9 vB oat A C oL) (hw : base ≤ W.heap.size) (hr : W'.ownsRow 0 5 1 v' oL'.length (bcells oL')) (hu : Upd (fun k => vB.ownBlock = some k) W W') (hv : v'.ownBlock = vB.ownBlock ∨ v'.ownBlock = some W.heap.size) :
    W'.heap[ob]? = some (.cells #[.int .i64 oat, vB] 59 (0, 0)) ∧ Lays (W'.setCell ⟨ob, 1, none⟩ v') base ob v8 v9 v' oat A C oL' := by
  have hob := (Array.getElem?_eq_some_iff.1 h.ow).1
  have ho := (hu.block _ hob (fun hk => (h.gB ob hk).2 rfl)).trans h.ow
  have hg : ∀ k, v'.ownBlock = some k → base ≤ k ∧ k ≠ ob ∧ v8.ownBlock ≠ some k ∧ v9.ownBlock ≠ some k := fun k hk => by
    rcases hv with hv | hv
    · rw [hv] at hk; exact ⟨(h.gB k hk).1, (h.gB k hk).2, fun e => (h.g8 k e).2.2.2 hk, fun e => (h.g9 k e).2.2 hk⟩
    · rw [hv] at hk
      obtain rfl : W.heap.size = k := by simpa using hk
      exact ⟨hw, by omega, fun e => absurd (own_lt h.r8 e) (by omega), fun e => absurd (own_lt h.r9 e) (by omega)⟩
  have u2 : Upd (fun k => k = ob) W' (W'.setCell ⟨ob, 1, none⟩ v') := Upd.setCell (F := fun k => k = ob) (p := ⟨ob, 1, none⟩) rfl _
  refine ⟨ho, u2.row (hu.row h.r8 (fun k hk hk2 => (h.g8 k hk).2.2.2 hk2)) (fun k hk => (h.g8 k hk).2.1), u2.row (hu.row h.r9 (fun k hk hk2 => (h.g9 k hk).2.2 hk2)) (fun k hk => (h.g9 k hk).2.1), u2.row hr (fun k hk => (hg k hk).2.1), ?_, fun k hk => ⟨(h.g8 k hk).1, (h.g8 k hk).2.1, (h.g8 k hk).2.2.1, fun e => (hg k e).2.2.1 hk⟩, fun k hk => ⟨(h.g9 k hk).1, (h.g9 k hk).2.1, fun e => (hg k e).2.2.2 hk⟩, fun k hk => ⟨(hg k hk).1, (hg k hk).2.1⟩⟩
  rw [setCell_eq_setRow W' ob 1 _ _ _ v' ho]
  exact setRow_heap W' ob _ _ _ _ ho
theorem Lays.at_ {W : World} {base ob oat n : Nat} {v8 v9 vB : Value} {A C : List RP} {oL : List UInt8} (h : Lays W base ob v8 v9 vB oat A C oL) : Lays (W.setCell ⟨ob, 0, none⟩ (.int .i64 n)) base ob v8 v9 vB n A C oL := by
  have u2 : Upd (fun k => k = ob) W (W.setCell ⟨ob, 0, none⟩ (.int .i64 n)) := Upd.setCell (F := fun k => k = ob) (p := ⟨ob, 0, none⟩) rfl _
  refine ⟨u2.row h.r8 (fun k hk => (h.g8 k hk).2.1), u2.row h.r9 (fun k hk => (h.g9 k hk).2.1), u2.row h.rB (fun k hk => (h.gB k hk).2), ?_, h.g8, h.g9, h.gB⟩
  rw [setCell_eq_setRow W ob 0 _ _ _ _ h.ow]
  exact setRow_heap W ob _ _ _ _ h.ow
theorem Lays.cells {W : World} {base ob oat : Nat} {v8 v9 vB : Value} {A C : List RP} {oL : List UInt8} (h : Lays W base ob v8 v9 vB oat A C oL) : W.cell? ⟨ob, 0, none⟩ = some (.int .i64 oat) ∧ W.cell? ⟨ob, 1, none⟩ = some vB ∧ W.frozen? ⟨ob, 0, none⟩ = false ∧ W.frozen? ⟨ob, 1, none⟩ = false :=
  ⟨by rw [cell_of_row W ob _ _ _ _ h.ow]; rfl, by rw [cell_of_row W ob _ _ _ _ h.ow]; rfl, frozen_of_row W ob 0 _ _ h.ow, frozen_of_row W ob 1 _ _ h.ow⟩
end Go.Proofs.Ytkekaljcbmkomaa

namespace Go.Proofs.Ytkekaljcbmkomaa

def ahP (x : Nat) (T : List Piece) : List Piece := T.filter fun d => decide (d.fin < x)
def lfP (x : Nat) (T : List Piece) : List Piece := T.filter fun d => decide (d.fin = x)
def rtP (x y : Nat) (T : List Piece) : List Piece := T.filter fun d => decide (x < d.fin ∧ d.org = y)
def bhP (x y : Nat) (T : List Piece) : List Piece := T.filter fun d => decide (x < d.fin ∧ d.org ≠ y)

theorem split4 {x y : Nat} (hxy : x < y) : ∀ {T : List Piece}, T.Pairwise (fun a b => a.fin < b.org) → (∀ d, d ∈ T → 0 < d.bs.length) → (∀ d, d ∈ T → d.fin ≤ x ∨ y ≤ d.org) →
    T = ahP x T ++ (lfP x T ++ rtP x y T) ++ bhP x y T ∧ (lfP x T).length ≤ 1 ∧ (rtP x y T).length ≤ 1
  | [], _, _, _ => ⟨rfl, by simp [lfP], by simp [rtP]⟩
  | d :: T, hs, hn, ho => by
    have hs' := List.pairwise_cons.1 hs
    have hd := hn d (by simp)
    have hod := ho d (by simp)
    have hf : d.fin = d.org + d.bs.length := rfl
    obtain ⟨ih, i1, i2⟩ := split4 hxy hs'.2 (fun e he => hn e (by simp [he])) (fun e he => ho e (by simp [he]))
    have hE : ∀ e, e ∈ T → d.fin < e.org ∧ e.org < e.fin := fun e he => ⟨hs'.1 e he, by have := hn e (by simp [he]); unfold Piece.fin; omega⟩
    by_cases h1 : d.fin < x
    · have e1 : ahP x (d :: T) = d :: ahP x T := by unfold ahP; rw [List.filter_cons_of_pos (by simpa using h1)]
      have e2 : lfP x (d :: T) = lfP x T := by unfold lfP; rw [List.filter_cons_of_neg (by simp; omega)]
      have e3 : rtP x y (d :: T) = rtP x y T := by unfold rtP; rw [List.filter_cons_of_neg (by simp; omega)]
      have e4 : bhP x y (d :: T) = bhP x y T := by unfold bhP; rw [List.filter_cons_of_neg (by simp; omega)]
      rw [e1, e2, e3, e4]
      exact ⟨by rw [List.cons_append, List.cons_append, ← ih], i1, i2⟩
    · have n1 : ahP x T = [] := by
        unfold ahP; rw [List.filter_eq_nil_iff]; intro e he; have := hE e he; simp; omega
      have n2 : lfP x T = [] := by
        unfold lfP; rw [List.filter_eq_nil_iff]; intro e he; have := hE e he; simp; omega
      have e1 : ahP x (d :: T) = [] := by unfold ahP; rw [List.filter_cons_of_neg (by simpa using h1)]; exact n1
      rw [n1, n2] at ih
      by_cases h2 : d.fin = x
      · have e2 : lfP x (d :: T) = [d] := by unfold lfP at n2 ⊢; rw [List.filter_cons_of_pos (by simpa using h2), n2]
        have e3 : rtP x y (d :: T) = rtP x y T := by unfold rtP; rw [List.filter_cons_of_neg (by simp; omega)]
        have e4 : bhP x y (d :: T) = bhP x y T := by unfold bhP; rw [List.filter_cons_of_neg (by simp; omega)]
        rw [e1, e2, e3, e4]
        refine ⟨?_, by simp, i2⟩
        simp only [List.nil_append] at ih ⊢
        rw [List.singleton_append, List.cons_append, ← ih]
      · have e2 : lfP x (d :: T) = [] := by unfold lfP at n2 ⊢; rw [List.filter_cons_of_neg (by simpa using h2)]; exact n2
        have n3 : rtP x y T = [] := by
          unfold rtP; rw [List.filter_eq_nil_iff]; intro e he; have := hE e he; simp; omega
        rw [n3] at ih
        simp only [List.nil_append] at ih
        by_cases h3 : d.org = y
        · have e3 : rtP x y (d :: T) = [d] := by unfold rtP at n3 ⊢; rw [List.filter_cons_of_pos (by simp; omega), n3]
          have e4 : bhP x y (d :: T) = bhP x y T := by unfold bhP; rw [List.filter_cons_of_neg (by simp; omega)]
          rw [e1, e2, e3, e4]
          refine ⟨?_, by simp, by simp⟩
          simp only [List.nil_append]
          rw [List.singleton_append, ← ih]
        · have e3 : rtP x y (d :: T) = [] := by unfold rtP at n3 ⊢; rw [List.filter_cons_of_neg (by simp; omega)]; exact n3
          have e4 : bhP x y (d :: T) = d :: bhP x y T := by unfold bhP; rw [List.filter_cons_of_pos (by simp; omega)]
          rw [e1, e2, e3, e4]
          refine ⟨?_, by simp, by simp⟩
          simp only [List.nil_append]
          rw [← ih]

theorem cut_outs {x y : Nat} (hxy : x < y) (d : Piece) : (ahP x (cutP x y d)).length + (bhP x y (cutP x y d)).length ≤ 1 := by
  have hf : d.fin = d.org + d.bs.length := rfl
  unfold cutP
  split
  · rename_i h
    unfold ahP bhP
    by_cases h1 : d.fin < x
    · rw [List.filter_cons_of_pos (by simpa using h1), List.filter_cons_of_neg (by simp; omega)]; simp
    · rw [List.filter_cons_of_neg (by simpa using h1)]
      have := List.length_filter_le (fun d => decide (x < d.fin ∧ d.org ≠ y)) [d]
      simp only [List.filter_nil, List.length_nil, List.length_cons] at this ⊢
      omega
  · rename_i h
    have z1 : ∀ (b : Bool), (ahP x ((if d.org < x then [(⟨d.org, d.blk, d.cap, d.bs.take (x - d.org)⟩ : Piece)] else []) ++ (if y < d.fin then [⟨y, d.blk, d.cap, d.bs.drop (y - d.org)⟩] else []))) = [] := fun _ => by
      unfold ahP; rw [List.filter_eq_nil_iff]
      intro e he
      rcases List.mem_append.1 he with he | he
      · split at he
        · rw [List.mem_singleton] at he; subst he; simp [Piece.fin]; omega
        · simp at he
      · split at he
        · rw [List.mem_singleton] at he; subst he; simp [Piece.fin]; omega
        · simp at he
    have z2 : (bhP x y ((if d.org < x then [(⟨d.org, d.blk, d.cap, d.bs.take (x - d.org)⟩ : Piece)] else []) ++ (if y < d.fin then [⟨y, d.blk, d.cap, d.bs.drop (y - d.org)⟩] else []))) = [] := by
      unfold bhP; rw [List.filter_eq_nil_iff]
      intro e he
      rcases List.mem_append.1 he with he | he
      · split at he
        · rw [List.mem_singleton] at he; subst he; simp [Piece.fin]; omega
        · simp at he
      · split at he
        · rw [List.mem_singleton] at he; subst he; simp
        · simp at he
    rw [z1 true, z2]; simp
theorem taken_outs {x y : Nat} (hxy : x < y) : ∀ L : List Piece, (ahP x (takenP x y L)).length + (bhP x y (takenP x y L)).length ≤ L.length
  | [] => by simp [takenP, ahP, bhP]
  | d :: L => by
    have e : takenP x y (d :: L) = cutP x y d ++ takenP x y L := rfl
    have a1 : ∀ (A B : List Piece), ahP x (A ++ B) = ahP x A ++ ahP x B := fun A B => by unfold ahP; rw [List.filter_append]
    have a2 : ∀ (A B : List Piece), bhP x y (A ++ B) = bhP x y A ++ bhP x y B := fun A B => by unfold bhP; rw [List.filter_append]
    have := cut_outs hxy d
    have := taken_outs hxy L
    rw [e, a1, a2, List.length_append, List.length_append, List.length_cons]
    omega

theorem getD_three (A l C : List UInt8) (i : Nat) : (A ++ l ++ C).getD i 0 = if i < A.length then A.getD i 0 else if i < A.length + l.length then l.getD (i - A.length) 0 else C.getD (i - A.length - l.length) 0 := by
  simp only [List.getD_eq_getElem?_getD]
  split
  · rename_i h
    rw [List.getElem?_append_left (by rw [List.length_append]; omega), List.getElem?_append_left h]
  · rename_i h
    split
    · rename_i h2
      rw [List.getElem?_append_left (by rw [List.length_append]; omega), List.getElem?_append_right (by omega)]
    · rename_i h2
      rw [List.getElem?_append_right (by rw [List.length_append]; omega), List.length_append, Nat.sub_add_eq]

/-- What lies behind the bytes where nothing of T is in their place. -/
theorem lay_laid {L : List Piece} {x : Nat} {l : List UInt8} (hs : L.Pairwise (fun a b => a.fin < b.org)) (hne : ∀ d, d ∈ L → 0 < d.bs.length) (hl : 0 < l.length) (n : Piece)
    (hno : n.org = ((lfP x (takenP x (x + l.length) L)).getLast?.map fun d => d.org).getD x)
    (hnb : n.bs = (lfP x (takenP x (x + l.length) L)).flatMap (fun d => d.bs) ++ l ++ ((rtP x (x + l.length) (takenP x (x + l.length) L)).getLast?.map fun d => d.bs).getD []) :
    Laid L (ahP x (takenP x (x + l.length) L) ++ [n] ++ bhP x (x + l.length) (takenP x (x + l.length) L)) x l := by
  have hE := taken_erased (x := x) (y := x + l.length) hs hne (by omega)
  have hcn := taken_outs (x := x) (y := x + l.length) (by omega) L
  generalize takenP x (x + l.length) L = T at *
  have ho : ∀ d, d ∈ T → d.fin ≤ x ∨ x + l.length ≤ d.org := fun d hd => by
    obtain ⟨e, -, -, -, h⟩ := hE.inn d hd
    exact h (by omega)
  obtain ⟨hT, q1, q2⟩ := split4 (by omega) hE.sep hE.ne ho
  have hsT := hE.sep
  have hnT := hE.ne
  rw [hT] at hsT hnT
  have hlfm : ∀ d, d ∈ lfP x T → d ∈ T ∧ d.fin = x := fun d hd => by
    unfold lfP at hd; rw [List.mem_filter] at hd; exact ⟨hd.1, by simpa using hd.2⟩
  have hrtm : ∀ d, d ∈ rtP x (x + l.length) T → d ∈ T ∧ x < d.fin ∧ d.org = x + l.length := fun d hd => by
    unfold rtP at hd; rw [List.mem_filter] at hd; exact ⟨hd.1, by simpa using hd.2⟩
  have hbhm : ∀ d, d ∈ bhP x (x + l.length) T → d ∈ T ∧ x < d.fin ∧ d.org ≠ x + l.length := fun d hd => by
    unfold bhP at hd; rw [List.mem_filter] at hd; exact ⟨hd.1, by simpa using hd.2⟩
  have key : Laid (ahP x T ++ (lfP x T ++ rtP x (x + l.length) T) ++ bhP x (x + l.length) T) (ahP x T ++ [n] ++ bhP x (x + l.length) T) x l := by
    obtain ⟨F, hF, hFl⟩ : ∃ F, lfP x T = F ∧ F.length ≤ 1 := ⟨_, rfl, q1⟩
    obtain ⟨G, hG, hGl⟩ : ∃ G, rtP x (x + l.length) T = G ∧ G.length ≤ 1 := ⟨_, rfl, q2⟩
    rw [hF] at hno hnb hlfm hsT hnT ⊢
    rw [hG] at hnb hrtm hsT hnT ⊢
    have hA : ∀ d, d ∈ ahP x T → d.fin < x := fun d hd => by
      unfold ahP at hd; rw [List.mem_filter] at hd; simpa using hd.2
    have hB : ∀ d, d ∈ bhP x (x + l.length) T → x + l.length < d.org := fun d hd => by
      obtain ⟨h1, h2, h3⟩ := hbhm d hd
      have := ho d h1
      omega
    rcases F with _ | ⟨f, F⟩
    · rcases G with _ | ⟨g, G⟩
      · simp only [List.getLast?_nil, Option.map_none, Option.getD_none, List.flatMap_nil, List.nil_append, List.append_nil] at hno hnb hsT hnT ⊢
        have hlen : n.bs.length = l.length := by rw [hnb]
        rw [show ahP x T ++ bhP x (x + l.length) T = ahP x T ++ [] ++ bhP x (x + l.length) T by simp]
        refine laid_of (M := []) (by simpa using hsT) (by simpa using hnT) hA hB hl ⟨by omega, .inl hno⟩ ⟨by unfold Piece.fin; omega, .inl (by unfold Piece.fin; omega)⟩ (by simp) (fun p h1 h2 => .inl (by unfold Piece.fin at h2; omega)) (fun p h1 h2 => ?_) (by simp [heldOf, ovls]; omega)
        rw [if_pos (by unfold Piece.fin at h2; omega), hnb, hno]
      · obtain rfl : G = [] := by simpa using hGl
        obtain ⟨-, g2, g3⟩ := hrtm g (by simp)
        have gn := hnT g (by simp)
        have gf : g.fin = g.org + g.bs.length := rfl
        have nf : n.fin = n.org + n.bs.length := rfl
        simp only [List.getLast?_nil, List.getLast?_singleton, Option.map_none, Option.getD_none, Option.map_some, Option.getD_some, List.flatMap_nil, List.nil_append] at hno hnb hsT hnT ⊢
        have hlen : n.bs.length = l.length + g.bs.length := by rw [hnb, List.length_append]
        refine laid_of (M := [g]) hsT hnT hA hB hl ⟨by omega, .inl hno⟩ ⟨by omega, .inr ⟨g, by simp, by omega⟩⟩ (fun d hd => ?_) (fun p h1 h2 => ?_) (fun p h1 h2 => ?_) ?_
        · rw [List.mem_singleton] at hd; subst hd; omega
        · by_cases h3 : p < x + l.length
          · exact .inl (by omega)
          · exact .inr ⟨g, by simp, by omega, by omega⟩
        · rw [hnb, show l ++ g.bs = [] ++ l ++ g.bs from rfl, getD_three]
          simp only [List.length_nil, Nat.not_lt_zero, if_false, Nat.zero_add, Nat.sub_zero]
          by_cases h3 : p < x + l.length
          · rw [if_pos (by omega), if_pos (by omega), hno]
          · rw [if_neg (by omega), if_neg (by omega)]
            unfold byteAt
            rw [if_pos (by omega), hno, show p - x - l.length = p - g.org by omega]
        · simp [heldOf, ovls, ovl]; omega
    · obtain rfl : F = [] := by simpa using hFl
      obtain ⟨-, f2⟩ := hlfm f (by simp)
      have fn := hnT f (by simp)
      have ff : f.fin = f.org + f.bs.length := rfl
      have nf : n.fin = n.org + n.bs.length := rfl
      rcases G with _ | ⟨g, G⟩
      · simp only [List.getLast?_nil, List.getLast?_singleton, Option.map_none, Option.getD_none, Option.map_some, Option.getD_some, List.flatMap_cons, List.flatMap_nil, List.append_nil] at hno hnb hsT hnT ⊢
        have hlen : n.bs.length = f.bs.length + l.length := by rw [hnb, List.length_append]
        refine laid_of (M := [f]) hsT hnT hA hB hl ⟨by omega, .inr ⟨f, by simp, hno⟩⟩ ⟨by omega, .inl (by omega)⟩ (fun d hd => ?_) (fun p h1 h2 => ?_) (fun p h1 h2 => ?_) ?_
        · rw [List.mem_singleton] at hd; subst hd; omega
        · by_cases h3 : p < x
          · exact .inr ⟨f, by simp, by omega, by omega⟩
          · exact .inl (by omega)
        · rw [hnb, show f.bs ++ l = f.bs ++ l ++ [] by simp, getD_three]
          by_cases h3 : p < x
          · rw [if_pos (by omega), if_neg (by omega)]
            unfold byteAt
            rw [if_pos (by omega), hno]
          · rw [if_neg (by omega), if_pos (by omega), if_pos (by omega), show p - n.org - f.bs.length = p - x by omega]
        · simp [heldOf, ovls, ovl]; omega
      · obtain rfl : G = [] := by simpa using hGl
        obtain ⟨-, g2, g3⟩ := hrtm g (by simp)
        have gn := hnT g (by simp)
        have gf : g.fin = g.org + g.bs.length := rfl
        simp only [List.getLast?_singleton, Option.map_some, Option.getD_some, List.flatMap_cons, List.flatMap_nil, List.append_nil, List.singleton_append] at hno hnb hsT hnT ⊢
        have hlen : n.bs.length = f.bs.length + l.length + g.bs.length := by rw [hnb, List.length_append, List.length_append]
        refine laid_of (M := [f, g]) hsT hnT hA hB hl ⟨by omega, .inr ⟨f, by simp, hno⟩⟩ ⟨by omega, .inr ⟨g, by simp, by omega⟩⟩ (fun d hd => ?_) (fun p h1 h2 => ?_) (fun p h1 h2 => ?_) ?_
        · simp only [List.mem_cons, List.not_mem_nil, or_false] at hd
          rcases hd with rfl | rfl <;> omega
        · by_cases h3 : p < x
          · exact .inr ⟨f, by simp, by omega, by omega⟩
          · by_cases h4 : p < x + l.length
            · exact .inl (by omega)
            · exact .inr ⟨g, by simp, by omega, by omega⟩
        · rw [hnb, getD_three]
          by_cases h3 : p < x
          · rw [if_pos (by omega), if_neg (by omega)]
            unfold byteAt
            rw [if_pos (by omega), hno]
          · by_cases h4 : p < x + l.length
            · rw [if_neg (by omega), if_pos (by omega), if_pos (by omega), show p - n.org - f.bs.length = p - x by omega]
            · rw [if_neg (by omega), if_neg (by omega), if_neg (by omega)]
              unfold byteAt
              rw [if_neg (by omega)]
              unfold byteAt
              rw [if_pos (by omega), show p - n.org - f.bs.length - l.length = p - g.org by omega]
        · simp [heldOf, ovls, ovl]; omega
  rw [← hT] at key
  have hz : ovls x (x + l.length) T = 0 := ovls_zero fun d hd => by have := ho d hd; unfold ovl; omega
  refine ⟨key.sep, key.ne, fun m hm => ?_, ?_, fun p => ?_, fun p => ?_, ?_⟩
  · rcases key.fin m hm with h | ⟨d, hd, h⟩
    · exact .inl h
    · obtain ⟨e, he, -, h2, -⟩ := hE.inn d hd
      exact .inr ⟨e, he, by omega⟩
  · have h1 := key.held
    have h2 := hE.held
    rw [hz] at h1
    omega
  · rw [key.byte, hE.byte]
    split <;> rfl
  · rw [key.has, hE.has]
    by_cases hp : x ≤ p ∧ p < x + l.length <;> simp [hp]
  · simp only [List.length_append, List.length_cons, List.length_nil]
    omega
end Go.Proofs.Ytkekaljcbmkomaa

namespace Go.Proofs.Ytkekaljcbmkomaa
open Go.RowKit
attribute [local simp] lcells_nil readB_length bcells_length

structure RObj (w : World) (b N : Nat) (a : Option Addr) (c : Nat) (R : List RP) : Prop where
  obj : w.heap[b]? = some (.cells #[.slice a R.length c, .int .i64 N] 53 (0, 0))
  ps : PsAt w a R
  nb : ∀ r, r ∈ R → r.blk ≠ b
  na : ∀ ad, a = some ad → ad.block ≠ b
theorem RObj.ref {w : World} {b N : Nat} {a : Option Addr} {c : Nat} {R : List RP} (h : RObj w b N a c R) : RefAt w b N a c R :=
  ⟨by rw [cell_of_row w b _ _ _ _ h.obj]; rfl, by rw [cell_of_row w b _ _ _ _ h.obj]; rfl, h.ps⟩
theorem RObj.below {w w' : World} {b N : Nat} {a : Option Addr} {c : Nat} {R : List RP} (h : RObj w b N a c R) (hb : Below w.heap.size w w') : RObj w' b N a c R :=
  ⟨(hb.block _ (Array.getElem?_eq_some_iff.1 h.obj).1).trans h.obj, h.ps.below hb, h.nb, h.na⟩

/-- The blocks that the object reaches. -/
def RFoot (b : Nat) (a : Option Addr) (R : List RP) (k : Nat) : Prop := k = b ∨ (R ≠ [] ∧ ∃ ad, a = some ad ∧ ad.block = k) ∨ ∃ r, r ∈ R ∧ r.blk = k

theorem BsAt.upd {w w' : World} {F : Nat → Prop} {ad : Addr} {l : List UInt8} (h : BsAt w (some ad) l) (hu : Upd F w w') (hn : ¬ F ad.block) : BsAt w' (some ad) l := fun hl => by
  obtain ⟨ad', e, hc⟩ := h hl
  cases e
  refine ⟨ad, rfl, fun j v hj => ?_⟩
  have h1 := hc j v hj
  have hb := World.block_lt_of_cell? w _ h1
  have eb : (ad.add j).block = ad.block := by unfold Addr.add; split <;> rfl
  rw [World.cell?_of_block (hu.block _ hb (by rw [eb]; exact hn))]
  exact h1
theorem PsAt.upd {w w' : World} {F : Nat → Prop} {a : Option Addr} {R : List RP} (h : PsAt w a R) (hu : Upd F w w') (h1 : R ≠ [] → ∀ ad, a = some ad → ¬ F ad.block) (h2 : ∀ r, r ∈ R → ¬ F r.blk) : PsAt w' a R := by
  refine ⟨fun hne => ?_, fun r hr => (h.bs r hr).upd hu (h2 r hr), h.cp, h.le, h.cnt⟩
  obtain ⟨blk, off, rfl, hrd⟩ := h.rd hne
  refine ⟨blk, off, rfl, fun j r hj => ?_⟩
  obtain ⟨k0, k1⟩ := hrd j r hj
  have hb := World.block_lt_of_cell? w _ k0
  have hn := h1 hne _ rfl
  exact ⟨by rw [World.cell?_of_block (hu.block blk hb hn)]; exact k0, by rw [World.cell?_of_block (hu.block blk hb hn)]; exact k1⟩
theorem RObj.upd {w w' : World} {F : Nat → Prop} {b N : Nat} {a : Option Addr} {c : Nat} {R : List RP} (h : RObj w b N a c R) (hu : Upd F w w') (hF : ∀ k, RFoot b a R k → ¬ F k) : RObj w' b N a c R :=
  ⟨(hu.block b (Array.getElem?_eq_some_iff.1 h.obj).1 (hF b (.inl rfl))).trans h.obj, h.ps.upd hu (fun hne ad e => hF _ (.inr (.inl ⟨hne, ad, e, rfl⟩))) (fun r hr => hF _ (.inr (.inr ⟨r, hr, rfl⟩))), h.nb, h.na⟩

/-- What a piece tells of its bytes. -/
structure PcOk (w : World) (r : RP) : Prop where
  bs : BsAt w (some ⟨r.blk, r.off, none⟩) r.bs
  ne : 0 < r.bs.length
  cp : r.bs.length ≤ r.c
  le : r.at_ + r.bs.length ≤ 1073741824
theorem PsAt.ok {w : World} {a : Option Addr} {R : List RP} (h : PsAt w a R) {r : RP} (hr : r ∈ R) : PcOk w r := ⟨h.bs r hr, (h.cp r hr).1, (h.cp r hr).2, h.le r hr⟩
theorem PcOk.below {w w' : World} {r : RP} (h : PcOk w r) (hb : Below w.heap.size w w') : PcOk w' r := ⟨h.bs.below hb, h.ne, h.cp, h.le⟩

theorem bs_take {w : World} {blk off : Nat} {l : List UInt8} (z : Nat) (h : BsAt w (some ⟨blk, off, none⟩) l) : BsAt w (some ⟨blk, off, none⟩) (l.take z) := fun hne => by
  have hl : l ≠ [] := fun e => hne (by rw [e]; simp)
  obtain ⟨ad, e, hc⟩ := h hl
  refine ⟨ad, e, fun j v hj => hc j v ?_⟩
  have e2 : bcells (l.take z) = (bcells l).take z := by simp [bcells, List.map_take]
  rw [e2, List.getElem?_take] at hj
  split at hj
  · exact hj
  · cases hj
theorem bs_drop {w : World} {blk off : Nat} {l : List UInt8} (z : Nat) (h : BsAt w (some ⟨blk, off, none⟩) l) : BsAt w (some ⟨blk, off + z, none⟩) (l.drop z) := fun hne => by
  have hl : l ≠ [] := fun e => hne (by rw [e]; simp)
  obtain ⟨ad, e, hc⟩ := h hl
  cases e
  refine ⟨_, rfl, fun j v hj => ?_⟩
  have e2 : bcells (l.drop z) = (bcells l).drop z := by simp [bcells, List.map_drop]
  rw [e2, List.getElem?_drop] at hj
  have := hc _ v hj
  rw [Addr.add_lit] at this ⊢
  rw [Nat.add_assoc]
  exact this
theorem cutR_ok {w : World} {x y : Nat} {r q : RP} (h : PcOk w r) (hy : y ≤ 1073741824) (hq : q ∈ cutR x y r) : PcOk w q ∧ q.blk = r.blk := by
  have hne := h.ne
  have hcp := h.cp
  have hle := h.le
  unfold cutR at hq
  split at hq
  · rw [List.mem_singleton] at hq; subst hq; exact ⟨h, rfl⟩
  · rename_i h1
    rcases List.mem_append.1 hq with hq | hq
    · split at hq
      · rename_i h2
        rw [List.mem_singleton] at hq; subst hq
        exact ⟨⟨bs_take _ h.bs, by simp only [List.length_take]; omega, by simp only [List.length_take]; omega, by simp only [List.length_take]; omega⟩, rfl⟩
      · simp at hq
    · split at hq
      · rename_i h2
        rw [List.mem_singleton] at hq; subst hq
        exact ⟨⟨bs_drop _ h.bs, by simp only [List.length_drop]; omega, by simp only [List.length_drop]; omega, by simp only [List.length_drop]; omega⟩, rfl⟩
      · simp at hq
theorem takenR_ok {w : World} {x y : Nat} {R : List RP} (h : ∀ r, r ∈ R → PcOk w r) (hy : y ≤ 1073741824) {q : RP} (hq : q ∈ takenR x y R) : PcOk w q ∧ ∃ r, r ∈ R ∧ q.blk = r.blk := by
  obtain ⟨r, hr, hm⟩ := List.mem_flatMap.1 hq
  obtain ⟨h1, h2⟩ := cutR_ok (h r hr) hy hm
  exact ⟨h1, r, hr, h2⟩

/-- A list as taken answers it: a row of its own. -/
theorem ps_row {w : World} {base : Nat} {v : Value} {R : List RP} (h : w.ownsRow base 59 2 v R.length (rcells R)) (hk : ∀ r, r ∈ R → PcOk w r) (hn : R.length ≤ 1073741824) : ∃ a c, v = .slice a R.length c ∧ PsAt w a R ∧ ∀ ad, a = some ad → base ≤ ad.block := by
  rcases h.2 with ⟨e, hz⟩ | ⟨g, cap, cur, e, hbg, -⟩
  · obtain rfl : R = [] := List.eq_nil_of_length_eq_zero hz
    exact ⟨none, 0, e, ⟨fun hne => absurd rfl hne, by simp, by simp, by simp, by simp⟩, by simp⟩
  · exact ⟨some ⟨g, 0, none⟩, cap, e, psAt_of_row h (fun r hr => (hk r hr).bs) (fun r hr => ⟨(hk r hr).ne, (hk r hr).cp⟩) (fun r hr => (hk r hr).le) hn e (fun _ => ⟨g, rfl⟩), fun ad ha => by cases ha; exact hbg⟩

theorem pc_lt {W : World} {r : RP} (h : PcOk W r) : r.blk < W.heap.size := by
  obtain ⟨ad, e, hc⟩ := h.bs (List.length_pos_iff.1 h.ne)
  cases e
  have hl : 0 < (bcells r.bs).length := by rw [bcells_length]; exact h.ne
  have := World.block_lt_of_cell? W _ (hc 0 _ (List.getElem?_eq_getElem hl))
  rwa [Addr.add_lit] at this
theorem RObj.lt {w : World} {b N : Nat} {a : Option Addr} {c : Nat} {R : List RP} (h : RObj w b N a c R) {k : Nat} (hk : RFoot b a R k) : k < w.heap.size := by
  rcases hk with rfl | ⟨hne, ad, ha, rfl⟩ | ⟨r, hr, rfl⟩
  · exact (Array.getElem?_eq_some_iff.1 h.obj).1
  · obtain ⟨blk, off, e, hrd⟩ := h.ps.rd hne
    rw [ha] at e
    cases e
    cases R with
    | nil => exact absurd rfl hne
    | cons r R => exact World.block_lt_of_cell? w _ (hrd 0 r rfl).1
  · exact pc_lt (h.ps.ok hr)

/-! ### The parts of a list beside the bytes that are laid -/
def ahR (x : Nat) (T : List RP) : List RP := T.filter fun r => decide (r.at_ + r.bs.length < x)
def lfR (x : Nat) (T : List RP) : List RP := T.filter fun r => decide (r.at_ + r.bs.length = x)
def rtR (x y : Nat) (T : List RP) : List RP := T.filter fun r => decide (x < r.at_ + r.bs.length ∧ r.at_ = y)
def bhR (x y : Nat) (T : List RP) : List RP := T.filter fun r => decide (x < r.at_ + r.bs.length ∧ r.at_ ≠ y)
theorem ahR_pls (x : Nat) (T : List RP) : pls (ahR x T) = ahP x (pls T) := by unfold pls ahR ahP; rw [List.filter_map]; rfl
theorem lfR_pls (x : Nat) (T : List RP) : pls (lfR x T) = lfP x (pls T) := by unfold pls lfR lfP; rw [List.filter_map]; rfl
theorem rtR_pls (x y : Nat) (T : List RP) : pls (rtR x y T) = rtP x y (pls T) := by unfold pls rtR rtP; rw [List.filter_map]; rfl
theorem bhR_pls (x y : Nat) (T : List RP) : pls (bhR x y T) = bhP x y (pls T) := by unfold pls bhR bhP; rw [List.filter_map]; rfl

def lastV : Option RP → Value
  | none => .slice none 0 0
  | some r => .slice (some ⟨r.blk, r.off, none⟩) r.bs.length r.c
def oatR (x : Nat) (T : List RP) : Nat := ((lfR x T).getLast?.map fun r => r.at_).getD x
def olR (x : Nat) (T : List RP) : List UInt8 := (lfR x T).flatMap fun r => r.bs

theorem take_snoc {T : List RP} {k : Nat} {r : RP} (h : T[k]? = some r) : T.take (k + 1) = T.take k ++ [r] := by rw [List.take_add_one, h]; rfl
theorem parts_ah {x y : Nat} {T : List RP} {r : RP} (h : r.at_ + r.bs.length < x) : ahR x (T ++ [r]) = ahR x T ++ [r] ∧ lfR x (T ++ [r]) = lfR x T ∧ rtR x y (T ++ [r]) = rtR x y T ∧ bhR x y (T ++ [r]) = bhR x y T := by
  unfold ahR lfR rtR bhR
  simp only [List.filter_append]
  refine ⟨?_, ?_, ?_, ?_⟩
  · rw [List.filter_cons_of_pos (by simpa using h)]; rfl
  all_goals (rw [List.filter_cons_of_neg (by simp; omega)]; simp)
theorem parts_lf {x y : Nat} {T : List RP} {r : RP} (h : r.at_ + r.bs.length = x) : ahR x (T ++ [r]) = ahR x T ∧ lfR x (T ++ [r]) = lfR x T ++ [r] ∧ rtR x y (T ++ [r]) = rtR x y T ∧ bhR x y (T ++ [r]) = bhR x y T := by
  unfold ahR lfR rtR bhR
  simp only [List.filter_append]
  refine ⟨?_, ?_, ?_, ?_⟩
  · rw [List.filter_cons_of_neg (by simp; omega)]; simp
  · rw [List.filter_cons_of_pos (by simpa using h)]; rfl
  all_goals (rw [List.filter_cons_of_neg (by simp; omega)]; simp)
theorem parts_rt {x y : Nat} {T : List RP} {r : RP} (h : x < r.at_ + r.bs.length) (h2 : r.at_ = y) : ahR x (T ++ [r]) = ahR x T ∧ lfR x (T ++ [r]) = lfR x T ∧ rtR x y (T ++ [r]) = rtR x y T ++ [r] ∧ bhR x y (T ++ [r]) = bhR x y T := by
  unfold ahR lfR rtR bhR
  simp only [List.filter_append]
  refine ⟨?_, ?_, ?_, ?_⟩
  · rw [List.filter_cons_of_neg (by simp; omega)]; simp
  · rw [List.filter_cons_of_neg (by simp; omega)]; simp
  · rw [List.filter_cons_of_pos (by simp; omega)]; rfl
  · rw [List.filter_cons_of_neg (by simp; omega)]; simp
theorem parts_bh {x y : Nat} {T : List RP} {r : RP} (h : x < r.at_ + r.bs.length) (h2 : r.at_ ≠ y) : ahR x (T ++ [r]) = ahR x T ∧ lfR x (T ++ [r]) = lfR x T ∧ rtR x y (T ++ [r]) = rtR x y T ∧ bhR x y (T ++ [r]) = bhR x y T ++ [r] := by
  unfold ahR lfR rtR bhR
  simp only [List.filter_append]
  refine ⟨?_, ?_, ?_, ?_⟩
  · rw [List.filter_cons_of_neg (by simp; omega)]; simp
  · rw [List.filter_cons_of_neg (by simp; omega)]; simp
  · rw [List.filter_cons_of_neg (by simp; omega)]; simp
  · rw [List.filter_cons_of_pos (by simp; omega)]; rfl
theorem oatR_lf {x : Nat} {T T' : List RP} {r : RP} (h : lfR x T' = lfR x T ++ [r]) : oatR x T' = r.at_ ∧ olR x T' = olR x T ++ r.bs := by
  unfold oatR olR
  rw [h]
  simp
theorem oatR_id {x : Nat} {T T' : List RP} (h : lfR x T' = lfR x T) : oatR x T' = oatR x T ∧ olR x T' = olR x T := by
  unfold oatR olR
  rw [h]
  exact ⟨rfl, rfl⟩
end Go.Proofs.Ytkekaljcbmkomaa

namespace Go.Proofs.Ytkekaljcbmkomaa
open Go.RowKit
attribute [local simp] lcells_nil readB_length bcells_length

theorem olR_len (x : Nat) : ∀ T : List RP, (olR x T).length ≤ heldR T
  | [] => by simp [olR, lfR]
  | r :: T => by
    have ih := olR_len x T
    have e : heldR (r :: T) = r.bs.length + heldR T := by unfold heldR pls; rw [List.map_cons, heldOf_cons]; rfl
    unfold olR lfR at ih ⊢
    rw [e]
    by_cases h : r.at_ + r.bs.length = x
    · rw [List.filter_cons_of_pos (by simpa using h), List.flatMap_cons, List.length_append]; omega
    · rw [List.filter_cons_of_neg (by simpa using h)]; omega
theorem heldR_take_le (T : List RP) (k : Nat) : heldR (T.take k) ≤ heldR T := by
  have : heldR T = heldR (T.take k) + heldR (T.drop k) := by
    unfold heldR pls
    rw [← heldOf_append, ← List.map_append, List.take_append_drop]
  omega
theorem heldR_taken {x y : Nat} (h : x < y) (R : List RP) : heldR (takenR x y R) ≤ heldR R := by
  unfold heldR
  rw [takenR_pls]
  have := takenP_held h (pls R)
  omega
theorem filter_len (f : RP → Bool) (T : List RP) : (T.filter f).length ≤ T.length := List.length_filter_le _ _

theorem src_one {W : World} (q : RP) : SrcAt (W.alloc (.cells #[.int .i64 q.at_, .slice (some ⟨q.blk, q.off, none⟩) q.bs.length q.c] 59)) (.slice (some ⟨W.heap.size, 0, none⟩) 1 1) 1 (rcells [q]) :=
  ⟨_, _, rfl, fun _ => ⟨_, rfl, fun j u hj => new_cells W (rcells [q]) 59 j u hj⟩⟩

/-- The room that the rows ask for. -/
theorem room_row {n m : Nat} (h : n + m ≤ 33554432) : n + m ≤ maxLen ∧ (n + m) * 32 ≤ 140737488355328 := ⟨by unfold maxLen; omega, by omega⟩
theorem room_bytes {n m : Nat} (h : n + m ≤ 33554432) : n + m ≤ maxLen ∧ (n + m) * 1 ≤ 140737488355328 := ⟨by unfold maxLen; omega, by omega⟩

def lastB : Option RP → List UInt8
  | none => []
  | some r => r.bs
theorem src_last {W : World} (o : Option RP) (h : ∀ r, o = some r → BsAt W (some ⟨r.blk, r.off, none⟩) r.bs) : SrcAt W (lastV o) (lastB o).length (bcells (lastB o)) := by
  cases o with
  | none => exact ⟨none, 0, rfl, fun h => absurd h (by simp [lastB])⟩
  | some r => exact ⟨_, _, rfl, fun hp => h r rfl (List.length_pos_iff.1 hp)⟩
theorem src_own {W : World} {e : TypeId} {s : Nat} {v : Value} {n : Nat} {xs : List Value} (h : W.ownsRow 0 e s v n xs) : SrcAt W v n xs := by
  rcases h.2 with ⟨rfl, rfl⟩ | ⟨g, cap, cur, rfl, -⟩
  · exact ⟨none, 0, rfl, fun h => absurd h (by omega)⟩
  · exact ⟨_, _, rfl, fun _ => ⟨_, rfl, fun j u hj => h.cells rfl j u hj⟩⟩
theorem bs_own {W : World} {g n cap : Nat} {l : List UInt8} (h : W.ownsRow 0 5 1 (.slice (some ⟨g, 0, none⟩) n cap) n (bcells l)) : BsAt W (some ⟨g, 0, none⟩) l := fun _ => ⟨_, rfl, fun j u hj => h.cells rfl j u hj⟩

/-- The end of lay: the object, its list and its bytes. -/
theorem lay_done {w w1 w5 w7 : World} {b N : Nat} {a : Option Addr} {c : Nat} {R : List RP} {x : Nat} {l : List UInt8} {T : List RP} {ob : Nat} {v8 v9 : Value} {g cap : Nat} {va : Option Addr} {vn vc : Nat} {q : RP}
    (hR : RObj w b N a c R) (hsep : (pls R).Pairwise (fun a b => a.fin < b.org)) (h0 : 0 < l.length) (hxl : x + l.length ≤ 1073741824) (hTl : T.length ≤ 8388608)
    (hT : T = takenR x (x + l.length) R) (hTk : ∀ r, r ∈ T → PcOk w1 r ∧ ∃ q, q ∈ R ∧ r.blk = q.blk) (hb1 : Below w.heap.size w w1)
    (hq : q = ⟨oatR x T, g, 0, cap, olR x T ++ l ++ lastB (rtR x (x + l.length) T).getLast?⟩) (hqc : q.bs.length ≤ cap)
    (hL : Lays w5 w1.heap.size ob v8 v9 (.slice (some ⟨g, 0, none⟩) q.bs.length cap) (oatR x T) (ahR x T ++ [q]) (bhR x (x + l.length) T) q.bs) (hB5 : Below w1.heap.size w1 w5)
    (hu7 : Upd (fun k => v8.ownBlock = some k) (w5.setCell ⟨b, 0, none⟩ v8) w7) (hv7 : (Value.slice va vn vc).ownBlock = v8.ownBlock ∨ (Value.slice va vn vc).ownBlock = some (w5.setCell ⟨b, 0, none⟩ v8).heap.size)
    (hvn : vn = (ahR x T ++ [q] ++ bhR x (x + l.length) T).length)
    (hr7 : w7.ownsRow 0 59 2 (.slice va vn vc) vn (rcells (ahR x T ++ [q] ++ bhR x (x + l.length) T))) :
    w7.heap[b]? = some (.cells #[v8, .int .i64 N] 53 (0, 0)) ∧ ∃ a' c' R', RObj (w7.setCell ⟨b, 0, none⟩ (.slice va vn vc)) b N a' c' R' ∧ Laid (pls R) (pls R') x l ∧ (∀ k, RFoot b a' R' k → RFoot b a R k ∨ w.heap.size ≤ k) ∧ Upd (fun k => k = b) w (w7.setCell ⟨b, 0, none⟩ (.slice va vn vc)) := by
  have hbw : b < w.heap.size := (Array.getElem?_eq_some_iff.1 hR.obj).1
  have hs1 := hb1.size
  have hs5 := hB5.size
  have hb5 : w5.heap[b]? = some (.cells #[.slice a R.length c, .int .i64 N] 53 (0, 0)) := (hB5.block b (by omega)).trans ((hb1.block b hbw).trans hR.obj)
  have e6 : (w5.setCell ⟨b, 0, none⟩ v8).heap[b]? = some (.cells #[v8, .int .i64 N] 53 (0, 0)) := by
    rw [setCell_eq_setRow w5 b 0 _ _ _ v8 hb5]; exact setRow_heap w5 b _ _ _ _ hb5
  have nb8 : ¬ v8.ownBlock = some b := fun h => by have := (hL.g8 b h).1; omega
  have e7 : w7.heap[b]? = some (.cells #[v8, .int .i64 N] 53 (0, 0)) := (hu7.block b (by simp; omega) nb8).trans e6
  refine ⟨e7, ?_⟩
  obtain ⟨w8, hw8⟩ : ∃ w8, w8 = w7.setCell ⟨b, 0, none⟩ (.slice va vn vc) := ⟨_, rfl⟩
  have e8 : w8.heap[b]? = some (.cells #[.slice va vn vc, .int .i64 N] 53 (0, 0)) := by
    rw [hw8, setCell_eq_setRow w7 b 0 _ _ _ _ e7]; exact setRow_heap w7 b _ _ _ _ e7
  rw [← hw8]
  have u6 : Upd (fun k => k = b) w5 (w5.setCell ⟨b, 0, none⟩ v8) := Upd.setCell (F := fun k => k = b) (p := ⟨b, 0, none⟩) rfl _
  have u8 : Upd (fun k => k = b) w7 w8 := by rw [hw8]; exact Upd.setCell (F := fun k => k = b) (p := ⟨b, 0, none⟩) rfl _
  have s6 : (w5.setCell ⟨b, 0, none⟩ v8).heap.size = w5.heap.size := by simp
  have U1 : Upd (fun k => k = b) w1 w8 := by
    refine ⟨?_, ?_, ?_, ?_, fun k hk hn => ?_⟩
    · rw [u8.os, hu7.os, u6.os, hB5.os]
    · rw [u8.tape, hu7.tape, u6.tape, hB5.tape]
    · rw [u8.output, hu7.output, u6.output, hB5.output]
    · have := u8.size; have := hu7.size; omega
    · rw [u8.block k (by have := hu7.size; omega) hn, hu7.block k (by omega) (fun h => by have := (hL.g8 k h).1; omega), u6.block k (by omega) hn, hB5.block k hk]
  have UW : Upd (fun k => k = b) w w8 := (Upd.of_below hb1).trans U1 (fun _ _ h => h)
  have hTp : pls T = takenP x (x + l.length) (pls R) := by rw [hT, takenR_pls]
  have hne : ∀ d, d ∈ pls R → 0 < d.bs.length := fun d hd => by
    obtain ⟨r, hr, rfl⟩ := List.mem_map.1 hd
    exact (hR.ps.cp r hr).1
  have hLaid : Laid (pls R) (pls (ahR x T ++ [q] ++ bhR x (x + l.length) T)) x l := by
    have e1 : pls (ahR x T ++ [q] ++ bhR x (x + l.length) T) = ahP x (takenP x (x + l.length) (pls R)) ++ [q.pl] ++ bhP x (x + l.length) (takenP x (x + l.length) (pls R)) := by
      rw [← hTp, ← ahR_pls, ← bhR_pls]
      unfold pls
      rw [List.map_append, List.map_append]; rfl
    rw [e1]
    refine lay_laid hsep hne h0 q.pl ?_ ?_
    · rw [← hTp, ← lfR_pls]
      show q.at_ = _
      rw [hq]
      unfold oatR pls
      rw [List.getLast?_map, Option.map_map]; rfl
    · rw [← hTp, ← lfR_pls, ← rtR_pls]
      show q.bs = _
      rw [hq]
      unfold olR pls
      rw [List.flatMap_map, List.getLast?_map, Option.map_map]
      cases (rtR x (x + l.length) T).getLast? <;> rfl
  have hqp : 0 < q.bs.length := by rw [hq]; simp only [List.length_append]; omega
  have hqB8 : w8.ownsRow 0 5 1 (.slice (some ⟨g, 0, none⟩) q.bs.length cap) q.bs.length (bcells q.bs) := by
    have h1 := hL.rB
    have hgB := fun k hk => hL.gB k hk
    refine u8.row (hu7.row (u6.row h1 (fun k hk e => ?_)) (fun k hk e => ?_)) (fun k hk e => ?_)
    · have := (hgB k hk).1; omega
    · exact (hL.g8 k e).2.2.2 hk
    · have := (hgB k hk).1; omega
  have hgw : w1.heap.size ≤ g := (hL.gB g rfl).1
  have hok : ∀ r, r ∈ ahR x T ++ [q] ++ bhR x (x + l.length) T → PcOk w8 r ∧ r.blk ≠ b ∧ (RFoot b a R r.blk ∨ w.heap.size ≤ r.blk) := fun r hr => by
    have hTr : r ∈ T → PcOk w8 r ∧ r.blk ≠ b ∧ (RFoot b a R r.blk ∨ w.heap.size ≤ r.blk) := fun hm => by
      obtain ⟨h1, s, hs, h2⟩ := hTk r hm
      have hnb : r.blk ≠ b := by rw [h2]; exact hR.nb s hs
      exact ⟨⟨h1.bs.upd U1 hnb, h1.ne, h1.cp, h1.le⟩, hnb, .inl (.inr (.inr ⟨s, hs, h2.symm⟩))⟩
    simp only [List.mem_append, List.mem_singleton] at hr
    rcases hr with (hr | rfl) | hr
    · exact hTr (List.mem_filter.1 hr).1
    · refine ⟨⟨?_, hqp, ?_, ?_⟩, ?_, .inr ?_⟩
      · have := bs_own hqB8; rw [hq]; rw [hq] at this; exact this
      · rw [hq]; rw [hq] at hqc; exact hqc
      · have h1 := hLaid.fin r.pl (by unfold pls; rw [List.map_append, List.map_append]; simp)
        have e1 : r.pl.fin = r.at_ + r.bs.length := rfl
        rcases h1 with h1 | ⟨d, hd, h1⟩
        · omega
        · obtain ⟨s, hs, rfl⟩ := List.mem_map.1 hd
          have h2 := hR.ps.le s hs
          have e2 : s.pl.fin = s.at_ + s.bs.length := rfl
          omega
      · rw [hq]; show g ≠ b; omega
      · rw [hq]; show w.heap.size ≤ g; omega
    · exact hTr (List.mem_filter.1 hr).1
  have hr8 : w8.ownsRow 0 59 2 (.slice va vn vc) vn (rcells (ahR x T ++ [q] ++ bhR x (x + l.length) T)) := u8.row hr7 (fun k hk e => by
    subst e
    rcases hv7 with hv | hv
    · rw [hv] at hk; exact nb8 hk
    · rw [hv] at hk; have : (w5.setCell ⟨k, 0, none⟩ v8).heap.size = k := by simpa using hk
      omega)
  have hlen : (ahR x T ++ [q] ++ bhR x (x + l.length) T).length ≤ 1073741824 := by
    have h1 : (ahR x T).length ≤ T.length := List.length_filter_le _ _
    have h2 : (bhR x (x + l.length) T).length ≤ T.length := List.length_filter_le _ _
    simp only [List.length_append, List.length_cons, List.length_nil]
    omega
  subst hvn
  obtain ⟨a', c', e, hps, hba⟩ := ps_row hr8 (fun r hr => (hok r hr).1) hlen
  have hva : ∀ ad, a' = some ad → w1.heap.size ≤ ad.block := fun ad ha => by
    have hk : (Value.slice va (ahR x T ++ [q] ++ bhR x (x + l.length) T).length vc).ownBlock = some ad.block := by
      rw [e, ha]; rcases hr8.2 with ⟨h1, h2⟩ | ⟨g', cap', cur', h1, -⟩
      · simp at h2
      · rw [e, ha] at h1
        injection h1 with h1
        injection h1 with h1
        rw [h1]; rfl
    rcases hv7 with hv | hv
    · rw [hv] at hk; exact (hL.g8 _ hk).1
    · rw [hv] at hk; have : w5.heap.size = ad.block := by simpa using hk
      omega
  refine ⟨a', c', _, ⟨by rw [e8, e], hps, fun r hr => (hok r hr).2.1, fun ad ha => by have := hva ad ha; omega⟩, hLaid, fun k hk => ?_, UW⟩
  rcases hk with rfl | ⟨-, ad, ha, rfl⟩ | ⟨r, hr, rfl⟩
  · exact .inl (.inl rfl)
  · exact .inr (by have := hva ad ha; omega)
  · exact (hok r hr).2.2

end Go.Proofs.Ytkekaljcbmkomaa

namespace Go.Proofs.Ytkekaljcbmkomaa
open Go.RowKit
attribute [local simp] lcells_nil readB_length bcells_length

set_option maxHeartbeats 4000000 in
theorem layRef_walk (b N : Nat) (a : Option Addr) (c : Nat) (R : List RP) (x : Nat) (ba : Option Addr) (l : List UInt8) (bc : Nat) (w : World) (hR : RObj w b N a c R) (hn : R.length ≤ 4194304) (hsep : (pls R).Pairwise (fun a b => a.fin < b.org)) (hh : heldR R ≤ 4194304) (hbs : BsAt w ba l) (h0 : 0 < l.length) (hl : l.length ≤ 4194304) (hxl : x + l.length ≤ 1073741824) :
    Calls Try.prog 25 #[.pointer (some ⟨b, 0, none⟩), .int .i64 x, .slice ba l.length bc] w fun e w' => e = .returned (.tuple #[]) ∧ ∃ a' c' R', RObj w' b N a' c' R' ∧ Laid (pls R) (pls R') x l ∧ (∀ k, RFoot b a' R' k → RFoot b a R k ∨ w.heap.size ≤ k) ∧ Upd (fun k => k = b) w w' := by
  have T1 := takenRef_walk b N a c R x (x + l.length) w hR.ref (by omega) (by omega) hn
  rw [Int.natCast_add] at T1
  have HT1 := aside T1
  have hlz : ¬ ((l.length : Int) = 0) := by omega
  have hlz2 : ¬ (l.length = 0) := by omega
  have HR := aside hR
  have HBS := aside hbs
  clear T1 hR hbs
  go_enter Try.func25, Try.ntmps25
  go_wp2_with fail
  refine HT1.out.mono ?_
  rintro e w1 ⟨v6, rfl, hrow, hb1⟩
  obtain ⟨T, hT⟩ : ∃ T, T = takenR x (x + l.length) R := ⟨_, rfl⟩
  rw [← hT] at hrow
  have hTl : T.length ≤ 8388608 := by have := takenR_len x (x + l.length) R; rw [← hT] at this; omega
  have hTh : heldR T ≤ 4194304 := by have := heldR_taken (x := x) (y := x + l.length) (by omega) R; rw [← hT] at this; omega
  have hTk : ∀ r, r ∈ T → PcOk w1 r ∧ ∃ q, q ∈ R ∧ r.blk = q.blk := fun r hr => by
    obtain ⟨h1, h2⟩ := takenR_ok (x := x) (y := x + l.length) (fun q hq => HR.out.ps.ok hq) (by omega) (hT ▸ hr)
    exact ⟨h1.below hb1, h2⟩
  obtain ⟨aT, cT, rfl, hps, haT⟩ := ps_row hrow (fun r hr => (hTk r hr).1) (by omega)
  have HTE := aside hT
  have HPS := aside hps
  have HTK := aside hTk
  have HAT := aside haT
  have HB1 := aside hb1
  have hsz1 := hb1.size
  clear hT hrow hTk hps haT hb1
  go_wp2_with fail
  go_loopw [8, 9, 10, 11] (fun s8 s9 s10 s11 wr => ∃ (k : Nat) (vB : Value), k ≤ T.length ∧ s11 = .int .i64 k ∧ s10 = lastV (rtR x (x + l.length) (T.take k)).getLast? ∧ Aside (Lays wr w1.heap.size w1.heap.size s8 s9 vB (oatR x (T.take k)) (ahR x (T.take k)) (bhR x (x + l.length) (T.take k)) (olR x (T.take k))) ∧ Aside (Below w1.heap.size w1 wr)) (fun _ _ _ s11 _ => T.length - (intOf s11).toNat)
  case atStart =>
    refine ⟨0, .slice none 0 0, Nat.zero_le _, rfl, rfl, ?_, below_al w1 _⟩
    exact ⟨World.ownsRow_nil _ _ _ _, World.ownsRow_nil _ _ _ _, World.ownsRow_nil _ _ _ _, heap_alloc_new w1 _, by simp [Value.ownBlock], by simp [Value.ownBlock], by simp [Value.ownBlock]⟩
  case round =>
    obtain ⟨k, vB, hk, rfl, rfl, hLy, hB⟩ := hrel
    have HPr := aside (HPS.out.below hB.out)
    have hLO := aside hLy.out.ow
    by_cases h1 : k < T.length
    · have t1 : (k : Int) < (T.length : Int) := by omega
      have hkm : T[k]? = some T[k] := List.getElem?_eq_getElem h1
      have hrk := HTK.out T[k] (List.getElem_mem h1)
      obtain ⟨blk, off, rfl, hrd⟩ := HPr.out.rd (by intro h; simp [h] at h1)
      obtain ⟨r0, r1⟩ := hrd k _ hkm
      clear hrd
      have TS := aside (take_snoc hkm)
      have hol := Nat.le_trans (olR_len x (T.take k)) (heldR_take_le T k)
      have hal : (ahR x (T.take k)).length ≤ k := Nat.le_trans (filter_len _ _) (by simp; omega)
      have hbl : (bhR x (x + l.length) (T.take k)).length ≤ k := Nat.le_trans (filter_len _ _) (by simp; omega)
      have hbt : T[k].bs.length ≤ 4194304 := by have := heldR_take hkm; have := heldR_take_le T (k + 1); omega
      clear hkm
      generalize T[k] = r at *
      have hle := hrk.1.le
      have hne := hrk.1.ne
      have HRK := aside hrk
      clear hrk
      have EN := aside (fun W => end_any r.at_ r.bs.length (some ⟨r.blk, r.off, none⟩) r.c W (by omega))
      go_wp2_with fail
      refine (EN.out _).mono ?_
      rintro e w2 ⟨rfl, hb2⟩
      have al := below_al wr (.cells #[.int .i64 r.at_, .slice (some ⟨r.blk, r.off, none⟩) r.bs.length r.c] 59)
      have hw2 := below_tr al hb2
      have bx : w2.heap[wr.heap.size]? = some (.cells #[.int .i64 r.at_, .slice (some ⟨r.blk, r.off, none⟩) r.bs.length r.c] 59 (0, 0)) := (hb2.block _ (by simp)).trans (heap_alloc_new wr _)
      have BX := aside bx
      have p0 : w2.cell? ⟨wr.heap.size, 0, none⟩ = some (.int .i64 r.at_) := by rw [cell_of_row _ _ 0 _ _ _ bx]; rfl
      have p1 : w2.cell? ⟨wr.heap.size, 1, none⟩ = some (.slice (some ⟨r.blk, r.off, none⟩) r.bs.length r.c) := by rw [cell_of_row _ _ 1 _ _ _ bx]; rfl
      have LY := aside (hLy.out.below hw2)
      have B2 := aside (hB.out.trans (hw2.mono hB.out.size))
      have hs2 := B2.out.size
      have wrs := hw2.size
      clear al hb2 hw2 bx r0 r1 hLy
      by_cases c1 : r.at_ + r.bs.length < x
      · have t2 : ((r.at_ + r.bs.length : Nat) : Int) < (x : Int) := by omega
        obtain ⟨e1, e2, e3, e4⟩ := parts_ah (x := x) (y := x + l.length) (T := T.take k) c1
        rw [← TS.out] at e1 e2 e3 e4
        have E := aside (And.intro e1 (And.intro e2 (And.intro e3 e4)))
        have RM := aside (room_row (n := (ahR x (T.take k)).length) (m := 1) (by omega))
        have L8 := aside ((LY.out.below (below_al w2 (.cells #[.int .i64 r.at_, .slice (some ⟨r.blk, r.off, none⟩) r.bs.length r.c] 59))).r8)
        clear e1 e2 e3 e4
        go_wp2_with (at_builtin; refine wpList_append_any _ rfl _ _ 51 rfl 59 (.agg #[.int .i64 0, .slice none 0 0]) 2 32 Try.underlying51 info59 rfl (by decide) u8 _ (rcells (ahR x (T.take k))) rfl L8.out _ 1 (rcells [r]) rfl rfl (src_one r) (rcells_one _) RM.out.1 RM.out.2 ?_; intro v' w4 ho hu hv)
        have LZ := LY.out.below (below_al w2 (.cells #[.int .i64 r.at_, .slice (some ⟨r.blk, r.off, none⟩) r.bs.length r.c] 59))
        have B3 := hB
        have R8 := aside (LZ.app8 (A' := ahR x (T.take k) ++ [r]) (by simp; omega) (by rw [List.length_append, rcells_append]; exact ho) hu hv)
        have B4 : Aside (Below w1.heap.size w1 w4) := (B2.out.trans ((below_al w2 _).mono hs2)).trans (hu.below (by simp; omega) (fun q hq => (LZ.g8 q hq).1))
        clear ho hu hv LZ B3
        go_roundw
        case rel =>
          refine ⟨k + 1, vB, by omega, by go_num, by rw [E.out.2.2.1], ?_, B4⟩
          rw [E.out.1, E.out.2.2.2, (oatR_id E.out.2.1).1, (oatR_id E.out.2.1).2]
          exact R8
        case measure => simp [intOf]; omega
      · have t2 : ¬ (((r.at_ + r.bs.length : Nat) : Int) < (x : Int)) := by omega
        go_wp2_with fail
        refine (EN.out _).mono ?_
        rintro e w3 ⟨rfl, hb3⟩
        have p0' : w3.cell? ⟨wr.heap.size, 0, none⟩ = some (.int .i64 r.at_) := (hb3.cell (World.block_lt_of_cell? w2 _ p0)).trans p0
        have p1' : w3.cell? ⟨wr.heap.size, 1, none⟩ = some (.slice (some ⟨r.blk, r.off, none⟩) r.bs.length r.c) := (hb3.cell (World.block_lt_of_cell? w2 _ p1)).trans p1
        have LY3 := aside (LY.out.below hb3)
        have B3 := aside (B2.out.trans (hb3.mono hs2))
        have hs3 := B3.out.size
        have hpo : wr.heap.size ≠ w1.heap.size := by have := (Array.getElem?_eq_some_iff.1 hLO.out).1; omega
        clear hb3 p0 p1 LY B2
        by_cases c2 : r.at_ + r.bs.length = x
        · have t3 : ((r.at_ + r.bs.length : Nat) : Int) = (x : Int) := by omega
          obtain ⟨e1, e2, e3, e4⟩ := parts_lf (x := x) (y := x + l.length) (T := T.take k) c2
          rw [← TS.out] at e1 e2 e3 e4
          have E := aside (And.intro e1 (And.intro e2 (And.intro e3 e4)))
          clear e1 e2 e3 e4
          have LA := aside (LY3.out.at_ (n := r.at_))
          obtain ⟨q0, q1, f0, f1⟩ := LY3.out.cells
          obtain ⟨s0, s1, g0, g1⟩ := LA.out.cells
          have U3 : Upd (fun k => k = w1.heap.size) w3 (w3.setCell ⟨w1.heap.size, 0, none⟩ (.int .i64 r.at_)) := Upd.setCell (F := fun k => k = w1.heap.size) (p := ⟨w1.heap.size, 0, none⟩) rfl _
          have p2 : (w3.setCell ⟨w1.heap.size, 0, none⟩ (.int .i64 r.at_)).cell? ⟨wr.heap.size, 1, none⟩ = some (.slice (some ⟨r.blk, r.off, none⟩) r.bs.length r.c) := by
            rw [World.cell?_of_block (U3.block _ (World.block_lt_of_cell? w3 _ p1') hpo)]; exact p1'
          have BA : Aside (Below w1.heap.size w1 (w3.setCell ⟨w1.heap.size, 0, none⟩ (.int .i64 r.at_))) := B3.out.trans (U3.below hs3 (fun q hq => by omega))
          have SR : Aside (SrcAt (w3.setCell ⟨w1.heap.size, 0, none⟩ (.int .i64 r.at_)) (.slice (some ⟨r.blk, r.off, none⟩) r.bs.length r.c) r.bs.length (bcells r.bs)) := ⟨_, _, rfl, fun _ => (HRK.out.1.bs.below BA.out) (List.length_pos_iff.1 hne)⟩
          have RM := aside (room_bytes (n := (olR x (T.take k)).length) (m := r.bs.length) (by omega))
          have hll := aside (show (bcells r.bs).length = r.bs.length * 1 by simp)
          have hbsz : w1.heap.size ≤ (w3.setCell ⟨w1.heap.size, 0, none⟩ (.int .i64 r.at_)).heap.size := by simp; omega
          have LB := aside LA.out.rB
          clear U3 hs3
          go_upto_region 15 with fail
          generalize w3.setCell ⟨w1.heap.size, 0, none⟩ (.int .i64 r.at_) = wA at *
          go_wp2_with (first
            | (at_builtin; refine wpList_append_any _ rfl _ _ 22 rfl 5 (.int .u8 0) 1 1 Try.underlying22 info5 rfl (by decide) vB _ (bcells (olR x (T.take k))) rfl LB.out _ r.bs.length (bcells r.bs) rfl hll.out SR.out (bcells_one _) RM.out.1 RM.out.2 ?_; intro v' w4 ho hu hv; obtain ⟨ga, gc, rfl, -⟩ := own_slice ho; obtain ⟨ob4, LC⟩ := LA.out.appB (oL' := olR x (T.take k) ++ r.bs) hbsz (by rw [List.length_append, show bcells (olR x (T.take k) ++ r.bs) = bcells (olR x (T.take k)) ++ bcells r.bs by simp [bcells]]; exact ho) hu hv; have z1 : w4.cell? ⟨w1.heap.size, 1, none⟩ = some vB := (by rw [cell_of_row w4 _ _ _ _ _ ob4]; rfl); have z2 : w4.frozen? ⟨w1.heap.size, 1, none⟩ = false := frozen_of_row w4 _ 1 _ _ ob4; have LC := aside LC; have BU : Aside (Below w1.heap.size w1 (w4.setCell ⟨w1.heap.size, 1, none⟩ (.slice ga ((olR x (T.take k)).length + r.bs.length) gc))) := ((BA.out.trans (hu.below hbsz (fun q hq => (LA.out.gB q hq).1))).trans ((Upd.setCell (F := fun k => k = w1.heap.size) (p := ⟨w1.heap.size, 1, none⟩) (w := w4) rfl _).below (Nat.le_trans hbsz hu.size) (fun q hq => by omega))); clear ho hu hv ob4))
          go_roundw
          case rel =>
            refine ⟨k + 1, .slice ga ((olR x (T.take k)).length + r.bs.length) gc, by omega, by go_num, by rw [E.out.2.2.1], ?_, BU⟩
            rw [E.out.1, E.out.2.2.2, (oatR_lf E.out.2.1).1, (oatR_lf E.out.2.1).2]
            exact LC
          case measure => simp [intOf]; omega
        · have t3 : ¬ (((r.at_ + r.bs.length : Nat) : Int) = (x : Int)) := by omega
          by_cases c3 : r.at_ = x + l.length
          · have t4 : (r.at_ : Int) = (x : Int) + (l.length : Int) := by omega
            obtain ⟨e1, e2, e3, e4⟩ := parts_rt (x := x) (y := x + l.length) (T := T.take k) (r := r) (by omega) c3
            rw [← TS.out] at e1 e2 e3 e4
            have E := aside (And.intro e1 (And.intro e2 (And.intro e3 e4)))
            clear e1 e2 e3 e4
            have hE3 := aside (show lastV (rtR x (x + l.length) (T.take (k + 1))).getLast? = .slice (some ⟨r.blk, r.off, none⟩) r.bs.length r.c by rw [E.out.2.2.1]; simp [lastV])
            go_wp2_with fail
            go_roundw
            case rel =>
              refine ⟨k + 1, vB, by omega, by go_num, by rw [hE3.out], ?_, B3⟩
              rw [E.out.1, E.out.2.2.2, (oatR_id E.out.2.1).1, (oatR_id E.out.2.1).2]
              exact LY3
            case measure => simp [intOf]; omega
          · have t4 : ¬ ((r.at_ : Int) = (x : Int) + (l.length : Int)) := by omega
            obtain ⟨e1, e2, e3, e4⟩ := parts_bh (x := x) (y := x + l.length) (T := T.take k) (r := r) (by omega) c3
            rw [← TS.out] at e1 e2 e3 e4
            have E := aside (And.intro e1 (And.intro e2 (And.intro e3 e4)))
            have RM := aside (room_row (n := (bhR x (x + l.length) (T.take k)).length) (m := 1) (by omega))
            have L9 := aside ((LY3.out.below (below_al w3 (.cells #[.int .i64 r.at_, .slice (some ⟨r.blk, r.off, none⟩) r.bs.length r.c] 59))).r9)
            clear e1 e2 e3 e4
            go_wp2_with (at_builtin; refine wpList_append_any _ rfl _ _ 51 rfl 59 (.agg #[.int .i64 0, .slice none 0 0]) 2 32 Try.underlying51 info59 rfl (by decide) u9 _ (rcells (bhR x (x + l.length) (T.take k))) rfl L9.out _ 1 (rcells [r]) rfl rfl (src_one r) (rcells_one _) RM.out.1 RM.out.2 ?_; intro v' w4 ho hu hv)
            have LZ := LY3.out.below (below_al w3 (.cells #[.int .i64 r.at_, .slice (some ⟨r.blk, r.off, none⟩) r.bs.length r.c] 59))
            have R9 := aside (LZ.app9 (C' := bhR x (x + l.length) (T.take k) ++ [r]) (by simp; omega) (by rw [List.length_append, rcells_append]; exact ho) hu hv)
            have B4 : Aside (Below w1.heap.size w1 w4) := (B3.out.trans ((below_al w3 _).mono hs3)).trans (hu.below (by simp; omega) (fun q hq => (LZ.g9 q hq).1))
            clear ho hu hv LZ
            go_roundw
            case rel =>
              refine ⟨k + 1, vB, by omega, by go_num, by rw [E.out.2.2.1], ?_, B4⟩
              rw [E.out.1, E.out.2.2.2, (oatR_id E.out.2.1).1, (oatR_id E.out.2.1).2]
              exact R9
            case measure => simp [intOf]; omega
    · obtain rfl : k = T.length := by omega
      have t1 : ¬ ((T.length : Int) < (T.length : Int)) := by omega
      rw [List.take_length] at hLy
      rw [List.take_length]
      have hs := hB.out.size
      have hol := olR_len x T
      have hal : (ahR x T).length ≤ T.length := filter_len _ _
      have hbl : (bhR x (x + l.length) T).length ≤ T.length := filter_len _ _
      obtain ⟨o, ho'⟩ : ∃ o, o = (rtR x (x + l.length) T).getLast? := ⟨_, rfl⟩
      have hom : ∀ r, o = some r → r ∈ T := fun r hr => by
        have : r ∈ rtR x (x + l.length) T := List.mem_of_getLast? (by rw [← ho', hr])
        exact (List.mem_filter.1 this).1
      have hlb : (lastB o).length ≤ 4194304 := by
        cases o with
        | none => simp [lastB]
        | some r =>
          obtain ⟨j, hj⟩ := List.mem_iff_getElem?.1 (hom r rfl)
          have := heldR_take hj
          have := heldR_take_le T (j + 1)
          show r.bs.length ≤ 4194304
          omega
      rw [← ho']
      have HO := aside ho'
      have HOM := aside hom
      clear ho' hom
      obtain ⟨q0, q1, f0, f1⟩ := hLy.out.cells
      have SR : Aside (SrcAt wr (.slice ba l.length bc) l.length (bcells l)) := ⟨_, _, rfl, fun hp => (HBS.out.below (HB1.out.trans (hB.out.mono hsz1))) (List.length_pos_iff.1 hp)⟩
      have RM := aside (room_bytes (n := (olR x T).length) (m := l.length) (by omega))
      have hll := aside (show (bcells l).length = l.length * 1 by simp)
      have LB := aside hLy.out.rB
      go_wp2_with (at_builtin; refine wpList_append_any _ rfl _ _ 22 rfl 5 (.int .u8 0) 1 1 Try.underlying22 info5 rfl (by decide) vB _ (bcells (olR x T)) rfl LB.out _ l.length (bcells l) rfl hll.out SR.out (bcells_one _) RM.out.1 RM.out.2 ?_)
      intro v' w4 ho hu hv
      obtain ⟨ga, gc, rfl, -⟩ := own_slice ho
      obtain ⟨ob4, LC⟩ := hLy.out.appB (oL' := olR x T ++ l) hs (by rw [List.length_append, show bcells (olR x T ++ l) = bcells (olR x T) ++ bcells l by simp [bcells]]; exact ho) hu hv
      have z1 : w4.cell? ⟨w1.heap.size, 1, none⟩ = some vB := by rw [cell_of_row w4 _ _ _ _ _ ob4]; rfl
      have z2 : w4.frozen? ⟨w1.heap.size, 1, none⟩ = false := frozen_of_row w4 _ 1 _ _ ob4
      have BC : Aside (Below w1.heap.size w1 (w4.setCell ⟨w1.heap.size, 1, none⟩ (.slice ga ((olR x T).length + l.length) gc))) := (hB.out.trans (hu.below hs (fun q hq => (hLy.out.gB q hq).1))).trans ((Upd.setCell (F := fun k => k = w1.heap.size) (p := ⟨w1.heap.size, 1, none⟩) (w := w4) rfl _).below (Nat.le_trans hs hu.size) (fun q hq => by omega))
      have LC := aside LC
      obtain ⟨-, y1, -, -⟩ := LC.out.cells
      have SR2 := aside (src_last (W := w4.setCell ⟨w1.heap.size, 1, none⟩ (.slice ga ((olR x T).length + l.length) gc)) o (fun r hr => (HTK.out r (HOM.out r hr)).1.bs.below BC.out))
      have RM2 := aside (room_bytes (n := (olR x T ++ l).length) (m := (lastB o).length) (by rw [List.length_append]; omega))
      have hll2 := aside (show (bcells (lastB o)).length = (lastB o).length * 1 by simp)
      have LB2 := aside LC.out.rB
      have hs4 := BC.out.size
      clear ho hu hv ob4 q0 q1 f0 f1 SR RM hll LB hLy hB hLO
      go_wp2_with (at_builtin; refine wpList_append_any _ rfl _ _ 22 rfl 5 (.int .u8 0) 1 1 Try.underlying22 info5 rfl (by decide) _ _ (bcells (olR x T ++ l)) rfl LB2.out _ (lastB o).length (bcells (lastB o)) rfl hll2.out SR2.out (bcells_one _) RM2.out.1 RM2.out.2 ?_)
      intro v' w5 ho hu hv
      rcases ho.2 with ⟨-, hz⟩ | ⟨g, cap, cur, rfl, -, -, hnc, -⟩
      · omega
      obtain ⟨q, hq⟩ : ∃ q : RP, q = ⟨oatR x T, g, 0, cap, olR x T ++ l ++ lastB o⟩ := ⟨_, rfl⟩
      have hqb : olR x T ++ l ++ lastB o = q.bs := by rw [hq]
      have hql : (olR x T).length + l.length + (lastB o).length = q.bs.length := by rw [← hqb, List.length_append, List.length_append]
      rw [hql] at ho hv hnc ⊢
      rw [show bcells (olR x T ++ l) ++ bcells (lastB o) = bcells q.bs by rw [← hqb]; simp [bcells]] at ho
      obtain ⟨ob5, LD⟩ := LC.out.appB (oL' := q.bs) hs4 ho hu (hv.imp id (fun h => h.trans (by simp)))
      have z3 : w5.cell? ⟨w1.heap.size, 1, none⟩ = some (.slice ga ((olR x T).length + l.length) gc) := by rw [cell_of_row w5 _ _ _ _ _ ob5]; rfl
      have z4 : w5.frozen? ⟨w1.heap.size, 1, none⟩ = false := frozen_of_row w5 _ 1 _ _ ob5
      have BD : Aside (Below w1.heap.size w1 (w5.setCell ⟨w1.heap.size, 1, none⟩ (.slice (some ⟨g, 0, none⟩) q.bs.length cap))) := (BC.out.trans (hu.below hs4 (fun q hq => (LC.out.gB q hq).1))).trans ((Upd.setCell (F := fun k => k = w1.heap.size) (p := ⟨w1.heap.size, 1, none⟩) (w := w5) rfl _).below (Nat.le_trans hs4 hu.size) (fun q hq => by omega))
      have LD := aside LD
      have HQ := aside hq
      clear ho hu hv ob5 y1 z1 z2 SR2 RM2 hll2 LB2 LC BC hs4 hqb hql hq cur
      have hs5 := BD.out.size
      obtain ⟨W6, hW6⟩ : ∃ W6, W6 = w5.setCell ⟨w1.heap.size, 1, none⟩ (.slice (some ⟨g, 0, none⟩) q.bs.length cap) := ⟨_, rfl⟩
      rw [← hW6] at LD BD hs5
      obtain ⟨y0, y1, -, -⟩ := LD.out.cells
      have hbw : b < w.heap.size := (Array.getElem?_eq_some_iff.1 HR.out.obj).1
      have RM := aside (room_row (n := (ahR x T).length) (m := 1) (by omega))
      have al := below_al W6 (.cells #[.int .i64 (oatR x T), .slice (some ⟨g, 0, none⟩) q.bs.length cap] 59)
      have LE := aside (LD.out.below al)
      have L8 := aside LE.out.r8
      have BE := aside (BD.out.trans (al.mono hs5))
      have SQ : Aside (SrcAt (W6.alloc (.cells #[.int .i64 (oatR x T), .slice (some ⟨g, 0, none⟩) q.bs.length cap] 59)) (.slice (some ⟨W6.heap.size, 0, none⟩) 1 1) 1 (rcells [q])) := by
        have := src_one (W := W6) q
        rw [HQ.out] at this ⊢
        exact this
      have HOB : Aside (∀ V, Below w1.heap.size w1 V → V.heap[b]? = some (.cells #[.slice a R.length c, .int .i64 N] 53 (0, 0))) := fun V hV => (hV.block b (by omega)).trans ((HB1.out.block b hbw).trans HR.out.obj)
      clear al LD BD
      go_upto_region 20 with fail
      rw [← hW6]
      clear hW6 z3 z4
      go_wp2_with (at_builtin; refine wpList_append_any _ rfl _ _ 51 rfl 59 (.agg #[.int .i64 0, .slice none 0 0]) 2 32 Try.underlying51 info59 rfl (by decide) u8 _ (rcells (ahR x T)) rfl L8.out _ 1 (rcells [q]) rfl rfl SQ.out (rcells_one _) RM.out.1 RM.out.2 ?_)
      intro v' w7 ho hu hv
      obtain ⟨ha, hc, rfl, -⟩ := own_slice ho
      have hsE := BE.out.size
      have LF := LE.out.app8 (A' := ahR x T ++ [q]) hsE (by rw [List.length_append, rcells_append]; exact ho) hu (hv.imp id (fun h => h.trans (by simp)))
      have BF := BE.out.trans (hu.below hsE (fun k hk => (LE.out.g8 k hk).1))
      have ob7 := HOB.out w7 BF
      have c7 : w7.cell? ⟨b, 0, none⟩ = some (.slice a R.length c) := by rw [cell_of_row w7 _ _ _ _ _ ob7]; rfl
      have f7 : w7.frozen? ⟨b, 0, none⟩ = false := frozen_of_row w7 _ 0 _ _ ob7
      have u8' : Upd (fun k => k = b) w7 (w7.setCell ⟨b, 0, none⟩ (.slice ha ((ahR x T).length + 1) hc)) := Upd.setCell (F := fun k => k = b) (p := ⟨b, 0, none⟩) rfl _
      have r8' := u8'.row LF.r8 (fun k hk e => by have := (LF.g8 k hk).1; omega)
      have r9' := u8'.row LF.r9 (fun k hk e => by have := (LF.g9 k hk).1; omega)
      have c8 : (w7.setCell ⟨b, 0, none⟩ (.slice ha ((ahR x T).length + 1) hc)).cell? ⟨b, 0, none⟩ = some (.slice ha ((ahR x T).length + 1) hc) := by
        rw [setCell_eq_setRow w7 b 0 _ _ _ _ ob7, cell_of_row _ _ _ _ _ _ (setRow_heap w7 b _ _ _ _ ob7)]; rfl
      have SC := aside (src_own r9')
      have RM9 := aside (room_row (n := (ahR x T ++ [q]).length) (m := (bhR x (x + l.length) T).length) (by simp only [List.length_append, List.length_cons, List.length_nil]; omega))
      have R8 := aside r8'
      have LF := aside LF
      have BF := aside BF
      have hrl := aside (rcells_length (bhR x (x + l.length) T))
      clear ho hu hv ob7 u8' r8' r9' RM L8 SQ LE BE y0 y1
      go_wp2_with (at_builtin; refine wpList_append_any _ rfl _ _ 51 rfl 59 (.agg #[.int .i64 0, .slice none 0 0]) 2 32 Try.underlying51 info59 rfl (by decide) _ _ (rcells (ahR x T ++ [q])) rfl R8.out _ (bhR x (x + l.length) T).length (rcells (bhR x (x + l.length) T)) rfl hrl.out SC.out (rcells_one _) RM9.out.1 RM9.out.2 ?_)
      intro v' w9 ho hu hv
      obtain ⟨ka, kc, rfl, -⟩ := own_slice ho
      have DN := lay_done (q := q) HR.out hsep h0 hxl hTl HTE.out HTK.out HB1.out (by rw [HQ.out, HO.out]) hnc LF.out BF.out hu (hv.imp id (fun h => h.trans (by simp))) (by simp only [List.length_append, List.length_cons, List.length_nil]) (by rw [rcells_append]; exact ho)
      have ob9 := DN.1
      have c9 : w9.cell? ⟨b, 0, none⟩ = some (.slice ha ((ahR x T).length + 1) hc) := by rw [cell_of_row w9 _ _ _ _ _ ob9]; rfl
      have f9 : w9.frozen? ⟨b, 0, none⟩ = false := frozen_of_row w9 _ 0 _ _ ob9
      have DN := aside DN.2
      clear ho hu hv ob9 c7 f7 c8
      go_wp2_with fail
      go_end0
      exact ⟨rfl, DN.out⟩
end Go.Proofs.Ytkekaljcbmkomaa
