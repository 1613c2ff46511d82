/- The document's own Unpack. -/
import Derived.Test.YtlcglnagekmogaaRefPack
import Derived.Test.YtlcglnagekmogaaWholeW
namespace Go.Proofs.Ytlcglnagekmogaa
open Go.RowKit
attribute [local simp] lcells_nil readB_length bcells_length
set_option maxRecDepth 20000

theorem cpy_snoc (d k : Nat) (out : List UInt8) : cpy d (k + 1) out = cpy d k out ++ [(cpy d k out).getD ((cpy d k out).length - d) 0] := by
  rw [cpy_add]; rfl
theorem drop_at {l : List UInt8} {i : Nat} {x : UInt8} (h : l[i]? = some x) : l.drop i = x :: l.drop (i + 1) := by
  obtain ⟨h1, rfl⟩ := List.getElem?_eq_some_iff.1 h
  exact List.drop_eq_getElem_cons h1

/-- What the document's Unpack answers. -/
def RUnR (w' : World) (u : Un) (e : Ending) : Prop := ∃ a' c', e = .returned (.tuple #[.slice a' u.bs.length c', .int .i64 u.err]) ∧ BsAt w' a' u.bs

set_option maxHeartbeats 8000000 in
theorem refUnpack_any (a : Option Addr) (l : List UInt8) (c : Nat) (w : World) (h : BsAt w a l) (hlc : l.length ≤ c) (hl : l.length ≤ 1048576) :
    Calls Try.prog 15 #[.slice a l.length c] w fun e w' => RUnR w' (unp l) e ∧ Below w.heap.size w w' := by
  by_cases h4 : l.length < 4
  · have t1 : (l.length : Int) < 4 := by omega
    have HU : Aside (unp l = .pack) := by unfold unp; rw [if_pos h4]; exact aside rfl
    go_enter Try.func15, Try.ntmps15
    go_wp2_with fail
    go_ret2
    rw [HU.out]
    exact ⟨⟨none, 0, rfl, fun h => absurd rfl h⟩, Below.refl _ _⟩
  · have t1 : ¬ ((l.length : Int) < 4) := by omega
    obtain ⟨g, o, rfl, hc⟩ := bs_plain h (fun h0 => by rw [h0] at h4; simp at h4)
    obtain ⟨x0, e0⟩ : ∃ x, l[0]? = some x := ⟨_, List.getElem?_eq_getElem (by omega)⟩
    obtain ⟨x1, e1⟩ : ∃ x, l[1]? = some x := ⟨_, List.getElem?_eq_getElem (by omega)⟩
    obtain ⟨x2, e2⟩ : ∃ x, l[2]? = some x := ⟨_, List.getElem?_eq_getElem (by omega)⟩
    obtain ⟨x3, e3⟩ : ∃ x, l[3]? = some x := ⟨_, List.getElem?_eq_getElem (by omega)⟩
    have q0 : ∀ d os, (ext w d os).cell? ⟨g, o, none⟩ = some (.int .u8 (x0.toNat : Nat)) := fun d os => ext_cell (hc 0 _ e0) d os
    have q1 : ∀ d os, (ext w d os).cell? ⟨g, o + 1, none⟩ = some (.int .u8 (x1.toNat : Nat)) := fun d os => ext_cell (hc 1 _ e1) d os
    have q2 : ∀ d os, (ext w d os).cell? ⟨g, o + 2, none⟩ = some (.int .u8 (x2.toNat : Nat)) := fun d os => ext_cell (hc 2 _ e2) d os
    have q3 : ∀ d os, (ext w d os).cell? ⟨g, o + 3, none⟩ = some (.int .u8 (x3.toNat : Nat)) := fun d os => ext_cell (hc 3 _ e3) d os
    have hh : hd l = x0.toNat * 16777216 + x1.toNat * 65536 + x2.toNat * 256 + x3.toNat := by
      unfold hd; simp only [List.getD_eq_getElem?_getD, e0, e1, e2, e3, Option.getD_some]
    have b0 := byte_lt x0
    have b1 := byte_lt x1
    have b2 := byte_lt x2
    have b3 := byte_lt x3
    obtain ⟨n, hn⟩ : ∃ n, n = hd l := ⟨_, rfl⟩
    have hsum : (x0.toNat : Int) * 16777216 + (x1.toNat : Int) * 65536 + (x2.toNat : Int) * 256 + (x3.toNat : Int) = (n : Int) := by omega
    have hnl : n < 4294967296 := by omega
    have u0 : (0 : Int) < (l.length : Int) := by omega
    have u1 : (1 : Int) < (l.length : Int) := by omega
    have u2 : (2 : Int) < (l.length : Int) := by omega
    have u3 : (3 : Int) < (l.length : Int) := by omega
    have HC := aside hc
    have HBS := aside h
    have HH := aside hn
    clear hh hc h e0 e1 e2 e3 hn
    go_enter Try.func15, Try.ntmps15
    go_wp2_with fail
    refine region_ext (by kernel_rfl) (by kernel_rfl) ?_
    repeat (any_goals (first | go_big_quiet_step ((fail)) | quiet_step ((fail))))
    refine wpQuiet_nil ?_
    intro wq hq
    have HBq := aside hq
    clear hq q0 q1 q2 q3 u0 u1 u2 u3 b0 b1 b2 b3
    by_cases h5 : 65536 < n
    · have t2 : (65536 : Int) < (n : Int) := by omega
      have HU : Aside (unp l = .long) := by unfold unp; rw [if_neg h4, if_pos (by rw [← HH.out]; exact h5)]; exact aside rfl
      go_wp2_with fail
      go_ret2
      rw [HU.out]
      exact ⟨⟨none, 0, rfl, fun h => absurd rfl h⟩, HBq.out⟩
    · have t2 : ¬ ((65536 : Int) < (n : Int)) := by omega
      have HU : Aside (unp l = match unpk n [] (l.drop 4) with | some l => .ok l | none => .pack) := by unfold unp; rw [if_neg h4, ← HH.out, if_neg h5]; exact aside rfl
      have HG0 : Aside (Grw w wq (.slice none 0 0) []) := ⟨own_none wq, HBq.out, fun k hk => by simp [Value.ownBlock] at hk⟩
      clear hsum HH
      go_wp2_with fail
      have HGI := HG0
      go_loopg [5, 6] l.length (fun G s5 s6 wr => ∃ (told : List UInt8) (ao : Option Addr) (co i p : Nat), 4 ≤ i ∧ i ≤ l.length ∧ l.length - i ≤ G ∧ p ≤ n ∧ s5 = .slice ao p co ∧ s6 = .int .i64 (i : Int) ∧ Aside (told.length = p) ∧ Aside (Grw w wr (.slice ao p co) told) ∧ Aside (unpk n told (l.drop i) = unpk n [] (l.drop 4)))
      case atStart => exact ⟨[], none, 0, 4, 0, by omega, by omega, by omega, by omega, rfl, rfl, aside rfl, HGI, aside rfl⟩
      case round =>
        obtain ⟨told, ao, co, i, p, hi4, hil, hG, hpn, rfl, rfl, hT, hO, hE⟩ := hrel
        by_cases hlt : i < l.length
        · have t3 : (i : Int) < (l.length : Int) := by omega
          obtain ⟨G, hGg⟩ : ∃ G, gk = G + 1 := ⟨gk - 1, by omega⟩
          obtain ⟨c0, hc0⟩ : ∃ x, l[i]? = some x := ⟨_, List.getElem?_eq_getElem hlt⟩
          have hdr := drop_at hc0
          have hE1 := hE.out
          rw [hdr] at hE1
          have z0 : wr.cell? ⟨g, o + i, none⟩ = some (.int .u8 (c0.toNat : Nat)) := (hO.out.below.cell (World.block_lt_of_cell? w _ (HC.out i c0 hc0))).trans (HC.out i c0 hc0)
          have hb0 := byte_lt c0
          have hl1 : (l.drop (i + 1)).length = l.length - (i + 1) := List.length_drop
          generalize hx0 : c0.toNat = x at *
          by_cases h1 : x < 128
          · have t4 : (x : Int) < 128 := by omega
            rw [unpk_run n told c0 _ (by omega), hx0] at hE1
            by_cases h2 : (l.drop (i + 1)).length < x + 1 ∨ n - told.length < x + 1
            · rw [if_pos h2] at hE1
              have HN : Aside (unp l = .pack) := by rw [HU.out, ← hE1]; exact aside rfl
              rw [hl1, hT.out] at h2
              have HBW := aside hO.out.below
              clear hE1 hdr hO
              by_cases h3 : l.length - (i + 1) < x + 1
              · have t5 : (l.length : Int) - ((i : Int) + 1) < (x : Int) + 1 := by omega
                go_wp2_with fail
                go_ret2
                rw [HN.out]
                exact ⟨⟨none, 0, rfl, fun h => absurd rfl h⟩, HBW.out⟩
              · have t5 : ¬ ((l.length : Int) - ((i : Int) + 1) < (x : Int) + 1) := by omega
                have t6 : (n : Int) - (p : Int) < (x : Int) + 1 := by omega
                go_wp2_with fail
                go_ret2
                rw [HN.out]
                exact ⟨⟨none, 0, rfl, fun h => absurd rfl h⟩, HBW.out⟩
            · rw [if_neg h2] at hE1
              rw [hl1, hT.out] at h2
              have t5 : ¬ ((l.length : Int) - ((i : Int) + 1) < (x : Int) + 1) := by omega
              have t6 : ¬ ((n : Int) - (p : Int) < (x : Int) + 1) := by omega
              obtain ⟨i1, hi1⟩ : ∃ i1, i1 = i + 1 := ⟨_, rfl⟩
              obtain ⟨i2, hi2⟩ : ∃ i2, i2 = i + 1 + x + 1 := ⟨_, rfl⟩
              have hI1 : (i : Int) + 1 = (i1 : Int) := by omega
              have hI2 : (i1 : Int) + (x : Int) + 1 = (i2 : Int) := by omega
              rw [hI1] at t5
              obtain ⟨ar, s1, hbr⟩ := slice_lh (some ⟨g, o, none⟩) l c i1 i2 (by omega) (by omega) hlc
              have HBR := aside ((hbr w HBS.out).below hO.out.below)
              have hls : (l.take i2).drop i1 = (l.drop (i + 1)).take (x + 1) := by rw [List.drop_take, hi1, show i2 - (i + 1) = x + 1 by omega]
              have hll : ((l.take i2).drop i1).length = x + 1 := by rw [List.length_drop, List.length_take]; omega
              rw [← hls, List.drop_drop, show i + 1 + (x + 1) = i2 by omega] at hE1
              have HE := aside hE1
              have HLL := aside hll
              generalize (l.take i2).drop i1 = lr at *
              have HI := aside hi1
              have HI2 := aside hi2
              have hi2l : i2 ≤ l.length := by omega
              have hi2i : i < i2 := by omega
              clear hi1 hi2 hls hll hE1 hdr hbr hl1 h2
              go_wp2_with (at_builtin; refine wpList_app rfl _ _ rfl (.slice ao p co) told lr _ _ rfl rfl hO.out.own HBR.out (by have := HLL.out; have := hT.out; omega) ?_)
              intro v3 w3 ho3 hu3 hv3
              have hg3 := hO.out.app ho3 hu3 hv3
              obtain ⟨a3, c3, rfl, -, -, -⟩ := hg3.own.tel
              obtain ⟨p3, hp3⟩ : ∃ p3, p3 = (told ++ lr).length := ⟨_, rfl⟩
              rw [← hp3] at hg3
              have HG3 := aside hg3
              have hp3n : p3 ≤ n := by rw [hp3, List.length_append, hT.out, HLL.out]; omega
              have HP3 := aside hp3.symm
              rw [← hp3]
              clear hg3 ho3 hu3 hv3 hp3 hO
              go_wp2_with fail
              go_roundg G
              case measure => omega
              case rel => exact ⟨told ++ lr, a3, c3, i2, p3, by omega, by omega, by omega, hp3n, rfl, by go_num, HP3, HG3, HE⟩
          · have t4 : ¬ ((x : Int) < 128) := by omega
            by_cases h2 : i + 1 < l.length
            · obtain ⟨d0, hd0⟩ : ∃ x, l[i + 1]? = some x := ⟨_, List.getElem?_eq_getElem h2⟩
              rw [drop_at hd0, unpk_mat n told c0 d0 _ (by omega), hx0] at hE1
              have z1 : wr.cell? ⟨g, o + (i + 1), none⟩ = some (.int .u8 (d0.toNat : Nat)) := (hO.out.below.cell (World.block_lt_of_cell? w _ (HC.out (i + 1) d0 hd0))).trans (HC.out (i + 1) d0 hd0)
              have hb1 := byte_lt d0
              generalize hy0 : d0.toNat = y at *
              have t5 : ¬ ((i : Int) + 1 = (l.length : Int)) := by omega
              have t5' : ((i : Int) + 1 == (l.length : Int)) = false := by simp; omega
              have t5b : (i : Int) + 1 < (l.length : Int) := by omega
              obtain ⟨k, hk⟩ : ∃ k, k = x - 125 := ⟨_, rfl⟩
              have hxk : (x : Int) - 125 = (k : Int) := by omega
              by_cases h3 : y = 0 ∨ told.length < y ∨ n - told.length < x - 125
              · rw [if_pos h3] at hE1
                have HN : Aside (unp l = .pack) := by rw [HU.out, ← hE1]; exact aside rfl
                rw [hT.out] at h3
                have HBW := aside hO.out.below
                have HK := aside hk
                clear hE1 hdr hO hk
                by_cases h6 : y = 0
                · subst h6
                  go_wp2_with fail
                  go_ret2
                  rw [HN.out]
                  exact ⟨⟨none, 0, rfl, fun h => absurd rfl h⟩, HBW.out⟩
                · have t6 : ¬ ((y : Int) = 0) := by omega
                  have t6' : ((y : Int) == 0) = false := by simp; omega
                  by_cases h7 : p < y
                  · have t7 : (p : Int) < (y : Int) := by omega
                    go_wp2_with fail
                    go_ret2
                    rw [HN.out]
                    exact ⟨⟨none, 0, rfl, fun h => absurd rfl h⟩, HBW.out⟩
                  · have t7 : ¬ ((p : Int) < (y : Int)) := by omega
                    have t8 : (n : Int) - (p : Int) < (k : Int) := by have := HK.out; omega
                    go_wp2_with fail
                    go_ret2
                    rw [HN.out]
                    exact ⟨⟨none, 0, rfl, fun h => absurd rfl h⟩, HBW.out⟩
              · rw [if_neg h3] at hE1
                rw [hT.out] at h3
                have t6 : ¬ ((y : Int) = 0) := by omega
                have t6' : ((y : Int) == 0) = false := by simp; omega
                have t7 : ¬ ((p : Int) < (y : Int)) := by omega
                have t8 : ¬ ((n : Int) - (p : Int) < (k : Int)) := by omega
                rw [← hk] at hE1
                have HE := aside hE1
                have hkn : p + k ≤ n := by omega
                have hyp : y ≤ p := by omega
                have hy1 : 1 ≤ y := by omega
                have HCP : Aside (cpy y 0 told = told) := aside rfl
                have HKK := aside hk
                clear hE1 hdr hk h3 hl1
                go_wp2_with fail
                rename World => V
                go_loopg [5, 9] k (fun G2 s5 s9 wx => ∃ (ak : Option Addr) (ck j pj : Nat), j + G2 = k ∧ s5 = .slice ak pj ck ∧ s9 = .int .i64 (j : Int) ∧ Aside (pj = p + j) ∧ Aside (Grw w wx (.slice ak pj ck) (cpy y j told)))
                case atStart => exact ⟨ao, co, 0, p, by omega, rfl, rfl, aside rfl, hO⟩
                case round =>
                  obtain ⟨ak, ck, j, pj, hjg, rfl, rfl, hpj, hOj⟩ := hrel
                  have hpjn : pj ≤ n := by have := hpj.out; omega
                  by_cases hj : j < k
                  · have t9 : (j : Int) < (k : Int) := by omega
                    have hcl := cpy_length y j told
                    have hcl2 : (cpy y j told).length = pj := by rw [hcl, hT.out, hpj.out]
                    obtain ⟨aq, cq, hq1, hq2, -, hqb⟩ := hOj.out.own.tel
                    rw [hcl2] at hq1
                    obtain ⟨rfl, rfl⟩ : ak = aq ∧ ck = cq := by simpa using hq1
                    obtain ⟨g2, o2, rfl, hc2⟩ := bs_plain hqb (fun h0 => by rw [h0] at hcl2; simp at hcl2; have := hpj.out; omega)
                    obtain ⟨im, him⟩ : ∃ im, im = pj - y := ⟨_, rfl⟩
                    have hIM : (pj : Int) - (y : Int) = (im : Int) := by have := hpj.out; omega
                    obtain ⟨b, hb⟩ : ∃ b, (cpy y j told)[im]? = some b := ⟨_, List.getElem?_eq_getElem (by rw [hcl2]; omega)⟩
                    have zc := hc2 im b hb
                    have tim : (im : Int) < (pj : Int) := by omega
                    have HSN : Aside (cpy y (j + 1) told = cpy y j told ++ [b]) := by
                      rw [cpy_snoc, hcl2, ← him, getD_of hb]
                      exact aside rfl
                    have hA := below_al wr (.cells #[.int .u8 (b.toNat : Nat)] 5)
                    have HG1 := aside (hOj.out.quiet hA)
                    have HX1 : Aside (BsAt (wr.alloc (.cells #[.int .u8 (b.toNat : Nat)] 5)) (some ⟨wr.heap.size, 0, none⟩) [b]) := bs_row (heap_new wr _)
                    have HLC := aside hcl2
                    have hIMp : im < pj := by omega
                    clear him hb hc2 hqb hq1 hq2 hcl hcl2 hA hOj
                    go_wp2_with (at_builtin; refine wpList_app rfl _ _ rfl (.slice (some ⟨g2, o2, none⟩) pj ck) (cpy y j told) [b] _ 1 rfl rfl HG1.out.own HX1.out (by have := HLC.out; simp; omega) ?_)
                    intro v3 w3 ho3 hu3 hv3
                    rw [← HSN.out] at ho3
                    have hg3 := HG1.out.app ho3 hu3 (by simpa using hv3)
                    obtain ⟨a3, c3, rfl, -, -, -⟩ := hg3.own.tel
                    obtain ⟨p3, hp3⟩ : ∃ p3, p3 = (cpy y (j + 1) told).length := ⟨_, rfl⟩
                    rw [← hp3] at hg3
                    have HG3 := aside hg3
                    have HP3 : Aside (p3 = p + (j + 1)) := by rw [hp3, cpy_length, hT.out]; exact aside rfl
                    rw [← hp3]
                    clear hg3 ho3 hu3 hv3 hp3
                    go_wp2_with fail
                    go_roundg (k - (j + 1))
                    case measure => omega
                    case rel => exact ⟨a3, c3, j + 1, p3, by omega, rfl, by go_num, HP3, HG3⟩
                  · have t9 : ¬ ((j : Int) < (k : Int)) := by omega
                    obtain rfl : j = k := by omega
                    have HTL : Aside ((cpy y j told).length = pj) := by rw [cpy_length, hT.out, hpj.out]; exact aside rfl
                    go_wp2_with fail
                    go_roundg G
                    case measure => omega
                    case rel => exact ⟨cpy y j told, ak, ck, i + 1 + 1, pj, by omega, by omega, by omega, hpjn, rfl, by go_num, HTL, hOj, HE⟩
            · have h2e : i + 1 = l.length := by omega
              have hz : l.drop (i + 1) = [] := List.drop_of_length_le (by omega)
              rw [hz, unpk_mat0 n told c0 (by omega)] at hE1
              have HN : Aside (unp l = .pack) := by rw [HU.out, ← hE1]; exact aside rfl
              have t5 : (i : Int) + 1 = (l.length : Int) := by omega
              have HBW := aside hO.out.below
              clear hE1 hdr hO hl1 hz h2e
              go_wp2_with fail
              go_ret2
              rw [HN.out]
              exact ⟨⟨none, 0, rfl, fun h => absurd rfl h⟩, HBW.out⟩
        · have t3 : ¬ ((i : Int) < (l.length : Int)) := by omega
          have hE1 := hE.out
          rw [List.drop_of_length_le (by omega : l.length ≤ i), unpk_nil, hT.out] at hE1
          by_cases hpe : p = n
          · rw [if_pos hpe] at hE1
            have HN : Aside (unp l = .ok told) := by rw [HU.out, ← hE1]; exact aside rfl
            obtain ⟨aq, cq, hq1, -, -, hqb⟩ := hO.out.own.tel
            rw [hT.out] at hq1
            obtain ⟨rfl, rfl⟩ : ao = aq ∧ co = cq := by simpa using hq1
            have HQ := aside hqb
            have HBW := aside hO.out.below
            subst hpe
            clear hE1 hq1 hqb hO
            go_wp2_with fail
            go_ret2
            rw [HN.out]
            exact ⟨⟨ao, co, by simp only [Un.ok, hT.out]; rfl, HQ.out⟩, HBW.out⟩
          · rw [if_neg hpe] at hE1
            have HN : Aside (unp l = .pack) := by rw [HU.out, ← hE1]; exact aside rfl
            have t4 : ¬ ((p : Int) = (n : Int)) := by omega
            have t4' : ((p : Int) == (n : Int)) = false := by simp; omega
            have HBW := aside hO.out.below
            clear hE1 hO
            go_wp2_with fail
            go_ret2
            rw [HN.out]
            exact ⟨⟨none, 0, rfl, fun h => absurd rfl h⟩, HBW.out⟩
end Go.Proofs.Ytlcglnagekmogaa
