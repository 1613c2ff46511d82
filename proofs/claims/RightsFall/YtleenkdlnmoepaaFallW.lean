/- RightsFall: the walk. -/
import Derived.Test.YtleenkdlnmoepaaFallA
import Derived.Test.YtleenkdlnmoepaaFallB
import Derived.Test.YtleenkdlnmoepaaFallC
import Derived.Deep.CutBlock
import Derived.Deep.CutRange
import Derived.Deep.DeepCutAuto
namespace Go.Proofs.Ytleenkdlnmoepaa
open Go.RowKit Go.MapLit Go.ChangeMaps

theorem ownI_one (w : World) (x : Int) : OwnI (w.alloc (.cells #[.int .i64 x] 3)) (.slice (some ⟨w.heap.size, 0, none⟩) 1 1) [x] := by
  refine ⟨rfl, .inr ⟨w.heap.size, 1, #[.int .i64 x], rfl, Nat.zero_le _, heap_alloc_new w _, Nat.le_refl _, by decide, rfl, rfl⟩⟩
theorem ownB_one (w : World) (x : Bool) : OwnB (w.alloc (.cells #[.bool x] 4)) (.slice (some ⟨w.heap.size, 0, none⟩) 1 1) [x] := by
  refine ⟨rfl, .inr ⟨w.heap.size, 1, #[.bool x], rfl, Nat.zero_le _, heap_alloc_new w _, Nat.le_refl _, by decide, rfl, rfl⟩⟩
set_option maxRecDepth 20000 in
set_option maxHeartbeats 8000000 in
theorem rightsFall_walk (a : Option Addr) (ss : List Sp) (c : Nat) (w : World) (hs : SpsAt w a ss) (hok : ∀ s ∈ ss, SpOk s) (hn : ss.length ≤ 9223372036854775807) :
    Calls Try.prog 4 #[.slice a ss.length c] w fun e w' => e = .returned (.bool true) ∧ Below w.heap.size w w' := by
  have HS := aside hs
  have HK := aside hok
  have HL := aside hn
  obtain ⟨N, hN⟩ : ∃ N, N = ss.length := ⟨_, rfl⟩
  have HN := aside hN
  have BE := fun (V : World) (hV : Below w.heap.size w V) => beyond_any a ss c V (hs.below hV) hok hn
  rw [← hN] at BE ⊢
  have HBE := aside BE
  clear hs hok hN hn BE
  go_enter Try.func4, Try.ntmps4
  go_wp2_with fail
  refine (works_any w).mono ?_
  rintro e w1 ⟨rfl, hb1⟩
  have HB1 := aside hb1
  clear hb1
  go_wp2_with fail
  refine (HBE.out w1 HB1.out).mono ?_
  rintro e w2 ⟨⟨q, rfl, hq⟩, rfl⟩
  cases q with
  | true =>
    clear hq
    go_wp2_with fail
    refine (works_any w2).mono ?_
    rintro e w3 ⟨rfl, hb3⟩
    have HB3 := aside hb3
    clear hb3
    go_wp2_with fail
    go_ret
    exact ⟨rfl, below_tr HB1.out HB3.out⟩
  | false =>
    have hN3 : N ≤ 300 := hq rfl
    clear hq HBE
    go_wp2_with fail
    refine (new_st w2).mono ?_
    rintro e w3 ⟨p, mb, rfl, hS⟩
    have HS3 := aside hS
    clear hS
    go_wp2_with fail
    have F0 : Aside (FR w2 ((w3.alloc (.cells #[.int .i64 (-1)] 3)).alloc (.cells #[.bool true] 4)) ⟨p, mb, 1, [⟨0, 63, 0⟩]⟩ 1 [-1] [true] (some ⟨w3.heap.size, 0, none⟩) 1 (some ⟨w3.heap.size + 1, 0, none⟩) 1) := by
      have hz := HS3.out.bl.size
      have e1 := ownB_one (w3.alloc (.cells #[.int .i64 (-1)] 3)) true
      rw [World.size_alloc] at e1
      exact aside ⟨HS3.out.below (below_tr (below_al w3 _) (below_al _ _)), (ownI_one w3 (-1)).below (below_al _ _), e1, fun k hk => by simp only [Value.ownBlock, Option.some.injEq] at hk; omega, fun k hk => by simp only [Value.ownBlock, Option.some.injEq] at hk; omega⟩
    go_loopg [4, 5, 30] N (fun G s4 s5 s30 wr => ∃ (i made : Nat) (L : List Gr) (Of : List Int) (Al : List Bool) (oa : Option Addr) (oc : Nat) (aa : Option Addr) (ac : Nat), i + G = N ∧ s30 = .int .i64 (i : Int) ∧ s4 = .slice oa made oc ∧ s5 = .slice aa made ac ∧ made ≤ i + 1 ∧ Aside (FR w2 wr ⟨p, mb, made, L⟩ made Of Al oa oc aa ac) ∧ Aside (FI L made Of Al))
    case atStart => exact ⟨0, 1, _, _, _, _, _, _, _, by omega, rfl, rfl, rfl, by omega, F0, aside fi_new⟩
    case round =>
      obtain ⟨i, made, L, Of, Al, oa, oc, aa, ac, hiG, rfl, rfl, rfl, hmi, hR, hI⟩ := hrel
      by_cases hi : i < N
      · have t1 : (i : Int) < (N : Int) := by omega
        obtain ⟨s, hs⟩ : ∃ s, ss[i]? = some s := ⟨_, List.getElem?_eq_getElem (by have := HN.out; omega)⟩
        have hws := below_tr HB1.out hR.out.st.bl
        obtain ⟨g, o, rfl, hc⟩ := (HS.out.below hws) (fun h0 => by rw [h0] at hs; simp at hs)
        have k0 := hc i s hs 0 _ rfl
        have k1 := hc i s hs 1 _ rfl
        have k2 := hc i s hs 2 _ rfl
        have k3 := hc i s hs 3 _ rfl
        have k4 := hc i s hs 4 _ rfl
        have k5 := hc i s hs 5 _ rfl
        have k6 := hc i s hs 6 _ rfl
        have k7 := hc i s hs 7 _ rfl
        rw [Nat.add_zero] at k0
        have HOK := aside (HK.out s (List.mem_of_getElem? hs))
        clear hc hs hws
        go_upto_block 2 with fail
        obtain ⟨W, hW⟩ : ∃ W, W = wr.alloc (.cells #[.int .i8 s.d, .int .i64 s.id, .int .u8 (s.r : Int), .int .i64 s.g, .int .i8 s.od, .int .i64 s.ot, .int .i64 s.n, .slice s.ba s.bn s.bc] 45) := ⟨_, rfl⟩
        have HW : Aside (Below wr.heap.size wr W) := by rw [hW]; exact below_al wr _
        have HBX : Aside (W.heap[wr.heap.size]? = some (.cells #[.int .i8 s.d, .int .i64 s.id, .int .u8 (s.r : Int), .int .i64 s.g, .int .i8 s.od, .int .i64 s.ot, .int .i64 s.n, .slice s.ba s.bn s.bc] 45 (0, 0))) := by rw [hW]; exact heap_alloc_new wr _
        have HRW := aside (hR.out.below HW.out)
        rw [← hW]
        clear hW k0 k1 k2 k3 k4 k5 k6 k7 HW hR
        go_cut [4, 5, 8, 9, 10, 11, 13, 14, 15] (fun s4 s5 _s8 _s9 _s10 _s11 _s13 _s14 _s15 wc => ∃ (made' : Nat) (L' : List Gr) (Of' : List Int) (Al' : List Bool) (oa' : Option Addr) (oc' : Nat) (aa' : Option Addr) (ac' : Nat), s4 = .slice oa' made' oc' ∧ s5 = .slice aa' made' ac' ∧ made' ≤ i + 2 ∧ Aside (FR w2 wc ⟨p, mb, made', L'⟩ made' Of' Al' oa' oc' aa' ac') ∧ Aside (FI L' made' Of' Al'))
        case first =>
          have hmm : made ≤ 302 := by omega
          by_cases hd2 : s.d = 2
          · have hdd : (s.d == 2) = true := by simpa using hd2
            clear hd2
            go_upto_if 36 with fail
            refine wp_cond (t := true) rfl ?_
            rw [if_pos rfl]
            refine fall_back w2 W p mb made wr.heap.size L Of Al oa oc aa ac s HRW hI HBX HOK hmm _ _ _ _ _ _ _ _ _ _ _ _ _ _ _ _ _ _ _ _ _ _ _ _ _ _ _ _ _ _ _ _ _ _ _ _ _ _ _ _ _ _ _ _ _ _ _ _ _ _ _ _ _ _ _ _ _ _ _ _ _ _ _ _ _ _ _ _ _ _ _ _ _ _ _ _ _ _ _ _ _ _ _ _ _ _ _ _ _ _ _ _ _ _ _ _ _ _ _ _ _ _ _ _ _ _ _ _ _ _ _ _ _ _ _ _ _ _ _ _ _ _ _ _ _ _ _ _ _ _ _ _ _ _ _ _ _ _ _ _ _ _ _ _ _ _ _ _ _ _ _ _ _ _ _ _ _ _ _ _ _ _ _ _ _ _ _ _ _ _ _ _ _ _ _ _ _ _ _ _ _ _ _ _ _ _ _ _ _ _ _ _ _ _ _ _ _ _ _ _ _ _ _ _ _ _ _ _ _ _ _ _ _ _ _ _ _ _ _ _ _ _ ?_
            intro wd L' Al' hR' hF'
            intros
            go_wp2_with fail
            go_meet
            case rel => exact ⟨made, L', Of, Al', oa, oc, aa, ac, rfl, rfl, by omega, hR', hF'⟩
          · have hd2b : (s.d == 2) = false := by simpa using hd2
            by_cases hd0 : s.d = 0
            · have hd0b : (s.d == 0) = true := by simpa using hd0
              clear hd2 hd0
              go_upto_if 121 with fail
              refine wp_cond (t := true) rfl ?_
              rw [if_pos rfl]
              go_upto_if 121 with fail
              refine wp_cond (t := true) rfl ?_
              rw [if_pos rfl]
              refine fall_give w2 W p mb made wr.heap.size L Of Al oa oc aa ac s HRW hI HBX HOK hmm _ _ _ _ _ _ _ _ _ _ _ _ _ _ _ _ _ _ _ _ _ _ _ _ _ _ _ _ _ _ _ _ _ _ _ _ _ _ _ _ _ _ _ _ _ _ _ _ _ _ _ _ _ _ _ _ _ _ _ _ _ _ _ _ _ _ _ _ _ _ _ _ _ _ _ _ _ _ _ _ _ _ _ _ _ _ _ _ _ _ _ _ _ _ _ _ _ _ _ _ _ _ _ _ _ _ _ _ _ _ _ _ _ _ _ _ _ _ _ _ _ _ _ _ _ _ _ _ _ _ _ _ _ _ _ _ _ _ _ _ _ _ _ _ _ _ _ _ _ _ _ _ _ _ _ _ _ _ _ _ _ _ _ _ _ _ _ _ _ _ _ _ _ _ _ _ _ _ _ _ _ _ _ _ _ _ _ _ _ _ _ _ _ _ _ _ _ _ _ _ _ _ _ _ _ _ _ _ _ _ _ _ _ _ _ _ _ _ _ _ _ _ ?_
              intro wd mk L' Of' Al' oa' oc' aa' ac' hmk hR' hF'
              intros
              go_wp2_with fail
              go_meet
              case rel => exact ⟨mk, L', Of', Al', oa', oc', aa', ac', rfl, rfl, by omega, hR', hF'⟩
            · have hd0b : (s.d == 0) = false := by simpa using hd0
              by_cases hd1 : s.d = 1
              · have hd1b : (s.d == 1) = true := by simpa using hd1
                clear hd2 hd0 hd1
                go_upto_if 121 with fail
                refine wp_cond (t := false) rfl ?_
                rw [if_neg Bool.false_ne_true]
                go_upto_if 121 with fail
                refine wp_cond (t := true) rfl ?_
                rw [if_pos rfl]
                refine fall_give w2 W p mb made wr.heap.size L Of Al oa oc aa ac s HRW hI HBX HOK hmm _ _ _ _ _ _ _ _ _ _ _ _ _ _ _ _ _ _ _ _ _ _ _ _ _ _ _ _ _ _ _ _ _ _ _ _ _ _ _ _ _ _ _ _ _ _ _ _ _ _ _ _ _ _ _ _ _ _ _ _ _ _ _ _ _ _ _ _ _ _ _ _ _ _ _ _ _ _ _ _ _ _ _ _ _ _ _ _ _ _ _ _ _ _ _ _ _ _ _ _ _ _ _ _ _ _ _ _ _ _ _ _ _ _ _ _ _ _ _ _ _ _ _ _ _ _ _ _ _ _ _ _ _ _ _ _ _ _ _ _ _ _ _ _ _ _ _ _ _ _ _ _ _ _ _ _ _ _ _ _ _ _ _ _ _ _ _ _ _ _ _ _ _ _ _ _ _ _ _ _ _ _ _ _ _ _ _ _ _ _ _ _ _ _ _ _ _ _ _ _ _ _ _ _ _ _ _ _ _ _ _ _ _ _ _ _ _ _ _ _ _ _ ?_
                intro wd mk L' Of' Al' oa' oc' aa' ac' hmk hR' hF'
                intros
                go_wp2_with fail
                go_meet
                case rel => exact ⟨mk, L', Of', Al', oa', oc', aa', ac', rfl, rfl, by omega, hR', hF'⟩
              · have hd1b : (s.d == 1) = false := by simpa using hd1
                clear hd2 hd0 hd1
                go_wp2_with fail
                go_meet
                case rel => exact ⟨made, L, Of, Al, oa, oc, aa, ac, rfl, rfl, by omega, HRW, hI⟩
        case rest =>
          obtain ⟨mk, L', Of', Al', oa', oc', aa', ac', rfl, rfl, hmk, hR', hI'⟩ := hcut
          rename ∀ (a : Act) (w : World), Code.wp Try.prog _ _ a w → _ => hrest
          refine hrest _ _ ?_
          refine fall_rest w2 wc p mb mk L' Of' Al' oa' oc' aa' ac' (by omega) hR' hI' _ _ _ _ _ _ _ _ _ _ _ _ _ _ _ _ _ _ _ _ _ _ _ _ _ _ _ _ _ _ _ _ _ _ _ _ _ _ _ _ _ _ _ _ _ _ _ _ _ _ _ _ _ _ _ _ _ _ _ _ _ _ _ _ _ _ _ _ _ _ _ _ _ _ _ _ _ _ _ _ _ _ _ _ _ _ _ _ _ _ _ _ _ _ _ _ _ _ _ _ _ _ _ _ _ _ _ _ _ _ _ _ _ _ _ _ _ _ _ _ _ _ _ _ _ _ _ _ _ _ _ _ _ _ _ _ _ _ _ _ _ _ _ _ _ _ _ _ _ _ _ _ _ _ _ _ _ _ _ _ _ _ _ _ _ _ _ _ _ _ _ _ _ _ _ _ _ _ _ _ _ _ _ _ _ _ _ _ _ _ _ _ _ _ _ _ _ _ _ _ _ _ _ _ _ _ _ _ _ _ _ _ _ _ _ _ _ _ _ _ _ _ _ ?_
          intro wd hX
          intros
          go_wp2_with fail
          go_roundg (N - (i + 1))
          case measure => omega
          case rel => exact ⟨i + 1, mk, L', Of', Al', oa', oc', aa', ac', by omega, by go_num, rfl, rfl, by omega, hX, hI'⟩
      · have t1 : ¬ ((i : Int) < (N : Int)) := by omega
        have hmm : made ≤ 4096 := by omega
        have R1 := aside (rights_yes ⟨p, mb, made, L⟩ 0 wr hR.out.st.bk (by decide) (g := ⟨0, 63, 0⟩) hR.out.st.bk.inv.top)
        have R2 := aside (rights_no ⟨p, mb, made, L⟩ (made : Int) wr hR.out.st.bk (wf_nat hmm) (lk_made hR.out.st.bk.inv))
        go_wp2_with fail
        refine R1.out.mono ?_
        rintro e w5 ⟨rfl, rfl⟩
        go_wp2_with fail
        refine R2.out.mono ?_
        rintro e w6 ⟨rfl, rfl⟩
        go_wp2_with fail
        go_ret
        exact ⟨rfl, below_tr HB1.out hR.out.st.bl⟩
end Go.Proofs.Ytleenkdlnmoepaa
