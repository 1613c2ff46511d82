/- SealBrands, walked. -/
import Derived.Test.YtbofeednhihniaaGreatW
import Derived.Test.YtbofeednhihniaaOnceW
namespace Go.Proofs.Ytbofeednhihniaa
open Go.RowKit

theorem kd_le (k : Int) : kd k ≤ 2 := by unfold kd; split; omega; split <;> omega

theorem own_at {w : World} {e : TypeId} {s : Nat} {a : Option Addr} {n c : Nat} {xs : List Value} (h : w.ownsRow 0 e s (.slice a n c) n xs) (hn : 0 < n) : ∃ g, a = some ⟨g, 0, none⟩ ∧ ∀ (j : Nat) (v : Value), xs[j]? = some v → w.cell? ⟨g, j, none⟩ = some v := by
  rcases h.2 with ⟨-, h0⟩ | ⟨g, cap, cur, hv, -⟩
  · omega
  · injection hv with h1 h2 h3
    subst h1
    refine ⟨g, rfl, fun j v hj => ?_⟩
    have := h.cells (g := g) rfl j v hj
    rw [Addr.add_lit, Nat.zero_add] at this
    exact this

theorem eql_nilhan (h : Nat) (w : World) : (binOp .eql 36 (.pointer none) (.pointer (some ⟨h, 0, none⟩))).run Try.prog w = .ok (.bool false) w := by
  have e : ∀ d : Nat, (Op.equalIn (d + 1) 36 (.pointer none) (.pointer (some ⟨h, 0, none⟩))).run Try.prog w = .ok false w := fun d => by
    simp [Op.equalIn, run_underlying Try.underlying36]
  simp only [binOp]
  simp [Op.equal, Op.maxDepth, e 9999]
theorem own_in {w : World} {e : TypeId} {s : Nat} {g n c : Nat} {xs : List Value} (h : w.ownsRow 0 e s (.slice (some ⟨g, 0, none⟩) n c) n xs) : ∀ (j : Nat) (v : Value), xs[j]? = some v → w.cell? ⟨g, j, none⟩ = some v := fun j v hj => by
  have := h.cells (g := g) rfl j v hj
  rw [Addr.add_lit, Nat.zero_add] at this
  exact this

/-- The document's own answer is the program's. -/
theorem rs_sm {a b : Bd} {i j k k' : Nat} {s s' : ByteArray} (ha : a.k = k) (hb : b.k = k') (hs : a.s = s) (hs' : b.s = s') (h : k = 0 → k' = 0 → (a.q = b.q ↔ i = j)) : rs k i s k' j s' = sm a b := by
  unfold rs sm
  rw [ha, hb, hs, hs']
  by_cases h1 : k = k'
  · subst h1
    by_cases h0 : k = 0
    · have := h h0 h0
      simp [h0, this]
    · by_cases h2 : k = 1
      · simp [h2, bq_list, bq]
      · simp [h0, h2]
  · rw [if_neg h1, if_neg (by omega), if_neg (by omega)]

set_option maxRecDepth 20000 in
set_option maxHeartbeats 8000000 in
theorem sealBrands_walk (L : List (Int × ByteArray)) (a : Option Addr) (c : Nat) (w : World) (h : MkAt w a L) :
    Calls Try.prog 3 #[.slice a L.length c] w fun e w' => e = .returned (.bool true) ∧ Below w.heap.size w w' := by
  have hnot : ∀ (x : Bool) (w : World), (Op.unary .not (.bool x)).run Try.prog w = .ok (.bool (!x)) w := fun _ _ => rfl
  have G := aside (great_any L a c w h)
  obtain ⟨n, hnL⟩ : ∃ n, n = L.length := ⟨_, rfl⟩
  have HN := aside hnL
  have HM := aside h
  rw [← hnL] at G ⊢
  clear hnL h
  go_enter Try.func3, Try.ntmps3
  go_wp2_with fail
  refine G.out.mono ?_
  rintro e w' ⟨r, rfl, hr, rfl⟩
  cases r
  case true =>
    go_wp2_with fail
    refine (wakes_any w').mono ?_
    rintro e w1 ⟨rfl, b1⟩
    go_wp2
    go_ret
    exact ⟨rfl, b1⟩
  have hn40 : n ≤ 40 := hr rfl
  clear hr G
  rename World => w
  have P0 := aside (Pile.start w L)
  go_wp2
  go_loopg [3, 4, 5, 6, 7] n (fun G s3 s4 s5 s6 s7 wr => ∃ (k : Nat) (a3 a4 a5 a6 : Option Addr) (c3 c4 c5 c6 : Nat), k + G = n ∧ s7 = .int .i64 (k : Int) ∧ s3 = .slice a3 k c3 ∧ s4 = .slice a4 k c4 ∧ s5 = .slice a5 k c5 ∧ s6 = .slice a6 k c6 ∧ Aside (∃ Bs xs hs, Pile w wr L k k k k k (.slice a3 k c3) (.slice a4 k c4) (.slice a5 k c5) (.slice a6 k c6) Bs xs hs))
  case atStart => exact ⟨0, none, none, none, none, 0, 0, 0, 0, by omega, rfl, rfl, rfl, rfl, rfl, aside ⟨[], [], [], P0.out⟩⟩
  case round =>
    obtain ⟨k, a3, a4, a5, a6, c3, c4, c5, c6, hkG, rfl, rfl, rfl, rfl, rfl, HP⟩ := hrel
    rename World => wr
    by_cases hk : k < n
    · have t1 : (k : Int) < (n : Int) := by omega
      obtain ⟨y, hy⟩ : ∃ y, L[k]? = some y := ⟨_, List.getElem?_eq_getElem (by have := HN.out; omega)⟩
      obtain ⟨g, o, rfl, hrd⟩ := HM.out (fun h => by rw [h] at hy; simp at hy)
      obtain ⟨Bs, xs, hs, PL⟩ := HP.out
      obtain ⟨q0, q1⟩ := hrd k y hy
      have q0' := (PL.bel.cell (World.block_lt_of_cell? w _ q0)).trans q0
      have q1' := (PL.bel.cell (World.block_lt_of_cell? w _ q1)).trans q1
      have PL1 := aside PL
      have HY := aside hy
      clear q0 q1 PL HP hrd hy
      go_wp2_with fail
      refine (made_any y.1 k y.2 wr).mono ?_
      rintro e w1 ⟨b, kb, sb, rfl, hB, b1, -, qb⟩
      have B1 := aside b1; have H1 := aside hB; have KB := aside kb; have SB := aside sb; have QB := aside qb
      clear b1 hB kb sb qb q0' q1'
      go_wp2_with fail
      have hbc : (bcells [UInt8.ofNat k]).toArray = #[Value.int .u8 (k : Int)] := by
        have : k % 256 = k := by omega
        simp [bcells, this]
      refine (memRow0 (w1.heap.size + 1) [UInt8.ofNat k] 1 (0, 0) _ (by simp) (by simp) (by decide) (by rw [hbc]; exact heap_alloc2_new w1 _ _)).mono ?_
      rintro e w2 ⟨h, rfl, b2⟩
      have b2' := below_tr (below_tr (below_al w1 _) (below_al _ _)) b2
      have RB2 := aside ((b2.block w1.heap.size (by simp; omega)).trans (((below_al (w1.alloc (.cells #[.int .i64 (kd y.1 : Nat), .int .i64 (k : Int), .string y.2] 31)) (.cells #[.int .u8 (k : Int)] 5)).block w1.heap.size (by simp)).trans (heap_alloc_new w1 _)))
      have B2 := aside (below_tr B1.out b2'); have H2 := aside (H1.out.below b2'); have S2 := aside b2'.size
      clear b2 b2' B1 H1 hbc
      go_wp2_with fail
      refine (seal_bx b h w2).mono ?_
      rintro e w3 ⟨x, rfl, hX, b3, -⟩
      have PL3 := aside (PL1.out.more (below_tr B2.out b3) HY.out (H2.out.below b3) KB.out SB.out (fun h0 => ⟨(QB.out h0).1, Nat.lt_of_lt_of_le (QB.out h0).2 (Nat.le_trans S2.out b3.size)⟩) hX)
      have RB3 := aside ((b3.block w1.heap.size (Array.getElem?_eq_some_iff.1 RB2.out).1).trans RB2.out)
      clear b3 hX B2 H2 S2 RB2 KB SB QB PL1
      go_wp2_with fail
      refine (seal_nilH b.p w3).mono ?_
      rintro e w3 ⟨rfl, rfl⟩
      have lb := PL3.out.nb
      have lx := PL3.out.nx
      have lh := PL3.out.nh
      simp only [List.length_append, List.length_cons, List.length_nil] at lb lx lh
      have IB : Aside ((Bs ++ [b])[k]? = some b) := by rw [List.getElem?_append_right (by omega), show k - Bs.length = 0 by omega]; rfl
      have IX : Aside ((xs ++ [x])[k]? = some x) := by rw [List.getElem?_append_right (by omega), show k - xs.length = 0 by omega]; rfl
      have IH : Aside ((hs ++ [h])[k]? = some h) := by rw [List.getElem?_append_right (by omega), show k - hs.length = 0 by omega]; rfl
      clear lb lx lh
      have hk100 : k ≤ 100 := by omega
      have PA := aside (PL3.out.quiet (below_al w3 (.cells #[.pointer (some ⟨b.p, 0, none⟩)] 29)))
      have RA := aside (((below_al w3 (.cells #[.pointer (some ⟨b.p, 0, none⟩)] 29)).block w1.heap.size (Array.getElem?_eq_some_iff.1 RB3.out).1).trans RB3.out)
      have CA : Aside (∀ w', Upd (fun j => (Value.slice a3 k c3).ownBlock = some j) (w3.alloc (.cells #[.pointer (some ⟨b.p, 0, none⟩)] 29)) w' → w'.cell? ⟨w1.heap.size, 0, none⟩ = some (.int .i64 (kd y.1 : Nat)) ∧ w'.cell? ⟨w1.heap.size, 1, none⟩ = some (.int .i64 (k : Int)) ∧ w'.cell? ⟨w1.heap.size, 2, none⟩ = some (.string y.2)) := fun w' hu => by
        have := keep_blk PA.out.r3 hu RA.out (by decide)
        refine ⟨?_, ?_, ?_⟩ <;> (rw [cell_of_row w' _ _ _ _ _ this]; rfl)
      have HW := aside (heap_alloc_new w3 (.cells #[.pointer (some ⟨b.p, 0, none⟩)] 29))
      go_wp2_with (first | ((with_reducible refine wpList_push rfl _ _ 25 rfl 29 _ 1 8 Try.underlying25 info29 rfl (by decide) (.slice a3 k c3) k (k + 1) _ rfl PA.out.r3 w3.heap.size [.pointer (some ⟨b.p, 0, none⟩)] rfl rfl (0, 0) HW.out (by simp [Value.oneCell']) hk100 (by decide) rfl ?_); intro a3' c3' w4 ho hu hv; obtain ⟨z0, z1, z2⟩ := CA.out w4 hu; have P4 := aside (PA.out.push3 IB.out ho hu hv); have PB := aside (P4.out.quiet (below_al w4 (.cells #[.int .i64 (kd y.1 : Nat), .int .i64 (k : Nat), .string y.2] 31))); have HW4 := aside (heap_alloc_new w4 (.cells #[.int .i64 (kd y.1 : Nat), .int .i64 (k : Nat), .string y.2] 31)); clear ho hu hv PA P4 CA HW) | ((with_reducible refine wpList_push rfl _ _ 26 rfl 31 _ 3 32 Try.underlying26 info31 rfl (by decide) (.slice a4 k c4) k (k + 1) _ rfl PB.out.r4 w4.heap.size [.int .i64 (kd y.1 : Nat), .int .i64 (k : Nat), .string y.2] rfl rfl (0, 0) HW4.out (by simp [Value.oneCell']) hk100 (by decide) rfl ?_); intro a4' c4' w5 ho hu hv; have P5 := aside (PB.out.push4 HY.out ho hu hv); have PC := aside (P5.out.quiet (below_al w5 (.cells #[.pointer (some ⟨x, 0, none⟩)] 41))); have HW5 := aside (heap_alloc_new w5 (.cells #[.pointer (some ⟨x, 0, none⟩)] 41)); clear ho hu hv PB P5 HW4 z0 z1 z2) | ((with_reducible refine wpList_push rfl _ _ 27 rfl 41 _ 1 8 Try.underlying27 info41 rfl (by decide) (.slice a5 k c5) k (k + 1) _ rfl PC.out.r5 w5.heap.size [.pointer (some ⟨x, 0, none⟩)] rfl rfl (0, 0) HW5.out (by simp [Value.oneCell']) hk100 (by decide) rfl ?_); intro a5' c5' w6 ho hu hv; have P6 := aside (PC.out.push5 IX.out ho hu hv); have PD := aside (P6.out.quiet (below_al w6 (.cells #[.pointer (some ⟨h, 0, none⟩)] 36))); have HW6 := aside (heap_alloc_new w6 (.cells #[.pointer (some ⟨h, 0, none⟩)] 36)); clear ho hu hv PC P6 HW5) | ((with_reducible refine wpList_push rfl _ _ 28 rfl 36 _ 1 8 Try.underlying28 info36 rfl (by decide) (.slice a6 k c6) k (k + 1) _ rfl PD.out.r6 w6.heap.size [.pointer (some ⟨h, 0, none⟩)] rfl rfl (0, 0) HW6.out (by simp [Value.oneCell']) hk100 (by decide) rfl ?_); intro a6' c6' w7 ho hu hv; have P7 := aside (PD.out.push6 IH.out ho hu hv); clear ho hu hv PD HW6))
      go_roundg (n - (k + 1))
      case measure => omega
      case rel => exact ⟨k + 1, a3', a4', a5', a6', c3', c4', c5', c6', by omega, by go_num, rfl, rfl, rfl, rfl, aside ⟨_, _, _, P7.out⟩⟩
    · have t1 : ¬ ((k : Int) < (n : Int)) := by omega
      have hk40 : k ≤ 40 := by omega
      obtain ⟨Bs, xs, hs, PL⟩ := HP.out
      have PL1 := aside PL
      clear PL HP hkG hk
      go_wp2
      go_loopg [13] k (fun G s13 wv => ∃ i : Nat, i + G = k ∧ s13 = .int .i64 (i : Int) ∧ Aside (Below wr.heap.size wr wv))
      case atStart => exact ⟨0, by omega, rfl, aside (Below.refl _ _)⟩
      case round =>
        obtain ⟨i, hiG, rfl, HB⟩ := hrel
        by_cases hi : i < k
        · have t2 : (i : Int) < (k : Int) := by omega
          obtain ⟨g3, rfl, -⟩ := own_at PL1.out.r3 (by omega)
          obtain ⟨g4, rfl, -⟩ := own_at PL1.out.r4 (by omega)
          obtain ⟨g5, rfl, -⟩ := own_at PL1.out.r5 (by omega)
          obtain ⟨g6, rfl, -⟩ := own_at PL1.out.r6 (by omega)
          obtain ⟨bi, hbi⟩ : ∃ b, Bs[i]? = some b := ⟨_, List.getElem?_eq_getElem (by have := PL1.out.nb; omega)⟩
          have HBI := aside hbi
          have HIG := aside hiG
          clear hbi hiG
          rename World => wv
          go_wp2
          go_loopg [14] k (fun G s14 wz => ∃ j : Nat, j + G = k ∧ s14 = .int .i64 (j : Int) ∧ Aside (Below wr.heap.size wr wz))
          case atStart => exact ⟨0, by omega, rfl, HB⟩
          case round =>
            obtain ⟨j, hjG, rfl, HB2⟩ := hrel
            rename World => wz
            by_cases hj : j < k
            · have t3 : (j : Int) < (k : Int) := by omega
              obtain ⟨bj, hbj⟩ : ∃ b, Bs[j]? = some b := ⟨_, List.getElem?_eq_getElem (by have := PL1.out.nb; omega)⟩
              obtain ⟨xj, hxj⟩ : ∃ x, xs[j]? = some x := ⟨_, List.getElem?_eq_getElem (by have := PL1.out.nx; omega)⟩
              obtain ⟨hhj, hhh⟩ : ∃ x, hs[j]? = some x := ⟨_, List.getElem?_eq_getElem (by have := PL1.out.nh; omega)⟩
              have PZ := PL1.out.quiet HB2.out
              obtain ⟨Ri, -, yi, hyi, ki, si⟩ := PZ.br i bi HBI.out
              obtain ⟨Rj, -, yj, hyj, kj, sj⟩ := PZ.br j bj hbj
              have Xj := PZ.bx j bj xj hhj hbj hxj hhh
              obtain ⟨r, hr⟩ : ∃ r, r = sm bi bj := ⟨_, rfl⟩
              have hrs : rs (kd yi.1) i yi.2 (kd yj.1) j yj.2 = r := by
                rw [hr]
                refine rs_sm ki kj si sj fun h0 h1 => ⟨fun e => PZ.dis i j bi bj HBI.out hbj (ki.trans h0) (kj.trans h1) e, fun e => ?_⟩
                subst e
                rw [HBI.out] at hbj
                injection hbj with hbj
                rw [hbj]
              have cc3 := own_in PZ.r3
              have cc4 := own_in PZ.r4
              have cc5 := own_in PZ.r5
              have cc6 := own_in PZ.r6
              have tk : ∀ {α : Type} (l : List α), l.length = k → l.take k = l := fun l h => by rw [← h, List.take_length]
              rw [tk Bs PZ.nb] at cc3
              rw [tk xs PZ.nx] at cc5
              rw [tk hs PZ.nh] at cc6
              have yi2 : (L.take k)[i]? = some yi := by rw [List.getElem?_take, if_pos hi]; exact hyi
              have yj2 : (L.take k)[j]? = some yj := by rw [List.getElem?_take, if_pos hj]; exact hyj
              obtain ⟨ri0, ri1, ri2⟩ := rc_at (L.take k) 0 i yi yi2
              obtain ⟨rj0, rj1, rj2⟩ := rc_at (L.take k) 0 j yj yj2
              rw [Nat.zero_add] at ri1 rj1
              have d0 := cc4 _ _ ri0
              have d1 := cc4 _ _ ri1
              have d2 := cc4 _ _ ri2
              have f0 := cc4 _ _ rj0
              have f1 := cc4 _ _ rj1
              have f2 := cc4 _ _ rj2
              have p0 := cc3 i _ (by rw [List.getElem?_map, HBI.out]; rfl)
              have p1 := cc3 j _ (by rw [List.getElem?_map, hbj]; rfl)
              have x0 := cc5 j _ (by rw [List.getElem?_map, hxj]; rfl)
              have h0 := cc6 j _ (by rw [List.getElem?_map, hhh]; rfl)
              have MR := aside (fun V => refSame_any (kd yi.1) i (kd yj.1) j yi.2 yj.2 (kd_le _) (kd_le _) V)
              rw [hrs] at MR
              have MS := aside (fun V (hV : Below wz.heap.size wz V) => same_any bi bj V (Ri.below hV) (Rj.below hV))
              have MO := aside (fun V (hV : Below wz.heap.size wz V) => open_any bi bj xj hhj V (Ri.below hV) (Rj.below hV) (Xj.below hV))
              rw [← hr] at MS MO
              clear hr hrs cc3 cc4 cc5 cc6 tk yi2 yj2 ri0 ri1 ri2 rj0 rj1 rj2 Ri Rj Xj ki kj si sj hyi hyj PZ hbj hxj hhh
              have D0 := fun d os => ext_cell d0 d os
              have D1 := fun d os => ext_cell d1 d os
              have D2 := fun d os => ext_cell d2 d os
              have F0 := fun d os => ext_cell f0 d os
              have F1 := fun d os => ext_cell f1 d os
              have F2 := fun d os => ext_cell f2 d os
              cases r
              · rw [opn_false, ope_false] at MO
                go_wp2_with fail
                refine region_ext (by kernel_rfl) (by kernel_rfl) ?_
                repeat (any_goals (first | go_big_quiet_step ((with_reducible exact calls_ext (MR.out _))) | quiet_step ((with_reducible exact calls_ext (MR.out _)))))
                refine wpQuiet_nil ?_
                intro w5 hw5
                have BW5 := aside hw5
                have q0 := fun d os => ext_cell ((hw5.cell (World.block_lt_of_cell? wz _ p0)).trans p0) d os
                have q1 := fun d os => ext_cell ((hw5.cell (World.block_lt_of_cell? wz _ x0)).trans x0) d os
                clear hw5 D0 D1 D2 F0 F1 F2 d0 d1 d2 f0 f1 f2
                go_wp2_with fail
                refine region_ext (by kernel_rfl) (by kernel_rfl) ?_
                repeat (any_goals (first | go_big_quiet_step ((with_reducible exact calls_ext (MO.out _ (below_tr BW5.out (below_ext _ _ _))))) | quiet_step ((with_reducible exact calls_ext (MO.out _ (below_tr BW5.out (below_ext _ _ _)))))))
                refine wpQuiet_nil ?_
                intro w6 hw6
                have BW6 := aside (below_tr BW5.out hw6)
                clear hw6 q0 q1
                have q0 := fun d os => ext_cell ((BW6.out.cell (World.block_lt_of_cell? wz _ p0)).trans p0) d os
                have q1 := fun d os => ext_cell ((BW6.out.cell (World.block_lt_of_cell? wz _ p1)).trans p1) d os
                have q2 := fun d os => ext_cell ((BW6.out.cell (World.block_lt_of_cell? wz _ h0)).trans h0) d os
                have q3 := fun d os => eql_nilhan hhj (ext w6 d os)
                go_wp2_with fail
                refine region_ext (by kernel_rfl) (by kernel_rfl) ?_
                repeat (any_goals (first | go_big_quiet_step ((with_reducible exact calls_ext (MS.out _ (below_tr BW6.out (below_ext _ _ _))))) | quiet_step ((with_reducible exact calls_ext (MS.out _ (below_tr BW6.out (below_ext _ _ _)))))))
                refine wpQuiet_nil ?_
                intro w7 hw7
                have BW7 := aside (below_tr HB2.out (below_tr BW6.out hw7))
                clear hw7 q0 q1 q2 q3
                go_wp2_with fail
                go_roundg (k - (j + 1))
                case measure => omega
                case rel => exact ⟨j + 1, by omega, by go_num, BW7⟩
              · rw [opn_true, ope_true] at MO
                go_wp2_with fail
                refine region_ext (by kernel_rfl) (by kernel_rfl) ?_
                repeat (any_goals (first | go_big_quiet_step ((with_reducible exact calls_ext (MR.out _))) | quiet_step ((with_reducible exact calls_ext (MR.out _)))))
                refine wpQuiet_nil ?_
                intro w5 hw5
                have BW5 := aside hw5
                have q0 := fun d os => ext_cell ((hw5.cell (World.block_lt_of_cell? wz _ p0)).trans p0) d os
                have q1 := fun d os => ext_cell ((hw5.cell (World.block_lt_of_cell? wz _ x0)).trans x0) d os
                clear hw5 D0 D1 D2 F0 F1 F2 d0 d1 d2 f0 f1 f2
                go_wp2_with fail
                refine region_ext (by kernel_rfl) (by kernel_rfl) ?_
                repeat (any_goals (first | go_big_quiet_step ((with_reducible exact calls_ext (MO.out _ (below_tr BW5.out (below_ext _ _ _))))) | quiet_step ((with_reducible exact calls_ext (MO.out _ (below_tr BW5.out (below_ext _ _ _)))))))
                refine wpQuiet_nil ?_
                intro w6 hw6
                have BW6 := aside (below_tr BW5.out hw6)
                clear hw6 q0 q1
                have q0 := fun d os => ext_cell ((BW6.out.cell (World.block_lt_of_cell? wz _ p0)).trans p0) d os
                have q1 := fun d os => ext_cell ((BW6.out.cell (World.block_lt_of_cell? wz _ p1)).trans p1) d os
                have q2 := fun d os => ext_cell ((BW6.out.cell (World.block_lt_of_cell? wz _ h0)).trans h0) d os
                have q3 := fun d os => eql_han hhj (ext w6 d os)
                go_wp2_with fail
                refine region_ext (by kernel_rfl) (by kernel_rfl) ?_
                repeat (any_goals (first | go_big_quiet_step ((with_reducible exact calls_ext (MS.out _ (below_tr BW6.out (below_ext _ _ _))))) | quiet_step ((with_reducible exact calls_ext (MS.out _ (below_tr BW6.out (below_ext _ _ _)))))))
                refine wpQuiet_nil ?_
                intro w7 hw7
                have BW7 := aside (below_tr HB2.out (below_tr BW6.out hw7))
                clear hw7 q0 q1 q2 q3
                go_wp2_with fail
                go_roundg (k - (j + 1))
                case measure => omega
                case rel => exact ⟨j + 1, by omega, by go_num, BW7⟩
            · have t3 : ¬ ((j : Int) < (k : Int)) := by omega
              go_wp2
              go_roundg (k - (i + 1))
              case measure => have := HIG.out; omega
              case rel => exact ⟨i + 1, by omega, by go_num, HB2⟩
        · have t2 : ¬ ((i : Int) < (k : Int)) := by omega
          rename World => wv
          go_wp2_with fail
          refine (wakes_any wv).mono ?_
          rintro e w9 ⟨rfl, b9⟩
          go_wp2
          go_ret
          exact ⟨rfl, below_tr (below_tr PL1.out.bel HB.out) b9⟩
end Go.Proofs.Ytbofeednhihniaa
