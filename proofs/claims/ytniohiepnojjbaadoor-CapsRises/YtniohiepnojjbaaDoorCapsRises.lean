/-
  CapsRises: who can more below never can less above: Over and Stack rise; for every input, with no condition of ours.
-/
import Derived.Test.YtniohiepnojjbaaDoorWraps
import Derived.Test.YtniohiepnojjbaaDoorRise
import Derived.Test.YtniohiepnojjbaaDoorPush
import Derived.Test.YtniohiepnojjbaaDoorCards
import Derived.Test.YtniohiepnojjbaaDoorTie
import Derived.Deep.RegionHeld2
namespace Go.Proofs.YtniohiepnojjbaaDoor
open Go.ChangeShapes Go.WideShapes Go.ChangeAt Go.RowKit

/-- The two lists that the statement makes. -/
def lowN (xs ys : List Nat) (i : Nat) : List Nat := (List.zipWith (· &&& ·) xs ys).take i
def highN (ys : List Nat) (i : Nat) : List Nat := ys.take i

theorem low_len (xs ys : List Nat) (i : Nat) (h : i ≤ min xs.length ys.length) : (lowN xs ys i).length = i := by simp [lowN]; omega
theorem high_len (ys : List Nat) (i : Nat) (h : i ≤ ys.length) : (highN ys i).length = i := by simp [highN]; omega
theorem low_succ (xs ys : List Nat) (i x y : Nat) (hx : xs[i]? = some x) (hy : ys[i]? = some y) : lowN xs ys (i + 1) = lowN xs ys i ++ [x &&& y] := by
  rw [lowN, List.take_add_one, List.getElem?_zipWith, hx, hy]; rfl
theorem high_succ (ys : List Nat) (i y : Nat) (hy : ys[i]? = some y) : highN ys (i + 1) = highN ys i ++ [y] := by
  rw [highN, List.take_add_one, hy]; rfl
theorem low_under (xs ys : List Nat) (i : Nat) (h : i ≤ min xs.length ys.length) : Under (lowN xs ys i) (highN ys i) := by
  refine ⟨by rw [low_len _ _ _ h, high_len _ _ (by omega)], fun j a b ha hb => ?_⟩
  simp only [lowN, highN, List.getElem?_take] at ha hb
  split at ha
  · rename_i hj
    rw [if_pos hj] at hb
    rw [List.getElem?_zipWith, hb] at ha
    cases hx : xs[j]? with
    | none => rw [hx] at ha; simp at ha
    | some x =>
      rw [hx] at ha
      simp at ha
      subst ha
      rw [lessN_iff]
      intro t ht
      rw [Nat.testBit_and] at ht
      simp at ht
      exact ht.2
  · cases ha

theorem overN_lt (k : Int) (bs : List Nat) : (overN k bs).1 < 16 := by
  unfold overN; split
  · exact tableN_lt _ _
  · decide
theorem stackN_lt (ks : List Int) (leaf : Nat) : (stackN ks leaf).1 < 16 := by
  have go : ∀ (ks : List Int) (c y : Nat), c < 16 → stackGo ks c = some y → y < 16 := by
    intro ks
    induction ks with
    | nil => intro c y hc h; simp only [stackGo, Option.some.injEq] at h; omega
    | cons k r ih =>
      intro c y hc h
      unfold stackGo at h
      split at h
      · exact ih _ y (tableN_lt _ _) h
      · cases h
  unfold stackN
  split
  · decide
  · split
    · decide
    · split
      · rename_i c hc; exact go ks leaf c (by omega) hc
      · decide

set_option maxHeartbeats 8000000 in
set_option maxRecDepth 100000 in
theorem capsRises_walk (k n m y : Int) (h1 : -128 ≤ k) (h2 : k < 128) (aa ab : Option Addr) (ca cb : Nat) (xs ys : List Nat) (al : Option Addr) (cl : Nat) (ws : List Wr) (leaf : Nat) (w : World) (hw : WordsAt w)
    (ha : xs ≠ [] → ∃ blk off, aa = some ⟨blk, off, none⟩ ∧ RdB w blk off xs) (hb : ys ≠ [] → ∃ blk off, ab = some ⟨blk, off, none⟩ ∧ RdB w blk off ys) (hx : ∀ z ∈ xs, z < 256) (hy : ∀ z ∈ ys, z < 256) (hxl : xs.length ≤ 140737488351232) (hyl : ys.length ≤ 140737488351232)
    (hl : ws ≠ [] → ∃ blk off, al = some ⟨blk, off, none⟩ ∧ RdW w blk off ws) (hk : ∀ z ∈ ws, -128 ≤ z.kind ∧ z.kind < 128) (hleaf : leaf < 256) :
    Calls Tryd.prog 7 #[.agg #[.int .i8 k, .int .i64 n, .int .i64 m, .int .u64 y], .slice aa xs.length ca, .slice ab ys.length cb, .slice al ws.length cl, .int .u8 (leaf : Int)] w fun e w' => e = .returned (.bool true) ∧ Below w.heap.size w w' := by
  have HW := aside hw
  have HA := aside ha
  have HB := aside hb
  have HX := aside hx
  have HY := aside hy
  have HL := aside hl
  have HK := aside hk
  have B0 := aside (below_al w (.cells #[.int .i8 k, .int .i64 n, .int .i64 m, .int .u64 y] 43))
  have k0 : ∀ W, Below (w.heap.size + 1) (w.alloc (.cells #[.int .i8 k, .int .i64 n, .int .i64 m, .int .u64 y] 43)) W → W.cell? ⟨w.heap.size, 0, none⟩ = some (.int .i8 k) ∧ W.cell? ⟨w.heap.size, 1, none⟩ = some (.int .i64 n) ∧ W.cell? ⟨w.heap.size, 2, none⟩ = some (.int .i64 m) ∧ W.cell? ⟨w.heap.size, 3, none⟩ = some (.int .u64 y) := fun W h =>
    ⟨(h.cell (p := ⟨w.heap.size, 0, none⟩) (Nat.lt_succ_self _)).trans (by go_simp), (h.cell (p := ⟨w.heap.size, 1, none⟩) (Nat.lt_succ_self _)).trans (by go_simp), (h.cell (p := ⟨w.heap.size, 2, none⟩) (Nat.lt_succ_self _)).trans (by go_simp), (h.cell (p := ⟨w.heap.size, 3, none⟩) (Nat.lt_succ_self _)).trans (by go_simp)⟩
  have K0 := aside k0
  clear hw ha hb hx hy hl hk k0
  obtain ⟨N, hN⟩ : ∃ N, N = min xs.length ys.length := ⟨_, rfl⟩
  have hmin : min (xs.length : Int) (ys.length : Int) = (N : Int) := by omega
  have HMIN := aside hmin
  have hNx : N ≤ xs.length := by omega
  have hNy : N ≤ ys.length := by omega
  have HN := aside hN
  clear hmin hN
  go_enter Tryd.func7, Tryd.ntmps7
  go_wp2_with fail
  refine (works_any _ (HW.out.below B0.out)).mono ?_
  rintro e0 w0 ⟨rfl, b0⟩
  simp only [World.size_alloc] at b0
  have s0 := b0.size
  simp only [World.size_alloc] at s0
  have BB := aside b0
  clear b0
  go_wp2_with ((with_reducible refine wpList_min2 _ rfl _ _ _ rfl (xs.length : Int) (ys.length : Int) (N : Int) ?_ ?_ HMIN.out ?_); rfl; rfl)
  go_loopg [12, 13, 29] N (fun kx s12 s13 s29 wr => ∃ (i : Nat) (a1 a2 : Option Addr) (c1 c2 : Nat), s12 = .slice a1 i c1 ∧ s13 = .slice a2 i c2 ∧ s29 = .int .i64 i ∧ i ≤ N ∧ N - i ≤ kx ∧ w.heap.size + 1 ≤ wr.heap.size ∧
    Aside (Below (w.heap.size + 1) (w.alloc (.cells #[.int .i8 k, .int .i64 n, .int .i64 m, .int .u64 y] 43)) wr) ∧ Aside (TwoRows (w.heap.size + 1) wr (.slice a1 i c1) (.slice a2 i c2) (lowN xs ys i) (highN ys i)))
  case atStart => exact ⟨0, none, none, 0, 0, rfl, rfl, rfl, by omega, by omega, s0, BB, (⟨World.ownsRow_nil _ _ _ _, World.ownsRow_nil _ _ _ _, fun g hg => by cases hg⟩ : TwoRows (w.heap.size + 1) w0 (.slice none 0 0) (.slice none 0 0) (lowN xs ys 0) (highN ys 0))⟩
  case round =>
    obtain ⟨i, a1, a2, c1, c2, rfl, rfl, rfl, hi, hkk, hsz, hbw, h2r⟩ := hrel
    by_cases hlt : i < N
    · have hxi : i < xs.length := by omega
      have hyi : i < ys.length := by omega
      have hxe : xs[i]? = some xs[i] := List.getElem?_eq_getElem hxi
      have hye : ys[i]? = some ys[i] := List.getElem?_eq_getElem hyi
      have hx256 := HX.out _ (List.getElem_mem hxi)
      have hy256 := HY.out _ (List.getElem_mem hyi)
      generalize xs[i] = x at *
      generalize ys[i] = yy at *
      have HB0 := aside (show Below w.heap.size w wr from B0.out.trans (hbw.out.mono (Nat.le_succ _)))
      obtain ⟨ba, oa, rfl, ra⟩ := HA.out (by rintro rfl; simp at hxi)
      obtain ⟨bb, ob, rfl, rb⟩ := HB.out (by rintro rfl; simp at hyi)
      have da := (ra.below HB0.out) i x hxe
      have db := (rb.below HB0.out) i yy hye
      have e1 : bits .and .u8 (x : Int) (yy : Int) = ((x &&& yy : Nat) : Int) := u8_and_nat x yy hx256 hy256
      have LS := aside (low_succ xs ys i x yy hxe hye)
      have HS := aside (high_succ ys i yy hye)
      have LL := aside (low_len xs ys i (by have := HN.out; omega))
      have HL2 := aside (high_len ys i (by omega))
      have hlz : (i : Int) < (xs.length : Int) := by omega
      have hlz2 : (i : Int) < (ys.length : Int) := by omega
      have T1 := aside (h2r.out.below (below_tr (below_dr wr) (below_al wr.drew (.cells #[.int .u8 ((x &&& yy : Nat) : Int)] 5))))
      have DA := aside (show ∀ w3, Below (w.heap.size + 1) (wr.drew.alloc (.cells #[.int .u8 ((x &&& yy : Nat) : Int)] 5)) w3 → w3.cell? ⟨ba, oa + i, none⟩ = some (.int .u8 (x : Int)) from fun w3 h => (ra.below (HB0.out.trans ((below_tr (below_dr wr) (below_al wr.drew (.cells #[.int .u8 ((x &&& yy : Nat) : Int)] 5))).mono (by omega) |>.trans (h.mono (Nat.le_succ _))))) i x hxe)
      have DB := aside (show ∀ w3, Below (w.heap.size + 1) (wr.drew.alloc (.cells #[.int .u8 ((x &&& yy : Nat) : Int)] 5)) w3 → w3.cell? ⟨bb, ob + i, none⟩ = some (.int .u8 (yy : Int)) from fun w3 h => (rb.below (HB0.out.trans ((below_tr (below_dr wr) (below_al wr.drew (.cells #[.int .u8 ((x &&& yy : Nat) : Int)] 5))).mono (by omega) |>.trans (h.mono (Nat.le_succ _))))) i yy hye)
      clear hxe hye ra rb hx256 hy256
      go_wp2
      go_region_held2 (fun w' => w'.cell? ⟨ba, oa + i, none⟩ = some (.int .u8 (x : Int)) ∧ w'.cell? ⟨bb, ob + i, none⟩ = some (.int .u8 (yy : Int))) (go_keep) (first | (refine step_push_first rfl _ _ rfl (w.heap.size + 1) (.slice a1 i c1) (.slice a2 i c2) (lowN xs ys i) (highN ys i) (by simp [Act.eval]) T1.out wr.heap.size 1 (x &&& yy) (by simp [Act.eval]) (by go_simp) i LL.out (by omega) (by simp; omega) ?_; intro a3 c3 w3 t3 b3 s3; have da3 : w3.cell? ⟨ba, oa + i, none⟩ = some (.int .u8 (x : Int)) := DA.out w3 b3; have db3 : w3.cell? ⟨bb, ob + i, none⟩ = some (.int .u8 (yy : Int)) := DB.out w3 b3; have T3 := aside t3; have B3 := aside b3; clear t3 b3))
      try simp only [World.size_alloc, World.size_drew] at s3
      have T3a := aside (T3.out.swap.below (below_al w3 (.cells #[.int .u8 (yy : Int)] 5)))
      go_wp2_with (at_builtin; refine wpList_push_first _ rfl _ _ rfl (w.heap.size + 1) (.slice a2 i c2) (.slice a3 (i + 1) c3) (highN ys i) (lowN xs ys i ++ [x &&& yy]) rfl T3a.out w3.heap.size 1 yy rfl (by go_simp) i HL2.out (by omega) (by simp; omega) ?_)
      intro a4 c4 w4 t4 b4 s4
      have T4 := aside t4
      have B4 := aside (hbw.out.trans (((below_tr (below_dr wr) (below_al wr.drew (.cells #[.int .u8 ((x &&& yy : Nat) : Int)] 5))).mono hsz).trans (B3.out.trans (((below_al w3 (.cells #[.int .u8 (yy : Int)] 5)).mono (by omega)).trans b4))))
      try simp only [World.size_alloc] at s4
      clear t4 b4 da3 db3 da db
      go_wp2
      go_roundg (N - (i + 1))
      case measure => omega
      case rel =>
        have t5 : TwoRows (w.heap.size + 1) w4 (.slice a3 (i + 1) c3) (.slice a4 (i + 1) c4) (lowN xs ys (i + 1)) (highN ys (i + 1)) := by rw [LS.out, HS.out]; exact T4.out.swap
        exact ⟨i + 1, a3, a4, c3, c4, rfl, rfl, by go_num, by omega, by omega, by omega, B4, t5⟩
    · obtain rfl : i = N := by omega
      have HB0 := aside (show Below w.heap.size w wr from B0.out.trans (hbw.out.mono (Nat.le_succ _)))
      have LL := aside (low_len xs ys i (by have := HN.out; omega))
      have HL2 := aside (high_len ys i (by omega))
      have HU := aside (low_under xs ys i (by have := HN.out; omega))
      obtain ⟨q0, q1, q2, q3⟩ := K0.out wr hbw.out
      have hlo : ∀ z ∈ lowN xs ys i, z < 256 := by
        intro z hz
        obtain ⟨j, hj, rfl⟩ := List.getElem_of_mem hz
        have hj2 : j < i := by rw [LL.out] at hj; exact hj
        have hjz : (lowN xs ys i)[j]? = some (lowN xs ys i)[j] := List.getElem?_eq_getElem hj
        generalize (lowN xs ys i)[j] = z at *
        rw [lowN, List.getElem?_take, if_pos hj2, List.getElem?_zipWith, List.getElem?_eq_getElem (by omega : j < xs.length), List.getElem?_eq_getElem (by omega : j < ys.length)] at hjz
        simp at hjz
        rw [← hjz]
        exact Nat.lt_of_le_of_lt Nat.and_le_left (HX.out _ (List.getElem_mem _))
      have hhi : ∀ z ∈ highN ys i, z < 256 := fun z hz => HY.out z (List.mem_of_mem_take hz)
      have rowrd : ∀ (W : World) (a : Option Addr) (c : Nat) (l : List Nat), W.ownsRow (w.heap.size + 1) 5 1 (.slice a i c) l.length (u8s l) → l.length = i → l ≠ [] → ∃ blk off, a = some ⟨blk, off, none⟩ ∧ RdB W blk off l := by
        intro W a c l ho hli hne
        rcases ho.2 with ⟨hv, hz⟩ | ⟨g, cap, cur, hv, -, -, -, -, -, -⟩
        · exact absurd (List.length_eq_zero_iff.1 hz) hne
        · simp only [Value.slice.injEq] at hv
          obtain ⟨rfl, -, -⟩ := hv
          rw [hli] at ho
          exact ⟨g, 0, rfl, row_rd (l := l) (r := []) (by simpa using ho)⟩
      have C1 := aside (over_any k n m y h1 h2 a1 c1 (lowN xs ys i) wr (rowrd wr a1 c1 _ h2r.out.one LL.out) hlo)
      rw [LL.out] at C1
      have C2 := aside (fun W (hW : Below wr.heap.size wr W) => over_any k n m y h1 h2 a2 c2 (highN ys i) W (rowrd W a2 c2 _ (row_below h2r.out.two hW) HL2.out) hhi)
      rw [HL2.out] at C2
      have RI := aside (fun e1 e2 => over_rise k HU.out e1 e2)
      have l1 := overN_lt k (lowN xs ys i)
      have l2 := overN_lt k (highN ys i)
      generalize overN k (lowN xs ys i) = p1 at *
      generalize overN k (highN ys i) = p2 at *
      obtain ⟨v1, r1⟩ := p1
      obtain ⟨v2, r2⟩ := p2
      simp only at l1 l2
      have AL := aside (fun W => all_any leaf hleaf W)
      have ST := aside (fun (lf : Nat) W (hW : Below w.heap.size w W) => stack_any ws lf al cl W (fun hne => by obtain ⟨blk, off, e, r⟩ := HL.out hne; exact ⟨blk, off, e, r.below hW⟩) HK.out)
      have SR := aside (fun (lf : Nat) (hlf : lessN lf leaf = true) (h0 : (stackN (ws.map (·.kind)) leaf).2 = 0) => stack_rise (ws.map (·.kind)) lf leaf hlf h0)
      have SL := aside (fun (lf : Nat) => stackN_lt (ws.map (·.kind)) lf)
      generalize hSN : stackN (ws.map (·.kind)) = SN at *
      clear hSN hlo hhi rowrd
      have HBW := aside hbw.out
      go_wp2_with fail
      refine C1.out.mono ?_
      rintro e5 w5 ⟨rfl, b5⟩
      have B5 := aside b5
      have q0' := (b5.cell (World.block_lt_of_cell? wr _ q0)).trans q0
      have q1' := (b5.cell (World.block_lt_of_cell? wr _ q1)).trans q1
      have q2' := (b5.cell (World.block_lt_of_cell? wr _ q2)).trans q2
      have q3' := (b5.cell (World.block_lt_of_cell? wr _ q3)).trans q3
      clear b5 q0 q1 q2 q3
      go_wp2_with fail
      refine (C2.out w5 B5.out).mono ?_
      rintro e6 w6 ⟨rfl, b6⟩
      have B6 := aside (below_tr HB0.out (below_tr B5.out b6))
      clear b6 q0' q1' q2' q3'
      have CL := aside (less_any v1 v2 (by omega) (by omega) w6)
      have hcase : (r1 = 0 ∧ r2 = 0) ∨ (r1 = 0 ∧ r2 ≠ 0) ∨ r1 ≠ 0 := by
        by_cases g1 : r1 = 0
        · by_cases g2 : r2 = 0
          · exact .inl ⟨g1, g2⟩
          · exact .inr (.inl ⟨g1, g2⟩)
        · exact .inr (.inr g1)
      rcases hcase with ⟨g1, g2⟩ | ⟨g1, g2⟩ | g1
      all_goals first
        | (subst g1; subst g2; rw [show lessN v1 v2 = true from RI.out rfl rfl] at CL; go_wp2_with fail; refine CL.out.mono ?_; rintro e7 w7 ⟨rfl, rfl⟩; go_wp2_with fail)
        | (have t2 : (r2 == 0) = false := (by simpa using g2); subst g1; go_wp2_with fail)
        | (have t1 : (r1 == 0) = false := (by simpa using g1); go_wp2_with fail)
      all_goals
        have STL := aside (ST.out leaf _ B6.out)
        have lSN := SL.out leaf
        generalize SN leaf = p at STL lSN SR
        obtain ⟨vx, ex⟩ := p
        refine STL.out.mono ?_
        rintro e8 w8 ⟨rfl, b8⟩
        have B8 := aside (below_tr B6.out b8)
        clear b8
        by_cases gx : ex = 0
        · subst gx
          go_wp2_with fail
          refine (AL.out w8).mono ?_
          rintro e9 w9 ⟨⟨v9, rfl, ho9⟩, b9⟩
          obtain ⟨a9, c9, rfl, -, -⟩ := row_form ho9
          have O9 := aside ho9
          have B9 := aside (below_tr B8.out b9)
          have hal := allN_len leaf
          clear ho9 b9
          generalize hALN : allN leaf = ALN at *
          have HAM := aside (show ∀ z ∈ ALN, lessN z leaf = true ∧ z < 16 from fun z hz => allN_mem (hALN ▸ hz))
          clear hALN
          go_wp2
          go_loopg [87] ALN.length (fun kx s87 wr => ∃ j : Nat, s87 = .int .i64 j ∧ j ≤ ALN.length ∧ ALN.length - j ≤ kx ∧ Aside (Below w9.heap.size w9 wr))
          case atStart => exact ⟨0, rfl, Nat.zero_le _, by omega, Below.refl _ _⟩
          case round =>
            obtain ⟨j, rfl, hj, hkj, hbz⟩ := hrel
            by_cases hltj : j < ALN.length
            · have hze : ALN[j]? = some ALN[j] := List.getElem?_eq_getElem hltj
              have hzm := HAM.out _ (List.getElem_mem hltj)
              generalize ALN[j] = z at *
              obtain ⟨g9, rfl⟩ : ∃ g9, a9 = some ⟨g9, 0, none⟩ := by
                rcases O9.out.2 with ⟨-, hz0⟩ | ⟨g, cap, cur, hv, -⟩
                · omega
                · simp only [Value.slice.injEq] at hv; exact ⟨g, hv.1⟩
              have dz : wr.cell? ⟨g9, j, none⟩ = some (.int .u8 (z : Int)) := by
                have := (row_rd (l := ALN) (r := []) (by simpa using O9.out)).below hbz.out j z hze
                simpa using this
              have STZ := aside (ST.out z wr (below_tr B9.out hbz.out))
              have lSZ := SL.out z
              have SRZ := SR.out z hzm.1 (by first | trivial | rfl)
              generalize SN z = pz at STZ lSZ SRZ
              obtain ⟨vz, ez⟩ := pz
              obtain ⟨hez, hlz⟩ := SRZ
              simp only at hez hlz lSZ lSN
              subst hez
              clear hze hzm
              go_wp2_with fail
              refine STZ.out.mono ?_
              rintro e10 w10 ⟨rfl, b10⟩
              have B10 := aside (below_tr hbz.out b10)
              have CLZ := aside (less_any vz vx (by omega) (by omega) w10)
              rw [hlz] at CLZ
              clear b10 dz hlz
              go_wp2_with fail
              refine CLZ.out.mono ?_
              rintro e11 w11 ⟨rfl, rfl⟩
              go_wp2
              go_roundg (ALN.length - (j + 1))
              case measure => omega
              case rel => exact ⟨j + 1, by go_num, by omega, by omega, B10⟩
            · obtain rfl : j = ALN.length := by omega
              go_wp2
              go_ret
              exact ⟨rfl, below_tr B9.out hbz.out⟩
        · have tx : (ex != 0) = true := by simpa using gx
          go_wp2
          go_ret
          exact ⟨rfl, B8.out⟩

set_option maxRecDepth 100000 in
theorem capsRises_lifted (os : Os) (started : os.Started) (H : Type) (enc : TypeId × Value → H) :
    ReturnsInHanded {} Tryd.checked os 7 .any (fun w args => (Rows.capsRisesSpec.pre enc Tryd.prog Tryd.f7 [] false w args ∧ laidMetH Tryd.prog laidW w) ∧ sizedMet enc Tryd.prog Tryd.f7 (OpenSpec.ofChange Rows.capsRisesSpec) false w args)
      (Rows.capsRisesSpec.post enc Tryd.prog Tryd.f7 false true false false) := by
  refine returnsInHanded_of_change_and (C := Tryd.checked) (X := fun w _ => laidMetH Tryd.prog laidW w) (fun _ _ _ hh h => h.of_heap hh) own started (by kernel_rfl) Tryd.func7
    (ChangeSpec.witness_shaped (enc := enc) (C := Tryd.checked) (os := os) (X := fun w _ => laidMetH Tryd.prog laidW w) false (World.doorLaid Tryd.prog 400 os) #[.agg #[.int .i8 0, .int .i64 0, .int .i64 0, .int .u64 0], .slice none 0 0, .slice none 0 0, .slice none 0 0, .int .u8 0] 8 rfl (World.shaped_of_RefB (by kernel_rfl) (by kernel_rfl)) (by kernel_rfl) (by kernel_rfl) (by kernel_rfl) (door_met os _)) ?_
  intro W base args ds gs before hval0 hW _ hsz0 hL _
  have hval : ∀ (j : Nat) t v, Tryd.f7.params[j]? = some t → args[j]? = some v → Value.okWide Tryd.prog W .any base t v := hval0
  have hsz : (DataW.weightsEach Tryd.prog (Tryd.f7.params.toList ++ Rows.capsRisesSpec.plain.varTypes Tryd.prog) (ds ++ gs)).all (· ≤ reachBytes) = true := hsz0
  have hW' := hW
  obtain ⟨p, q, hA0, hV, rfl, hfz, hnd⟩ := hW
  have hA : DataW.TrodAll enc Tryd.prog W 0 (fun _ => true) true Tryd.f7.params.toList args.toList ds p := hA0
  rw [Tryd.params7] at hA hval hsz
  obtain ⟨v0, vs0, d0, ds0, p0, q0, hargs, rfl, rfl, h0, r0⟩ := trodAll_cons hA
  obtain ⟨v1, vs1, d1, ds1, p1, q1, hargs1, rfl, rfl, h1, r1⟩ := trodAll_cons r0
  obtain ⟨v2, vs2, d2, ds2, p2, q2, hargs2, rfl, rfl, h2, r2⟩ := trodAll_cons r1
  obtain ⟨v3, vs3, d3, ds3, p3, q3, hargs3, rfl, rfl, h3, r3⟩ := trodAll_cons r2
  obtain ⟨v4, vs4, d4, ds4, p4, q4, hargs4, rfl, rfl, h4, r4⟩ := trodAll_cons r3
  obtain ⟨rfl, rfl, rfl⟩ := trodAll_nil r4
  obtain rfl : args = #[v0, v1, v2, v3, v4] := by cases args; simp_all
  obtain ⟨rfl, rfl⟩ := trodVars_none hV
  have k0 := h0
  have k1 := h1
  have k2 := h2
  have k3 := h3
  have k4 := h4
  have lt0 : ∀ x ∈ p0, x.block < W.heap.size := by obtain ⟨m, hm⟩ := k0; exact DataW.trod_lt m _ _ _ hm
  have lt1 : ∀ x ∈ p1, x.block < W.heap.size := by obtain ⟨m, hm⟩ := k1; exact DataW.trod_lt m _ _ _ hm
  have lt2 : ∀ x ∈ p2, x.block < W.heap.size := by obtain ⟨m, hm⟩ := k2; exact DataW.trod_lt m _ _ _ hm
  have lt3 : ∀ x ∈ p3, x.block < W.heap.size := by obtain ⟨m, hm⟩ := k3; exact DataW.trod_lt m _ _ _ hm
  have lt4 : ∀ x ∈ p4, x.block < W.heap.size := by obtain ⟨m, hm⟩ := k4; exact DataW.trod_lt m _ _ _ hm
  obtain ⟨leaf0, rfl, -, -, hwl⟩ := open_int Tryd.underlying5 (hval 4 5 v4 rfl rfl) h4
  obtain ⟨leaf, rfl, hleaf⟩ := open_u8 hwl
  obtain ⟨k, n, m, y, rfl, hk1, hk2⟩ : ∃ (k n m y : Int), v0 = .agg #[.int .i8 k, .int .i64 n, .int .i64 m, .int .u64 y] ∧ -128 ≤ k ∧ k < 128 := by
    obtain ⟨c0, c1, c2, c3, y0, y1, y2, y3, m, rfl, -, -, g0, g1, g2, g3⟩ := Go.Joins.open_agg4 Tryd.underlying43 (by kernel_rfl) cells43 (hval 0 43 v0 rfl rfl) h0
    obtain ⟨d, e0, -, hwf⟩ := DataW.trod_int Tryd.underlying40 g0
    obtain ⟨t, e1, -, -⟩ := DataW.trod_int Tryd.underlying2 g1
    obtain ⟨n, e2, -, -⟩ := DataW.trod_int Tryd.underlying2 g2
    obtain ⟨u, e3, -, -⟩ := DataW.trod_int (k := .u64) (by kernel_rfl) g3
    simp only [List.cons.injEq, and_true] at e0 e1 e2 e3
    subst e0 e1 e2 e3
    have := bounds_i8 hwf
    exact ⟨d, t, n, u, rfl, by omega, by omega⟩
  obtain ⟨aa, ca, xs, rfl, hxa, hx, hxl⟩ : ∃ (a : Option Addr) (c : Nat) (bs : List Nat), v1 = .slice a bs.length c ∧ (bs ≠ [] → ∃ blk off, a = some ⟨blk, off, none⟩ ∧ RdB W blk off bs) ∧ (∀ z ∈ bs, z < 256) ∧ bs.length ≤ 140737488351232 := by
    obtain ⟨a0, l0, c0, rfl⟩ := okWide_slice Tryd.underlying35 (hval 1 35 v1 rfl rfl)
    obtain ⟨fuel, hf⟩ := h1
    obtain ⟨a, c, bs, hv, ha, hb, es, sp, hx⟩ := open_bytes hf
    refine ⟨a, c, bs, hv, ha, hb, ?_⟩
    rcases hx with ⟨hx, hle⟩ | hx
    · simp only at hx
      subst hx
      have := sized_slice hsz (j := 1) (t := 35) (e := 5) rfl rfl Tryd.underlying35
      rw [bytes5] at this
      unfold reachBytes at this
      omega
    · subst hx; simp
  obtain ⟨ab, cb, ys, rfl, hya, hy, hyl⟩ : ∃ (a : Option Addr) (c : Nat) (bs : List Nat), v2 = .slice a bs.length c ∧ (bs ≠ [] → ∃ blk off, a = some ⟨blk, off, none⟩ ∧ RdB W blk off bs) ∧ (∀ z ∈ bs, z < 256) ∧ bs.length ≤ 140737488351232 := by
    obtain ⟨a0, l0, c0, rfl⟩ := okWide_slice Tryd.underlying35 (hval 2 35 v2 rfl rfl)
    obtain ⟨fuel, hf⟩ := h2
    obtain ⟨a, c, bs, hv, ha, hb, es, sp, hx⟩ := open_bytes hf
    refine ⟨a, c, bs, hv, ha, hb, ?_⟩
    rcases hx with ⟨hx, hle⟩ | hx
    · simp only at hx
      subst hx
      have := sized_slice hsz (j := 2) (t := 35) (e := 5) rfl rfl Tryd.underlying35
      rw [bytes5] at this
      unfold reachBytes at this
      omega
    · subst hx; simp
  obtain ⟨al, cl, ws, rfl, hla, hlk⟩ : ∃ (a : Option Addr) (c : Nat) (ws : List Wr), v3 = .slice a ws.length c ∧ (ws ≠ [] → ∃ blk off, a = some ⟨blk, off, none⟩ ∧ RdW W blk off ws) ∧ (∀ z ∈ ws, -128 ≤ z.kind ∧ z.kind < 128) := by
    obtain ⟨a0, l0, c0, rfl⟩ := okWide_slice Tryd.underlying47 (hval 3 47 v3 rfl rfl)
    obtain ⟨fuel, hf⟩ := h3
    obtain ⟨a, c, ws, hv, ha, hb, -⟩ := open_wraps hf
    exact ⟨a, c, ws, hv, ha, hb⟩
  clear hA0 hval0
  refine (capsRises_walk k n m y hk1 hk2 aa ab ca cb xs ys al cl ws leaf W (words_of_laid hL) hxa hya hx hy hxl hyl hla hlk hleaf).mono fun e W' ⟨he, bel⟩ => ?_
  subst he
  exact ⟨_, rfl, _, _, _, [], _, [], hW', trodAll_mk1 (shut_bool Tryd.underlying4 _), (trodAll_cons_mk (Below.trod laidOut (by kernel_rfl) (of_decide_eq_true (by kernel_rfl)) k0 bel lt0) (trodAll_cons_mk (Below.trod laidOut (by kernel_rfl) (of_decide_eq_true (by kernel_rfl)) k1 bel lt1) (trodAll_cons_mk (Below.trod laidOut (by kernel_rfl) (of_decide_eq_true (by kernel_rfl)) k2 bel lt2) (trodAll_cons_mk (Below.trod laidOut (by kernel_rfl) (of_decide_eq_true (by kernel_rfl)) k3 bel lt3) (trodAll_cons_mk (Below.trod laidOut (by kernel_rfl) (of_decide_eq_true (by kernel_rfl)) k4 bel lt4) trodAll_mk0))))), rfl, bel.frame _, fun h => by cases h⟩

theorem capsRises_row : Rows.CapsRisesSaid :=
  OpenClaim.holds_of_wide 7 Tryd.f7 rfl rfl rfl rfl rfl rfl rfl ⟨rfl, rfl, rfl, rfl, rfl⟩ rfl rfl rfl rfl rfl (by kernel_rfl) Tryd.func7 (by kernel_rfl)
    (of_decide_eq_true (by kernel_rfl)) (by unfold Func.isWrapper; first | (rw [if_pos (by decide +kernel)]; kernel_rfl) | (rw [if_neg (by decide +kernel)]; exact ⟨rfl, rfl⟩))
    (fun os started H enc _ => capsRises_lifted os started H enc)

theorem capsRises_holds : Rows.CapsRisesCardSaid :=
  Claim7.holds_tied_plain_at .later [] [.data] true Rows.capsRisesCard.stood.harness true
    capsRises_row (fun _ h => by cases h) (by kernel_rfl) (fun _ h => by cases h) capsRises_row_tie rfl ⟨rfl, rfl⟩ (by kernel_rfl) rfl
    (fun f fn hf hfn => by
      obtain rfl : f = 7 := Option.some.inj ((show Tryd.prog.funcNamed Rows.capsRisesRow.func = some 7 by kernel_rfl).symm.trans hf) |>.symm
      obtain rfl : fn = Tryd.f7 := (Option.some.inj (Tryd.func7.symm.trans hfn)).symm
      exact ⟨by kernel_rfl, fun j t ht => by
        rw [Tryd.params7] at ht
        match j, ht with
        | 0, ht => simp at ht; subst ht; exact (show Tryd.prog.wantsStandIn 43 = false by kernel_rfl)
        | 1, ht => simp at ht; subst ht; exact (show Tryd.prog.wantsStandIn 35 = false by kernel_rfl)
        | 2, ht => simp at ht; subst ht; exact (show Tryd.prog.wantsStandIn 35 = false by kernel_rfl)
        | 3, ht => simp at ht; subst ht; exact (show Tryd.prog.wantsStandIn 47 = false by kernel_rfl)
        | 4, ht => simp at ht; subst ht; exact (show Tryd.prog.wantsStandIn 5 = false by kernel_rfl)
        | j + 5, ht => simp at ht⟩)
    (by kernel_rfl)

#print axioms capsRises_holds
end Go.Proofs.YtniohiepnojjbaaDoor
