/- TreeMoved's walk. -/
import Derived.Test.YtbnaegoahdcejaaGreatDoorGM
namespace Go.Proofs.YtbnaegoahdcejaaGreatDoor
open Go.RowKit Go.ChangeMaps

theorem ne_node_same (a : Nat) (w : World) : (binOp .neq 26 (Pt a) (Pt a)).run Tryz.prog w = .ok (.bool false) w := by
  obtain ⟨j, hte⟩ : ∃ j, Tryz.prog.info? 91 = some j := ⟨_, Option.eq_some_of_isSome (o := Tryz.prog.info? 91) (by kernel_rfl)⟩
  have h : ∀ d : Nat, (Op.equalIn (d + 1) 26 (Pt a) (Pt a)).run Tryz.prog w = .ok true w := fun d => by
    simp [Op.equalIn, run_underlying Tryz.underlying26, sizeOf, typeInfo, hte, run_sameAddr_same]
  simp only [binOp]
  simp [Op.equal, Op.maxDepth, h 9999]
/-- Is a path of those so far renamed, and too long? -/
def lng (x y a : B) (l : List Im) (j : Nat) : Bool := (l.take j).any fun m => decide (spl x <+: spl m.p.data.toList) && decide (4096 < (m.ren x y a).p.size)
/-- Where the renaming stands. -/
structure Lp (x y a : B) (lo g : Nat) (ms : List Im) (w9 : World) (j : Nat) (wx : World) : Prop where
  wr : Wr lo wx g (rens x y a ms j)
  ch : Ch 0 IP w9 wx
  up : Upd (fun k => k = g) w9 wx
theorem lng_succ {x y a : B} {l : List Im} {j : Nat} {m : Im} (h : l[j]? = some m) : lng x y a l (j + 1) = (lng x y a l j || (decide (spl x <+: spl m.p.data.toList) && decide (4096 < (m.ren x y a).p.size))) := by
  unfold lng
  rw [List.take_add_one, h, List.any_append]
  simp
set_option maxRecDepth 20000 in
set_option maxHeartbeats 8000000 in
theorem treeMoved_walk (a : Option Addr) (ms : List Im) (n c : Nat) (iv kv : Int) (A : ByteArray) (w : World) (hn : n = ms.length) (hnc : n ≤ c) (hnl : n ≤ 140737488351232) (hI : Inp w a ms) (hF : Fits ms) (hM : Mxl w) (hiv : -9223372036854775808 ≤ iv ∧ iv ≤ 9223372036854775807) (hkv : -9223372036854775808 ≤ kv ∧ kv ≤ 9223372036854775807) :
    Calls Tryz.prog 8 #[.slice a n c, .int .i64 iv, .int .i64 kv, .string A] w fun e w' => e = .returned (.bool true) ∧ Below w.heap.size w w' := by
  have AI := aside hI
  have AM := aside hM
  have AN := aside hn
  have AG := aside (great_any a ms n c w hn hnl hI hF)
  have Aiv := aside hiv
  have Akv := aside hkv
  clear hI hM hn hF hiv hkv
  go_enter Tryz.func8, Tryz.ntmps8
  go_wp2_with fail
  refine AG.out.mono ?_
  rintro e w1 ⟨hb1, q, rfl, hq⟩
  have AB1 := aside hb1
  have hMw := AM.out.below hb1 AM.out.lt
  have AM1 := aside hMw
  have AW1 := aside (wakes19_any _ hMw)
  clear AG hb1 hMw
  cases q with
  | true =>
    clear hq
    go_wp2_with fail
    refine AW1.out.mono ?_
    rintro e w2 ⟨rfl, hb2⟩
    have AB2 := aside hb2
    clear hb2
    go_wp2_with fail
    go_ret
    exact ⟨rfl, below_tr AB1.out AB2.out⟩
  | false =>
    obtain ⟨hq1, hq2⟩ := hq rfl
    have hn200 : n ≤ 200 := by rw [AN.out]; exact hq1
    clear hq hq1
    by_cases hA : 1024 < A.size
    · have hA1 : (1024 : Int) < (A.size : Int) := by omega
      go_wp2_with fail
      refine AW1.out.mono ?_
      rintro e w2 ⟨rfl, hb2⟩
      have AB2 := aside hb2
      clear hb2
      go_wp2_with fail
      go_ret
      exact ⟨rfl, below_tr AB1.out AB2.out⟩
    · have hA1 : ¬ (1024 : Int) < (A.size : Int) := by omega
      by_cases hn0 : n = 0
      · subst hn0
        go_wp2_with fail
        refine AW1.out.mono ?_
        rintro e w2 ⟨rfl, hb2⟩
        have AB2 := aside hb2
        clear hb2
        go_wp2_with fail
        go_ret
        exact ⟨rfl, below_tr AB1.out AB2.out⟩
      · have hn1 : ((n : Int) == 0) = false := beq_eq_false_iff_ne.2 (by omega)
        have AK := aside (tmake_any a ms n c w1 AN.out (by omega) (AI.out.below AB1.out) AM1.out)
        go_wp2_with fail
        refine AK.out.mono ?_
        rintro e w2 hP
        obtain ⟨cc, ci, T, hmk, hb2, h3⟩ := MakeP.told hP
        have AB2 := aside (below_tr AB1.out hb2)
        have AM2 := aside (AM1.out.below hb2 AM1.out.lt)
        have AK2 := aside (tmake_any a ms n c w2 AN.out (by omega) (AI.out.below AB2.out) AM2.out)
        clear AK hP hb2 AW1 AM1
        rcases h3 with ⟨hc0, rfl⟩ | ⟨hc0, S, r, hT, hTo, rfl⟩
        · have hcb : (cc == 0) = false := beq_eq_false_iff_ne.2 hc0
          clear hmk
          go_wp2_with fail
          refine AK2.out.mono ?_
          rintro e w3 hP
          obtain ⟨c3, i3, T3, hmk3, hb3, h3⟩ := MakeP.told hP
          have AB3 := aside (below_tr AB2.out hb3)
          have AM3 := aside (AM2.out.below hb3 AM2.out.lt)
          clear hP hmk3 hb3 AK2
          rcases h3 with ⟨-, rfl⟩ | ⟨-, S3, r3, -, -, rfl⟩ <;>
          · go_wp2_with fail
            refine (wakes19_any _ AM3.out).mono ?_
            rintro e w4 ⟨rfl, hb4⟩
            have AB4 := aside hb4
            clear hb4
            go_wp2_with fail
            go_ret
            exact ⟨rfl, below_tr AB3.out AB4.out⟩
        · have AT := aside hT
          have ATo := aside hTo
          obtain ⟨nb, hnb⟩ : ∃ nb, nb = r.nb := ⟨_, rfl⟩
          have Anb := aside hnb
          rw [← hnb]
          have Amk := aside hmk
          subst hc0
          clear hT hTo hnb hmk
          go_wp2_with fail
          refine AK2.out.mono ?_
          rintro e w3 hP
          obtain ⟨c3, i3, T3, hmk3, hb3, h3⟩ := MakeP.told hP
          have hc3 : c3 = 0 := by
            have := hmk3.symm.trans Amk.out
            simp only [Prod.mk.injEq] at this
            exact this.1
          rcases h3 with ⟨h3, -⟩ | ⟨-, S3, r3, hT3, hTo3, rfl⟩
          · exact absurd hc3 h3
          have AB3 := aside (below_tr AB2.out hb3)
          have AM3 := aside (AM2.out.below hb3 AM2.out.lt)
          have ATS := aside (AT.out.below hb3)
          have AT2 := aside AT.out
          have AT3 := aside hT3
          have ATo3 := aside hTo3
          obtain ⟨nb3, hnb3⟩ : ∃ nb3, nb3 = r3.nb := ⟨_, rfl⟩
          have Anb3 := aside hnb3
          rw [← hnb3]
          have AIn := aside (AI.out.below AB3.out)
          clear hP hmk3 hb3 AK2 hT3 hTo3 hnb3 hc3 Amk AT AM2
          have hn2 : ¬ ((n : Int) = 0) := by omega
          obtain ⟨ix, hix, hixe⟩ := idx_in iv n (by omega) hn200
          obtain ⟨kx, hkx, hkxe⟩ := idx_in kv n (by omega) hn200
          obtain ⟨mi, hmi⟩ : ∃ m, ms[ix]? = some m := ⟨_, List.getElem?_eq_getElem (by rw [← AN.out]; exact hix)⟩
          obtain ⟨mj, hmj⟩ : ∃ m, ms[kx]? = some m := ⟨_, List.getElem?_eq_getElem (by rw [← AN.out]; exact hkx)⟩
          obtain ⟨g, o, rfl, e0, -, -⟩ := AIn.out.at hmi
          obtain ⟨g', o', hgg, f0, -, -⟩ := AIn.out.at hmj
          injection hgg with hgg
          injection hgg with hg1 hg2
          subst hg1
          subst hg2
          have hii : mi.it ∈ ms.map Im.it := List.mem_map.2 ⟨mi, List.mem_of_getElem? hmi, rfl⟩
          have hjj : mj.it ∈ ms.map Im.it := List.mem_map.2 ⟨mj, List.mem_of_getElem? hmj, rfl⟩
          obtain ⟨d, cE, t, h3⟩ := ATo.out.three ATS.out hii hjj
          have A3 := aside h3
          have Ahii := aside hii
          have Ahmi := aside hmi
          obtain ⟨x, hx⟩ : ∃ x, x = ikey mi.it := ⟨_, rfl⟩
          obtain ⟨y, hy⟩ : ∃ y, y = ikey mj.it := ⟨_, rfl⟩
          obtain ⟨av, hav⟩ : ∃ av, av = A.data.toList := ⟨_, rfl⟩
          have Ax := aside hx
          have Ay := aside hy
          have hXx : mi.p = ba x := by rw [hx]; exact (ba_of mi.p).symm
          have hYy : mj.p = ba y := by rw [hy]; exact (ba_of mj.p).symm
          have hAa : A = ba av := by rw [hav]; exact (ba_of A).symm
          have AAa := aside hAa
          obtain ⟨X, hX⟩ : ∃ X, X = ba x := ⟨_, rfl⟩
          obtain ⟨Y, hY⟩ : ∃ Y, Y = ba y := ⟨_, rfl⟩
          obtain ⟨PX, hPX⟩ : ∃ PX, PX = ba (par x) := ⟨_, rfl⟩
          obtain ⟨LX, hLX⟩ : ∃ LX, LX = ba (lst x) := ⟨_, rfl⟩
          obtain ⟨fb, hfb⟩ : ∃ fb, fb = d.nb := ⟨_, rfl⟩
          obtain ⟨tb, htb⟩ : ∃ tb, tb = t.nb := ⟨_, rfl⟩
          obtain ⟨cb, hcb⟩ : ∃ cb, cb = cE.nb := ⟨_, rfl⟩
          have AX := aside hX
          have AY := aside hY
          have ALX := aside hLX
          have Afb := aside hfb
          have Atb := aside htb
          have Acb := aside hcb
          have hxl : x.length ≤ 4096 := by rw [hx]; exact h3.li
          have hyl : y.length ≤ 4096 := by rw [hy]; exact h3.lj
          rw [hXx, ← hX] at e0
          rw [hYy, ← hY] at f0
          have APa := aside (parent_any x w3 (by omega))
          rw [← hX, ← hPX] at APa
          have hda := h3.da
          rw [← hx] at hda
          have hta := h3.ta
          rw [← hy] at hta
          have AAt := aside (at_any ATS.out ATo.out.rin ATo.out.rp h3.hd (par x) (by have h5 := par_le x; omega) hda)
          rw [← Anb.out, ← hPX, ← hfb] at AAt
          have AAt2 := aside (fun V (hV : Below w3.heap.size w3 V) => at_any (ATS.out.below hV) ATo.out.rin ATo.out.rp h3.ht y (by omega) hta)
          rw [← Anb.out, ← hY, ← htb] at AAt2
          have ALa := aside (fun V => last_any x V (by omega))
          rw [← hX, ← hLX] at ALa
          have hcd := h3.cd
          rw [← hx] at hcd
          have Acd := aside hcd
          have AGe := aside (fun V (hV : Below w3.heap.size w3 V) => (ATS.out.below hV).get_yes h3.hd h3.dk h3.hc hcd)
          rw [← hfb, ← hLX, ← hcb] at AGe
          have AMo := aside (fun V (hV : Below w3.heap.size w3 V) => moveQ_any (ATS.out.below hV) h3.hd h3.dk h3.ht h3.hc hcd av ATo.out.few)
          rw [← hfb, ← hLX, ← htb, ← hAa] at AMo
          have h01 : (0 : Int) ≤ (ix : Int) := by omega
          have h02 : (ix : Int) < (n : Int) := by omega
          have h03 : (0 : Int) ≤ (kx : Int) := by omega
          have h04 : (kx : Int) < (n : Int) := by omega
          clear h3 hii hjj hmi hmj hx hy hav hXx hYy hAa hX hY hPX hLX hfb htb hcb hda hta hcd
          go_wp2_with fail
          refine APa.out.mono ?_
          rintro e w' ⟨rfl, rfl⟩
          go_wp2_with fail
          refine AAt.out.mono ?_
          rintro e w4 ⟨rfl, hb4⟩
          have AB4 := aside hb4
          clear hb4 AAt APa e0 f0
          go_wp2_with fail
          refine (AAt2.out w4 AB4.out).mono ?_
          rintro e w5 ⟨rfl, hb5⟩
          have AB5 := aside (below_tr AB4.out hb5)
          clear hb5 AAt2 AB4
          go_wp2_with fail
          refine (ALa.out w5).mono ?_
          rintro e w6 ⟨rfl, hb6⟩
          have AB6 := aside (below_tr AB5.out hb6)
          clear hb6 ALa AB5
          go_wp2_with fail
          refine (AGe.out w6 AB6.out).mono ?_
          rintro e w6' ⟨rfl, rfl⟩
          go_wp2_with fail
          refine (AMo.out w6' AB6.out).mono ?_
          rintro e w7 ⟨r7, rfl, hu7, h7⟩
          have AB7 : Aside (Below w.heap.size w w7) := (below_tr AB3.out AB6.out).trans (hu7.below (below_tr AB3.out AB6.out).size (fun k hk => Nat.le_trans AB1.out.size (blk_lo AT2.out hk)))
          have AM7 := aside (AM.out.below AB7.out AM.out.lt)
          have AT37 := aside ((AT3.out.below AB6.out).later AT2.out (Nat.le_refl _) hu7)
          have AI7 := aside (AI.out.below AB7.out)
          clear AMo AGe hu7 AM3 AB6
          rcases h7 with ⟨hr7, htk, hmv, hT7⟩ | ⟨hr7, hT7⟩
          rotate_left
          · have hrb : (r7 == 0) = false := beq_eq_false_iff_ne.2 hr7
            obtain ⟨u1, u2, -, -⟩ := ATo.out.items hT7
            obtain ⟨v1, v2, -, -⟩ := ATo3.out.items AT37.out
            have hs1 : sameB S r S3 r3 = true := by unfold sameB; rw [u1, u2, v1, v2]; simp
            have AS1 := aside (tsame_any hT7 AT37.out r r3 ATo.out.rin ATo.out.rk ATo3.out.rin ATo3.out.rk)
            rw [hs1, ← Anb.out, ← Anb3.out] at AS1
            clear u1 u2 v1 v2 hs1 hT7
            go_wp2_with fail
            refine AS1.out.mono ?_
            rintro e w8 ⟨rfl, hb8⟩
            have AB8 := aside hb8
            clear hb8 AS1
            go_wp2_with fail
            refine (wakes19_any _ (AM7.out.below AB8.out AM7.out.lt)).mono ?_
            rintro e w9 ⟨rfl, hb9⟩
            have AB9 := aside hb9
            clear hb9
            go_wp2_with fail
            go_ret
            exact ⟨rfl, below_tr (below_tr AB7.out AB8.out) AB9.out⟩
          · subst hr7
            have hcp : cE.p = spl x := by rw [Ax.out]; exact A3.out.cp
            have htp : t.p = spl y := by rw [Ay.out]; exact A3.out.tp
            have hper := moved_its (y := y) (a := av) AT2.out hcp
            rw [ATo.out.its, ← htp] at hper
            have hrS : r ∈ mvd S cE (t.p ++ [av]) := List.mem_append_left _ (mem_out.2 ⟨ATo.out.rin, fun e => by rw [ATo.out.rp, hcp] at e; exact spl_ne x (List.prefix_nil.1 e)⟩)
            have hio := items_of hT7 (r := r) ATo.out.rp hper (by rw [List.length_map, List.length_map, ← AN.out]; omega) (by rw [byt_mvd]; exact ATo.out.bok)
            obtain ⟨v1, v2, v3, -⟩ := ATo3.out.items AT37.out
            have AI3 := aside (items_any AT37.out r3 ATo3.out.rin ATo3.out.rk)
            rw [← Anb3.out] at AI3
            have Av1 := aside v1
            have Av2 := aside v2
            have Av3 := aside v3
            have AT7 := aside hT7
            have Ahio := aside hio
            have Anod : Aside ((∀ i ∈ (ms.map Im.it).map (rni x y av), i.1.size ≤ 4096) → (((ms.map Im.it).map (rni x y av)).map ikey).Nodup) := fun h => (hio.1 h).2.2
            have AhrS := aside hrS
            have Ahcp := aside hcp
            have Ahtp := aside htp
            have Ahtk := aside htk
            have Ahmv := aside hmv
            clear hcp htp hper hrS hio v1 v2 v3 hT7 htk hmv
            go_wp2_with fail
            refine AI3.out.mono ?_
            rintro e w8 ⟨hb8, hP⟩
            rcases hP with ⟨hx8, -⟩ | ⟨-, a8, c8, ms8, rfl, hL8, hit8⟩
            · exact absurd Av1.out hx8
            have Ait8 : Aside (ms8.map Im.it = srt ikey (ms.map Im.it)) := hit8.trans Av2.out
            have hl8 : ms8.length = n := by
              have := congrArg List.length Ait8.out
              rw [(srt_perm ikey _).length_eq, List.length_map, List.length_map, ← AN.out] at this
              exact this
            have hnc8 : n ≤ c8 := by
              obtain ⟨_, _, e, h⟩ := own_slice hL8.row
              injection e with _ _ e
              rw [e, ← hl8]; exact h
            rw [hl8] at hL8 ⊢
            obtain ⟨g8, rfl, hW8⟩ := hL8.wr (fun e => by rw [e] at hl8; simp at hl8; omega)
            have AW8 := aside hW8
            have Al8 := aside hl8
            have Anc8 := aside hnc8
            have AB8 := aside hb8
            have hT78 := AT7.out.below hb8
            have AI9 := aside (items_any hT78 r AhrS.out ATo.out.rk)
            rw [← Anb.out] at AI9
            clear hL8 hit8 hl8 hnc8 hW8 hb8 hT78 AI3
            go_wp2_with fail
            refine AI9.out.mono ?_
            rintro e w9 ⟨hb9, hP⟩
            have hQ : ∃ (u : Int) (V9 : Value), e = .returned (.tuple #[V9, .int .i64 u]) ∧ ((u = 3 ∧ ∃ i ∈ (ms.map Im.it).map (rni x y av), 4096 < i.1.size) ∨ (u = 0 ∧ (∀ i ∈ (ms.map Im.it).map (rni x y av), i.1.size ≤ 4096) ∧ ∃ a9 c9 ms9, V9 = .slice a9 ms9.length c9 ∧ Lms w8.heap.size w9 (.slice a9 ms9.length c9) ms9 ∧ ms9.map Im.it = srt ikey ((ms.map Im.it).map (rni x y av)))) := by
              by_cases hlong : ∃ i ∈ (ms.map Im.it).map (rni x y av), 4096 < i.1.size
              · have h3 := Ahio.out.2 hlong
                rcases hP with ⟨-, rfl⟩ | ⟨h0, -⟩
                · exact ⟨3, _, by rw [h3], .inl ⟨rfl, hlong⟩⟩
                · rw [h3] at h0; exact absurd h0 (by decide)
              · have hs : ∀ i ∈ (ms.map Im.it).map (rni x y av), i.1.size ≤ 4096 := fun i hi => Nat.le_of_not_lt fun h => hlong ⟨i, hi, h⟩
                obtain ⟨h3, h4, -⟩ := Ahio.out.1 hs
                rcases hP with ⟨h0, -⟩ | ⟨-, a9, c9, ms9, rfl, hL9, hit9⟩
                · exact absurd h3 h0
                · exact ⟨0, _, rfl, .inr ⟨rfl, hs, a9, c9, ms9, rfl, hL9, hit9.trans h4⟩⟩
            obtain ⟨u, V9, rfl, hu9⟩ := hQ
            have Au9 := aside hu9
            have AB9 := aside hb9
            have AW9 := aside (AW8.out.below hb9)
            clear hP hb9 hu9 AI9 Ahio
            go_wp2_with fail
            go_loopg [27, 28, 29] n (fun gg s27 s28 _ wx => ∃ j : Nat, j + gg = n ∧ s28 = .int .i64 (j : Int) ∧ s27 = .bool (lng x y av ms8 j) ∧ Lp x y av w7.heap.size g8 ms8 w9 j wx)
            case atStart => exact ⟨0, by omega, rfl, rfl, by rw [rens_zero]; exact AW9.out, Ch.refl _ _ _, Upd.refl _ _⟩
            case round =>
              obtain ⟨j, hjg, rfl, rfl, hLp⟩ := hrel
              have ALp := aside hLp
              clear hLp
              cases gk with
              | zero =>
                obtain rfl : j = n := by omega
                have hj : ¬ ((j : Int) < (j : Int)) := by omega
                have hle7 : w.heap.size ≤ g8 := Nat.le_trans AB7.out.size AW9.out.low
                have ABr0 : Aside (Below w.heap.size w wr) := (below_tr (below_tr AB7.out AB8.out) AB9.out).trans (ALp.out.up.below (below_tr (below_tr AB7.out AB8.out) AB9.out).size (fun k hk => by rw [hk]; exact hle7))
                have ATr0 := aside (((AT7.out.below AB8.out).below AB9.out).ch (ALp.out.ch.lo (Nat.zero_le _)) vis_IP.saf vis_IP.dir vis_IP.map)
                have AT3r0 := aside (((AT37.out.below AB8.out).below AB9.out).ch (ALp.out.ch.lo (Nat.zero_le _)) vis_IP.saf vis_IP.dir vis_IP.map)
                have Amb := aside (move_back AT2.out A3.out.hd A3.out.ht A3.out.hc Acd.out Ahmv.out)
                have Ac2 : Aside (((cE.rel cE.p).ins (t.p ++ [av])).p = t.p ++ [av] ∧ ((cE.rel cE.p).ins (t.p ++ [av])).nb = cE.nb ∧ ((cE.rel cE.p).ins (t.p ++ [av])).k = cE.k ∧ ((cE.rel cE.p).ins (t.p ++ [av])).x = cE.x) := ⟨by simp [En.ins, En.rel], rfl, rfl, rfl⟩
                have hlng : lng x y av ms8 j = true ↔ ∃ i ∈ (ms.map Im.it).map (rni x y av), 4096 < i.1.size := by
                  have hmm : ∀ i0 : It, i0 ∈ ms8.map Im.it ↔ i0 ∈ ms.map Im.it := fun i0 => by rw [Ait8.out, srt_mem]
                  unfold lng
                  rw [← Al8.out, List.take_length, List.any_eq_true]
                  constructor
                  · rintro ⟨m, hm, h⟩
                    simp only [Bool.and_eq_true, decide_eq_true_eq] at h
                    exact ⟨rni x y av m.it, List.mem_map.2 ⟨m.it, (hmm _).1 (List.mem_map.2 ⟨m, hm, rfl⟩), rfl⟩, h.2⟩
                  · rintro ⟨i, hi, h⟩
                    obtain ⟨i0, hi0, rfl⟩ := List.mem_map.1 hi
                    obtain ⟨m, hm, rfl⟩ := List.mem_map.1 ((hmm _).2 hi0)
                    refine ⟨m, hm, ?_⟩
                    by_cases hun : spl x <+: spl m.p.data.toList
                    · rw [decide_eq_true hun, Bool.true_and]
                      exact decide_eq_true h
                    · have h5 := (ATo.out.fin m.it hi0).1
                      rw [← ren_it, ren_same hun] at h
                      exact absurd h5 (Nat.not_le_of_lt h)
                have Alng := aside hlng
                have AGo := aside (ATr0.out.get_yes Amb.out.2.1 Ahtk.out Amb.out.2.2.1 Ac2.out.1)
                rw [← Atb.out, ← AAa.out, Ac2.out.2.1, ← Acb.out] at AGo
                obtain ⟨Lg, hLg⟩ : ∃ Lg, Lg = lng x y av ms8 j := ⟨_, rfl⟩
                rw [← hLg] at Alng ⊢
                have hne := fun V => ne_node_same cb V
                clear hlng hle7 hLg
                rcases Au9.out with ⟨rfl, hl9⟩ | ⟨rfl, hs9, a9, c9, ms9, rfl, hL9, hit9⟩
                · have hLt : Lg = true := Alng.out.2 hl9
                  subst hLt
                  clear hl9 Au9
                  go_wp2_with fail
                  refine AGo.out.mono ?_
                  rintro e wg ⟨rfl, rfl⟩
                  have ABr := ABr0
                  have ATr := ATr0
                  have AT3r := AT3r0
                  clear ABr0 ATr0 AT3r0 AGo
                  have AKi := aside (ATr.out.kind Amb.out.2.2.1)
                  rw [Ac2.out.2.1, ← Acb.out, Ac2.out.2.2.1] at AKi
                  obtain ⟨ck, hck⟩ : ∃ ck : Int, ck = (cE.k : Int) := ⟨_, rfl⟩
                  have Ack := aside hck
                  rw [← hck] at AKi
                  clear hck
                  go_wp2_with fail
                  refine AKi.out.mono ?_
                  rintro e wk ⟨rfl, rfl⟩
                  by_cases hk0 : ck = 0
                  · have hkE : cE.k = 0 := by have := Ack.out; omega
                    obtain ⟨-, hx4, hlf⟩ := ATr.out.lef _ Amb.out.2.2.1 (by rw [Ac2.out.2.2.1, hkE]; decide)
                    rcases hlf with ⟨-, fbk, hbk, -, hFl, hMf⟩ | hlf
                    rotate_left
                    · exact absurd hlf (by rintro (⟨h, -⟩ | ⟨h, -⟩ | ⟨h, -⟩) <;> (rw [Ac2.out.2.2.1, hkE] at h; exact absurd h (by decide)))
                    rw [Ac2.out.2.1, ← Acb.out] at hFl
                    rw [Ac2.out.2.2.2] at hMf hx4
                    have AOp := aside (open_file cb fbk hbk _ hFl)
                    have AAl := aside (mAll_any _ hbk cE.x _ hMf hx4)
                    subst hk0
                    clear hkE hFl hMf hx4 AKi
                    go_wp2_with fail
                    refine AOp.out.mono ?_
                    rintro e wo ⟨rfl, rfl⟩
                    go_wp2_with fail
                    refine AAl.out.mono ?_
                    rintro e w11 ⟨a11, c11, rfl, hr11, hrb11, hb11⟩
                    have hD11 := Dat.of_row (lo := 0) hr11 (fun k _ => Nat.zero_le _)
                    have ABx := aside (below_tr ABr.out hb11)
                    have ATx := aside (ATr.out.below hb11)
                    have AT3x := aside (AT3r.out.below hb11)
                    have hstr := str_all w11 a11 cE.x c11 hD11.bs
                    have AIx := aside (AI.out.below ABx.out)
                    have ABs := aside hD11.bs
                    obtain ⟨CX, hCX⟩ : ∃ CX, CX = ba cE.x := ⟨_, rfl⟩
                    have ACX := aside hCX
                    rw [← hCX] at hstr
                    obtain ⟨nl, hnl2⟩ : ∃ nl, nl = cE.x.length := ⟨_, rfl⟩
                    rw [← hnl2] at hstr ⊢
                    have Anl := aside hnl2
                    clear hr11 hrb11 hb11 hD11 hCX hnl2 AOp AAl hstr
                    go_wp2_with fail
                    go_loopg [36] j (fun gg s36 wx => ∃ j2 : Nat, j2 + gg = j ∧ s36 = .int .i64 (j2 : Int) ∧ Below w11.heap.size w11 wx)
                    case atStart => exact ⟨0, by omega, rfl, Below.refl _ _⟩
                    case round =>
                      obtain ⟨j2, hjg2, rfl, hbj⟩ := hrel
                      have ABj := aside hbj
                      clear hbj
                      cases gk with
                      | zero =>
                        obtain rfl : j2 = j := by omega
                        have hj2 : ¬ ((j2 : Int) < (j2 : Int)) := by omega
                        have ABy := aside (below_tr ABx.out ABj.out)
                        have ATy := aside (ATx.out.below ABj.out)
                        have AT3y := aside (AT3x.out.below ABj.out)
                        clear ABx ATx AT3x
                        have ABx := ABy
                        have ATx := ATy
                        have AT3x := AT3y
                        clear ABy ATy AT3y
                        have AMb := aside (tmove_any ATx.out Amb.out.2.1 Ahtk.out Amb.out.1 A3.out.dk Amb.out.2.2.1 Ac2.out.1 (lst x) (by rw [len_mvd]; exact ATo.out.few))
                        rw [← Atb.out, ← Afb.out, ← AAa.out, ← ALX.out, Amb.out.2.2.2.1] at AMb
                        go_wp2_with fail
                        refine AMb.out.mono ?_
                        rintro e w20 ⟨rfl, hu20, h20⟩
                        have hT20 : Tr w1.heap.size w20 S := by
                          rcases h20 with ⟨-, h⟩ | ⟨h, -⟩
                          · exact h.perm Amb.out.2.2.2.2
                          · exact absurd rfl h
                        have AB20 : Aside (Below w.heap.size w w20) := ABx.out.trans (hu20.below ABx.out.size (fun k hk => Nat.le_trans AB1.out.size (blk_lo AT7.out hk)))
                        have AM20 := aside (AM.out.below AB20.out AM.out.lt)
                        have hT320 := AT3x.out.later AT2.out (Nat.le_refl _) (hu20.mono fun _ _ hj => blk_mvd hj)
                        obtain ⟨u1, u2, -, -⟩ := ATo.out.items hT20
                        have hs1 : sameB S r S3 r3 = true := by unfold sameB; rw [u1, u2, Av1.out, Av2.out]; simp
                        have AS1 := aside (tsame_any hT20 hT320 r r3 ATo.out.rin ATo.out.rk ATo3.out.rin ATo3.out.rk)
                        rw [hs1, ← Anb.out, ← Anb3.out] at AS1
                        clear u1 u2 hs1 hT20 hT320 h20 hu20 AMb
                        go_wp2_with fail
                        refine AS1.out.mono ?_
                        rintro e w21 ⟨rfl, hb21⟩
                        have AB21 := aside hb21
                        clear hb21 AS1
                        go_wp2_with fail
                        refine (wakes19_any _ (AM20.out.below AB21.out AM20.out.lt)).mono ?_
                        rintro e w22 ⟨rfl, hb22⟩
                        have AB22 := aside hb22
                        clear hb22
                        go_wp2_with fail
                        go_ret
                        exact ⟨rfl, below_tr (below_tr AB20.out AB21.out) AB22.out⟩

                      | succ gk =>
                        have hj2 : (j2 : Int) < (j : Int) := by omega
                        have hj20 : (0 : Int) ≤ (j2 : Int) := by omega
                        have hwj : IntKind.i64.wrap ((j2 : Int) + 1) = ((j2 + 1 : Nat) : Int) := by rw [wrap_small _ (by omega) (by omega)]; simp
                        obtain ⟨m2, hm2⟩ : ∃ m2, ms[j2]? = some m2 := ⟨_, List.getElem?_eq_getElem (by rw [← AN.out]; omega)⟩
                        have hInr := AIx.out.below ABj.out
                        obtain ⟨g2, o2, hgg, e0, -, e2⟩ := hInr.at hm2
                        injection hgg with hgg
                        injection hgg with hg1 hg2
                        subst hg1
                        subst hg2
                        have hbs := (hInr.dat m2 (List.mem_of_getElem? hm2)).1
                        have E0 := fun dd os => ext_cell e0 dd os
                        have E2 := fun dd os => ext_cell e2 dd os
                        have S1 := fun dd os => str_all (ext wr dd os) a11 cE.x c11 ((ABs.out.below ABj.out).below (below_ext wr dd os))
                        have S2 := fun dd os => str_all (ext wr dd os) m2.a m2.x m2.c (hbs.below (below_ext wr dd os))
                        have hDC : (m2.p.toList == X.toList) = true → ba m2.x = CX := fun h => by
                          have h1 := beq_iff_eq.1 h
                          rw [Lib.toList_data, Lib.toList_data, AX.out, ba_list, Ax.out] at h1
                          have h2 : m2.it = mi.it := nodup_key Av3.out (List.mem_map.2 ⟨m2, List.mem_of_getElem? hm2, rfl⟩) Ahii.out h1
                          have h3 : m2.x = mi.x := congrArg (fun i : It => i.2.2) h2
                          rw [ACX.out, A3.out.cx, h3]; rfl
                        obtain ⟨P2, hP2⟩ : ∃ P2, P2 = m2.p := ⟨_, rfl⟩
                        obtain ⟨xa, hxa⟩ : ∃ xa, xa = m2.a := ⟨_, rfl⟩
                        obtain ⟨xn, hxn⟩ : ∃ xn, xn = m2.x.length := ⟨_, rfl⟩
                        obtain ⟨xc, hxc⟩ : ∃ xc, xc = m2.c := ⟨_, rfl⟩
                        obtain ⟨D2, hD2⟩ : ∃ D2, D2 = ba m2.x := ⟨_, rfl⟩
                        rw [← hP2] at E0 hDC
                        rw [← hxa, ← hxn, ← hxc] at E2 S2
                        rw [← hD2] at S2 hDC
                        rw [← ACX.out, ← Anl.out] at S1
                        clear hP2 hxa hxn hxc hD2 e0 e2 hbs hInr hm2
                        by_cases hE : (P2.toList == X.toList) = true
                        · obtain rfl := hDC hE
                          clear hDC
                          go_wp2_with fail
                          refine region_ext (by kernel_rfl) (by kernel_rfl) ?_
                          repeat (any_goals (first | go_big_quiet_step (fail) | quiet_step (fail)))
                          refine wpQuiet_nil ?_
                          intro w13 hw13
                          have AB13 := aside (below_tr ABj.out hw13)
                          clear hw13 E0 E2 S1 S2
                          go_wp2_with fail
                          go_roundg gk
                          case measure => omega
                          case rel => exact ⟨j2 + 1, by omega, by first | rfl | simp, AB13.out⟩
                        · rw [Bool.not_eq_true] at hE
                          clear hDC S1 S2 E2
                          go_wp2_with fail
                          refine region_ext (by kernel_rfl) (by kernel_rfl) ?_
                          repeat (any_goals (first | go_big_quiet_step (fail) | quiet_step (fail)))
                          refine wpQuiet_nil ?_
                          intro w13 hw13
                          have AB13 := aside (below_tr ABj.out hw13)
                          clear hw13 E0
                          go_wp2_with fail
                          go_roundg gk
                          case measure => omega
                          case rel => exact ⟨j2 + 1, by omega, by first | rfl | simp, AB13.out⟩
                  · have hkb : (ck == 0) = false := beq_eq_false_iff_ne.2 hk0
                    have ABx := ABr
                    have ATx := ATr
                    have AT3x := AT3r
                    have AMb := aside (tmove_any ATx.out Amb.out.2.1 Ahtk.out Amb.out.1 A3.out.dk Amb.out.2.2.1 Ac2.out.1 (lst x) (by rw [len_mvd]; exact ATo.out.few))
                    rw [← Atb.out, ← Afb.out, ← AAa.out, ← ALX.out, Amb.out.2.2.2.1] at AMb
                    go_wp2_with fail
                    refine AMb.out.mono ?_
                    rintro e w20 ⟨rfl, hu20, h20⟩
                    have hT20 : Tr w1.heap.size w20 S := by
                      rcases h20 with ⟨-, h⟩ | ⟨h, -⟩
                      · exact h.perm Amb.out.2.2.2.2
                      · exact absurd rfl h
                    have AB20 : Aside (Below w.heap.size w w20) := ABx.out.trans (hu20.below ABx.out.size (fun k hk => Nat.le_trans AB1.out.size (blk_lo AT7.out hk)))
                    have AM20 := aside (AM.out.below AB20.out AM.out.lt)
                    have hT320 := AT3x.out.later AT2.out (Nat.le_refl _) (hu20.mono fun _ _ hj => blk_mvd hj)
                    obtain ⟨u1, u2, -, -⟩ := ATo.out.items hT20
                    have hs1 : sameB S r S3 r3 = true := by unfold sameB; rw [u1, u2, Av1.out, Av2.out]; simp
                    have AS1 := aside (tsame_any hT20 hT320 r r3 ATo.out.rin ATo.out.rk ATo3.out.rin ATo3.out.rk)
                    rw [hs1, ← Anb.out, ← Anb3.out] at AS1
                    clear u1 u2 hs1 hT20 hT320 h20 hu20 AMb
                    go_wp2_with fail
                    refine AS1.out.mono ?_
                    rintro e w21 ⟨rfl, hb21⟩
                    have AB21 := aside hb21
                    clear hb21 AS1
                    go_wp2_with fail
                    refine (wakes19_any _ (AM20.out.below AB21.out AM20.out.lt)).mono ?_
                    rintro e w22 ⟨rfl, hb22⟩
                    have AB22 := aside hb22
                    clear hb22
                    go_wp2_with fail
                    go_ret
                    exact ⟨rfl, below_tr (below_tr AB20.out AB21.out) AB22.out⟩

                · have hLf : Lg = false := by
                    cases Lg with
                    | false => rfl
                    | true =>
                      obtain ⟨i, hi, h⟩ := Alng.out.1 rfl
                      have := hs9 i hi
                      omega
                  subst hLf
                  have hlen9 : ms9.length = j := by
                    have := congrArg List.length hit9
                    rw [(srt_perm ikey _).length_eq, List.length_map, List.length_map, List.length_map, ← AN.out] at this
                    exact this
                  have hg8 : g8 < w8.heap.size := by obtain ⟨cur, h1, -⟩ := AW8.out.blk; exact (Array.getElem?_eq_some_iff.1 h1).1
                  have hI9 : Inp wr a9 ms9 := inp_row (c := c9) (ALp.out.up.row hL9.row (fun k hk e => by have := hL9.rb k hk; omega)) (fun m hm => by
                    have := (hL9.dat m hm).ch ALp.out.ch (Nat.zero_le _) IP_u8
                    exact ⟨this.bs, this.cap, this.top⟩)
                  have hWr := ALp.out.wr
                  rw [← Al8.out, rens_all] at hWr
                  have AOr := aside (ordered_any (ms8.map (Im.ren x y av)).length _ (ms8.map (Im.ren x y av)) j c8 wr (Nat.le_refl _) (by rw [List.length_map, Al8.out]) Anc8.out (by omega) hWr.inp)
                  have hnod : (((ms.map Im.it).map (rni x y av)).map ikey).Nodup := (Anod.out hs9)
                  have Anod2 := aside hnod
                  have AI9 := aside hI9
                  have Ahit9 := aside hit9
                  have Ahlen9 := aside hlen9
                  rw [hlen9]
                  clear hL9 hit9 hlen9 hg8 hI9 hWr hs9 Au9 hnod
                  go_wp2_with fail
                  refine AGo.out.mono ?_
                  rintro e wg ⟨rfl, rfl⟩
                  go_wp2_with fail
                  refine AOr.out.mono ?_
                  rintro e w10 ⟨hb10, a10, c10, ms10, rfl, hc10, hI10, hp10, hr10⟩
                  rw [List.length_map, Al8.out]
                  have hms10 : ms10.map Im.it = srt ikey ((ms.map Im.it).map (rni x y av)) := by
                    refine srt_uniq ikey ?_ (List.pairwise_map.2 hr10) Anod2.out
                    have h1 := hp10.map Im.it
                    rw [List.map_map] at h1
                    have h2 : ms8.map (Im.it ∘ Im.ren x y av) = (ms8.map Im.it).map (rni x y av) := by rw [List.map_map]; exact List.map_congr_left fun m _ => rfl
                    rw [h2, Ait8.out] at h1
                    exact h1.trans ((srt_perm ikey _).map _)
                  have ASI := aside (sameItems_eq a9 a10 ms9 ms10 j c9 c10 w10 Ahlen9.out.symm (by omega) (AI9.out.below hb10) hI10 (by rw [Ahit9.out, hms10]))
                  have AB10 := aside hb10
                  clear hb10 hI10 hp10 hr10 hc10 hms10 AOr
                  go_wp2_with fail
                  refine ASI.out.mono ?_
                  rintro e w10' ⟨rfl, hb10'⟩
                  have ABr := aside (below_tr (below_tr ABr0.out AB10.out) hb10')
                  have ATr := aside ((ATr0.out.below AB10.out).below hb10')
                  have AT3r := aside ((AT3r0.out.below AB10.out).below hb10')
                  clear hb10' ABr0 ATr0 AT3r0 AGo ASI AB10 AI9
                  have AKi := aside (ATr.out.kind Amb.out.2.2.1)
                  rw [Ac2.out.2.1, ← Acb.out, Ac2.out.2.2.1] at AKi
                  obtain ⟨ck, hck⟩ : ∃ ck : Int, ck = (cE.k : Int) := ⟨_, rfl⟩
                  have Ack := aside hck
                  rw [← hck] at AKi
                  clear hck
                  go_wp2_with fail
                  refine AKi.out.mono ?_
                  rintro e wk ⟨rfl, rfl⟩
                  by_cases hk0 : ck = 0
                  · have hkE : cE.k = 0 := by have := Ack.out; omega
                    obtain ⟨-, hx4, hlf⟩ := ATr.out.lef _ Amb.out.2.2.1 (by rw [Ac2.out.2.2.1, hkE]; decide)
                    rcases hlf with ⟨-, fbk, hbk, -, hFl, hMf⟩ | hlf
                    rotate_left
                    · exact absurd hlf (by rintro (⟨h, -⟩ | ⟨h, -⟩ | ⟨h, -⟩) <;> (rw [Ac2.out.2.2.1, hkE] at h; exact absurd h (by decide)))
                    rw [Ac2.out.2.1, ← Acb.out] at hFl
                    rw [Ac2.out.2.2.2] at hMf hx4
                    have AOp := aside (open_file cb fbk hbk _ hFl)
                    have AAl := aside (mAll_any _ hbk cE.x _ hMf hx4)
                    subst hk0
                    clear hkE hFl hMf hx4 AKi
                    go_wp2_with fail
                    refine AOp.out.mono ?_
                    rintro e wo ⟨rfl, rfl⟩
                    go_wp2_with fail
                    refine AAl.out.mono ?_
                    rintro e w11 ⟨a11, c11, rfl, hr11, hrb11, hb11⟩
                    have hD11 := Dat.of_row (lo := 0) hr11 (fun k _ => Nat.zero_le _)
                    have ABx := aside (below_tr ABr.out hb11)
                    have ATx := aside (ATr.out.below hb11)
                    have AT3x := aside (AT3r.out.below hb11)
                    have hstr := str_all w11 a11 cE.x c11 hD11.bs
                    have AIx := aside (AI.out.below ABx.out)
                    have ABs := aside hD11.bs
                    obtain ⟨CX, hCX⟩ : ∃ CX, CX = ba cE.x := ⟨_, rfl⟩
                    have ACX := aside hCX
                    rw [← hCX] at hstr
                    obtain ⟨nl, hnl2⟩ : ∃ nl, nl = cE.x.length := ⟨_, rfl⟩
                    rw [← hnl2] at hstr ⊢
                    have Anl := aside hnl2
                    clear hr11 hrb11 hb11 hD11 hCX hnl2 AOp AAl hstr
                    go_wp2_with fail
                    go_loopg [36] j (fun gg s36 wx => ∃ j2 : Nat, j2 + gg = j ∧ s36 = .int .i64 (j2 : Int) ∧ Below w11.heap.size w11 wx)
                    case atStart => exact ⟨0, by omega, rfl, Below.refl _ _⟩
                    case round =>
                      obtain ⟨j2, hjg2, rfl, hbj⟩ := hrel
                      have ABj := aside hbj
                      clear hbj
                      cases gk with
                      | zero =>
                        obtain rfl : j2 = j := by omega
                        have hj2 : ¬ ((j2 : Int) < (j2 : Int)) := by omega
                        have ABy := aside (below_tr ABx.out ABj.out)
                        have ATy := aside (ATx.out.below ABj.out)
                        have AT3y := aside (AT3x.out.below ABj.out)
                        clear ABx ATx AT3x
                        have ABx := ABy
                        have ATx := ATy
                        have AT3x := AT3y
                        clear ABy ATy AT3y
                        have AMb := aside (tmove_any ATx.out Amb.out.2.1 Ahtk.out Amb.out.1 A3.out.dk Amb.out.2.2.1 Ac2.out.1 (lst x) (by rw [len_mvd]; exact ATo.out.few))
                        rw [← Atb.out, ← Afb.out, ← AAa.out, ← ALX.out, Amb.out.2.2.2.1] at AMb
                        go_wp2_with fail
                        refine AMb.out.mono ?_
                        rintro e w20 ⟨rfl, hu20, h20⟩
                        have hT20 : Tr w1.heap.size w20 S := by
                          rcases h20 with ⟨-, h⟩ | ⟨h, -⟩
                          · exact h.perm Amb.out.2.2.2.2
                          · exact absurd rfl h
                        have AB20 : Aside (Below w.heap.size w w20) := ABx.out.trans (hu20.below ABx.out.size (fun k hk => Nat.le_trans AB1.out.size (blk_lo AT7.out hk)))
                        have AM20 := aside (AM.out.below AB20.out AM.out.lt)
                        have hT320 := AT3x.out.later AT2.out (Nat.le_refl _) (hu20.mono fun _ _ hj => blk_mvd hj)
                        obtain ⟨u1, u2, -, -⟩ := ATo.out.items hT20
                        have hs1 : sameB S r S3 r3 = true := by unfold sameB; rw [u1, u2, Av1.out, Av2.out]; simp
                        have AS1 := aside (tsame_any hT20 hT320 r r3 ATo.out.rin ATo.out.rk ATo3.out.rin ATo3.out.rk)
                        rw [hs1, ← Anb.out, ← Anb3.out] at AS1
                        clear u1 u2 hs1 hT20 hT320 h20 hu20 AMb
                        go_wp2_with fail
                        refine AS1.out.mono ?_
                        rintro e w21 ⟨rfl, hb21⟩
                        have AB21 := aside hb21
                        clear hb21 AS1
                        go_wp2_with fail
                        refine (wakes19_any _ (AM20.out.below AB21.out AM20.out.lt)).mono ?_
                        rintro e w22 ⟨rfl, hb22⟩
                        have AB22 := aside hb22
                        clear hb22
                        go_wp2_with fail
                        go_ret
                        exact ⟨rfl, below_tr (below_tr AB20.out AB21.out) AB22.out⟩

                      | succ gk =>
                        have hj2 : (j2 : Int) < (j : Int) := by omega
                        have hj20 : (0 : Int) ≤ (j2 : Int) := by omega
                        have hwj : IntKind.i64.wrap ((j2 : Int) + 1) = ((j2 + 1 : Nat) : Int) := by rw [wrap_small _ (by omega) (by omega)]; simp
                        obtain ⟨m2, hm2⟩ : ∃ m2, ms[j2]? = some m2 := ⟨_, List.getElem?_eq_getElem (by rw [← AN.out]; omega)⟩
                        have hInr := AIx.out.below ABj.out
                        obtain ⟨g2, o2, hgg, e0, -, e2⟩ := hInr.at hm2
                        injection hgg with hgg
                        injection hgg with hg1 hg2
                        subst hg1
                        subst hg2
                        have hbs := (hInr.dat m2 (List.mem_of_getElem? hm2)).1
                        have E0 := fun dd os => ext_cell e0 dd os
                        have E2 := fun dd os => ext_cell e2 dd os
                        have S1 := fun dd os => str_all (ext wr dd os) a11 cE.x c11 ((ABs.out.below ABj.out).below (below_ext wr dd os))
                        have S2 := fun dd os => str_all (ext wr dd os) m2.a m2.x m2.c (hbs.below (below_ext wr dd os))
                        have hDC : (m2.p.toList == X.toList) = true → ba m2.x = CX := fun h => by
                          have h1 := beq_iff_eq.1 h
                          rw [Lib.toList_data, Lib.toList_data, AX.out, ba_list, Ax.out] at h1
                          have h2 : m2.it = mi.it := nodup_key Av3.out (List.mem_map.2 ⟨m2, List.mem_of_getElem? hm2, rfl⟩) Ahii.out h1
                          have h3 : m2.x = mi.x := congrArg (fun i : It => i.2.2) h2
                          rw [ACX.out, A3.out.cx, h3]; rfl
                        obtain ⟨P2, hP2⟩ : ∃ P2, P2 = m2.p := ⟨_, rfl⟩
                        obtain ⟨xa, hxa⟩ : ∃ xa, xa = m2.a := ⟨_, rfl⟩
                        obtain ⟨xn, hxn⟩ : ∃ xn, xn = m2.x.length := ⟨_, rfl⟩
                        obtain ⟨xc, hxc⟩ : ∃ xc, xc = m2.c := ⟨_, rfl⟩
                        obtain ⟨D2, hD2⟩ : ∃ D2, D2 = ba m2.x := ⟨_, rfl⟩
                        rw [← hP2] at E0 hDC
                        rw [← hxa, ← hxn, ← hxc] at E2 S2
                        rw [← hD2] at S2 hDC
                        rw [← ACX.out, ← Anl.out] at S1
                        clear hP2 hxa hxn hxc hD2 e0 e2 hbs hInr hm2
                        by_cases hE : (P2.toList == X.toList) = true
                        · obtain rfl := hDC hE
                          clear hDC
                          go_wp2_with fail
                          refine region_ext (by kernel_rfl) (by kernel_rfl) ?_
                          repeat (any_goals (first | go_big_quiet_step (fail) | quiet_step (fail)))
                          refine wpQuiet_nil ?_
                          intro w13 hw13
                          have AB13 := aside (below_tr ABj.out hw13)
                          clear hw13 E0 E2 S1 S2
                          go_wp2_with fail
                          go_roundg gk
                          case measure => omega
                          case rel => exact ⟨j2 + 1, by omega, by first | rfl | simp, AB13.out⟩
                        · rw [Bool.not_eq_true] at hE
                          clear hDC S1 S2 E2
                          go_wp2_with fail
                          refine region_ext (by kernel_rfl) (by kernel_rfl) ?_
                          repeat (any_goals (first | go_big_quiet_step (fail) | quiet_step (fail)))
                          refine wpQuiet_nil ?_
                          intro w13 hw13
                          have AB13 := aside (below_tr ABj.out hw13)
                          clear hw13 E0
                          go_wp2_with fail
                          go_roundg gk
                          case measure => omega
                          case rel => exact ⟨j2 + 1, by omega, by first | rfl | simp, AB13.out⟩
                  · have hkb : (ck == 0) = false := beq_eq_false_iff_ne.2 hk0
                    have ABx := ABr
                    have ATx := ATr
                    have AT3x := AT3r
                    have AMb := aside (tmove_any ATx.out Amb.out.2.1 Ahtk.out Amb.out.1 A3.out.dk Amb.out.2.2.1 Ac2.out.1 (lst x) (by rw [len_mvd]; exact ATo.out.few))
                    rw [← Atb.out, ← Afb.out, ← AAa.out, ← ALX.out, Amb.out.2.2.2.1] at AMb
                    go_wp2_with fail
                    refine AMb.out.mono ?_
                    rintro e w20 ⟨rfl, hu20, h20⟩
                    have hT20 : Tr w1.heap.size w20 S := by
                      rcases h20 with ⟨-, h⟩ | ⟨h, -⟩
                      · exact h.perm Amb.out.2.2.2.2
                      · exact absurd rfl h
                    have AB20 : Aside (Below w.heap.size w w20) := ABx.out.trans (hu20.below ABx.out.size (fun k hk => Nat.le_trans AB1.out.size (blk_lo AT7.out hk)))
                    have AM20 := aside (AM.out.below AB20.out AM.out.lt)
                    have hT320 := AT3x.out.later AT2.out (Nat.le_refl _) (hu20.mono fun _ _ hj => blk_mvd hj)
                    obtain ⟨u1, u2, -, -⟩ := ATo.out.items hT20
                    have hs1 : sameB S r S3 r3 = true := by unfold sameB; rw [u1, u2, Av1.out, Av2.out]; simp
                    have AS1 := aside (tsame_any hT20 hT320 r r3 ATo.out.rin ATo.out.rk ATo3.out.rin ATo3.out.rk)
                    rw [hs1, ← Anb.out, ← Anb3.out] at AS1
                    clear u1 u2 hs1 hT20 hT320 h20 hu20 AMb
                    go_wp2_with fail
                    refine AS1.out.mono ?_
                    rintro e w21 ⟨rfl, hb21⟩
                    have AB21 := aside hb21
                    clear hb21 AS1
                    go_wp2_with fail
                    refine (wakes19_any _ (AM20.out.below AB21.out AM20.out.lt)).mono ?_
                    rintro e w22 ⟨rfl, hb22⟩
                    have AB22 := aside hb22
                    clear hb22
                    go_wp2_with fail
                    go_ret
                    exact ⟨rfl, below_tr (below_tr AB20.out AB21.out) AB22.out⟩
              | succ gk =>
                have hj : (j : Int) < (n : Int) := by omega
                have hj0 : (0 : Int) ≤ (j : Int) := by omega
                have hwj : IntKind.i64.wrap ((j : Int) + 1) = ((j + 1 : Nat) : Int) := by rw [wrap_small _ (by omega) (by omega)]; simp
                obtain ⟨m, hm⟩ : ∃ m, ms8[j]? = some m := ⟨_, List.getElem?_eq_getElem (by rw [Al8.out]; omega)⟩
                have Am := aside hm
                obtain ⟨g', o', hgg, e0, -, -⟩ := ALp.out.wr.inp.at (rens_at (x := x) (y := y) (a := av) hm)
                injection hgg with hgg
                injection hgg with hg1 hg2
                subst hg1
                subst hg2
                rw [Nat.zero_add] at e0
                have hmf : m.p.size ≤ 4096 := by
                  have h1 : m.it ∈ ms8.map Im.it := List.mem_map.2 ⟨m, List.mem_of_getElem? hm, rfl⟩
                  rw [Ait8.out, srt_mem] at h1
                  exact (ATo.out.fin m.it h1).1
                obtain ⟨P, hP⟩ : ∃ P, P = m.p := ⟨_, rfl⟩
                have AP := aside hP
                rw [← hP] at e0 hmf
                have hXs : X.size ≤ 4096 := by rw [AX.out, ba_size]; exact hxl
                have hYs : Y.size ≤ 4096 := by rw [AY.out, ba_size]; exact hyl
                obtain ⟨Lg, hLg⟩ : ∃ Lg, Lg = lng x y av ms8 j := ⟨_, rfl⟩
                have ALg := aside hLg
                rw [← hLg]
                clear hm hP hLg
                obtain ⟨cur, hcur, -⟩ := ALp.out.wr.blk
                have hfr : wr.frozen? ⟨g8, j * 3, none⟩ = false := frozen_of_row wr _ (j * 3) _ _ hcur
                have hpp := pre_eqs m.p.data.toList x
                rw [ba_of, ← AX.out, ← AP.out] at hpp
                have hpi := pre_iff x m.p.data.toList
                have hcase : (spl x <+: spl m.p.data.toList ∧ ((P.toList == X.toList) = true ∨ ((P.toList == X.toList) = false ∧ X.size < P.size ∧ ((P.extract 0 (X.size + 1)).toList == (X ++ ⟨#[47]⟩).toList) = true))) ∨ (¬ spl x <+: spl m.p.data.toList ∧ (((P.toList == X.toList) = false ∧ ¬ X.size < P.size) ∨ ((P.toList == X.toList) = false ∧ X.size < P.size ∧ ((P.extract 0 (X.size + 1)).toList == (X ++ ⟨#[47]⟩).toList) = false))) := by
                  cases h1 : (P.toList == X.toList)
                  · cases h2 : ((P.extract 0 (X.size + 1)).toList == (X ++ ⟨#[47]⟩).toList)
                    · refine .inr ⟨fun e => ?_, ?_⟩
                      · rcases hpi.1 e with e | e
                        · rw [hpp.1.2 (by rw [← AP.out] at e; exact e)] at h1; cases h1
                        · rw [hpp.2.2 (by rw [← AP.out] at e; exact e)] at h2; cases h2
                      · by_cases h3 : X.size < P.size
                        · exact .inr ⟨rfl, h3, rfl⟩
                        · exact .inl ⟨rfl, h3⟩
                    · have h3 := hpp.2.1 h2
                      refine .inl ⟨hpi.2 (.inr (by rw [← AP.out]; exact h3)), .inr ⟨rfl, ?_, rfl⟩⟩
                      have h4 := congrArg List.length h3
                      have h5 := Lib.size_eq P
                      have h6 : X.size = x.length := by rw [AX.out, ba_size]
                      rw [List.length_take, List.length_append, List.length_singleton] at h4
                      omega
                  · exact .inl ⟨hpi.2 (.inl (by rw [← AP.out]; exact hpp.1.1 h1)), .inl rfl⟩
                clear hpp hpi hcur
                have hsl0 : (0 : Int) ≤ (X.size : Int) := by omega
                rcases hcase with ⟨hun, hcase⟩ | ⟨hun, hcase⟩
                · obtain ⟨r1, r2, r3⟩ := ren_text (y := y) (a := av) hun
                  rw [← AX.out, ← AY.out, ← AAa.out, ← AP.out] at r1 r3
                  rw [← AX.out, ← AP.out] at r2
                  have Ar1 := aside r1
                  have Alg : Aside (lng x y av ms8 (j + 1) = (Lg || decide (4096 < Y.size + 1 + A.size + (P.size - X.size)))) := by
                    show _ = _
                    rw [lng_succ Am.out, ← ALg.out, decide_eq_true hun, Bool.true_and, r3]
                  have r4 : (X.size : Int) ≤ (P.size : Int) := by omega
                  have ALs : Aside (Lp x y av w7.heap.size g8 ms8 w9 (j + 1) (wr.setCell ⟨g8, j * 3, none⟩ (.string (Y ++ ⟨#[47]⟩ ++ A ++ P.extract X.size P.size)))) := by
                    refine ⟨?_, ALp.out.ch.trans (wr_ch ALp.out.wr _).1, ALp.out.up.trans (wr_ch ALp.out.wr _).2 (fun _ _ h => h)⟩
                    rw [rens_succ Am.out, Ar1.out]
                    exact ALp.out.wr.set (rens_at Am.out) _
                  clear r1 r3 hun
                  rcases hcase with hE | ⟨hE, hlen, hS⟩
                  · cases Lg with
                    | true =>
                      go_wp2_with fail
                      go_roundg gk
                      case measure => omega
                      case rel => exact ⟨j + 1, by omega, by first | rfl | simp, by rw [Alg.out]; rfl, ALs.out⟩
                    | false =>
                      go_wp2_with fail
                      go_roundg gk
                      case measure => omega
                      case rel => exact ⟨j + 1, by omega, by first | rfl | simp, by rw [Alg.out, Bool.false_or]; congr 1; exact decide_eq_decide.2 (by omega), ALs.out⟩
                  · have hl1 : (X.size : Int) < (P.size : Int) := by omega
                    cases Lg with
                    | true =>
                      go_wp2_with fail
                      go_roundg gk
                      case measure => omega
                      case rel => exact ⟨j + 1, by omega, by first | rfl | simp, by rw [Alg.out]; rfl, ALs.out⟩
                    | false =>
                      go_wp2_with fail
                      go_roundg gk
                      case measure => omega
                      case rel => exact ⟨j + 1, by omega, by first | rfl | simp, by rw [Alg.out, Bool.false_or]; congr 1; exact decide_eq_decide.2 (by omega), ALs.out⟩
                · have Alg : Aside (lng x y av ms8 (j + 1) = Lg) := by
                    show _ = _
                    rw [lng_succ Am.out, ← ALg.out, decide_eq_false hun, Bool.false_and, Bool.or_false]
                  have ALs : Aside (Lp x y av w7.heap.size g8 ms8 w9 (j + 1) wr) := by
                    refine ⟨?_, ALp.out.ch, ALp.out.up⟩
                    rw [rens_succ Am.out, ren_same hun, set_self (rens_at Am.out)]
                    exact ALp.out.wr
                  clear hun
                  rcases hcase with ⟨hE, hlen⟩ | ⟨hE, hlen, hS⟩
                  · have hl1 : ¬ (X.size : Int) < (P.size : Int) := by omega
                    go_wp2_with fail
                    go_roundg gk
                    case measure => omega
                    case rel => exact ⟨j + 1, by omega, by first | rfl | simp, by rw [Alg.out], ALs.out⟩
                  · have hl1 : (X.size : Int) < (P.size : Int) := by omega
                    go_wp2_with fail
                    go_roundg gk
                    case measure => omega
                    case rel => exact ⟨j + 1, by omega, by first | rfl | simp, by rw [Alg.out], ALs.out⟩
end Go.Proofs.YtbnaegoahdcejaaGreatDoor
