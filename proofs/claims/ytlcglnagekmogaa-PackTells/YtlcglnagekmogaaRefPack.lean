/- The document's own Pack. -/
import Derived.Test.YtlcglnagekmogaaRefRun
namespace Go.Proofs.Ytlcglnagekmogaa
open Go.RowKit
attribute [local simp] lcells_nil readB_length bcells_length
set_option maxRecDepth 20000

theorem own_row {w : World} {g : Nat} {l : List UInt8} (h : RowB w g l) (hl : l.length ≤ maxLen) : Own w (.slice (some ⟨g, 0, none⟩) l.length l.length) l :=
  ⟨by simp, .inr ⟨g, l.length, (bcells l).toArray, rfl, Nat.zero_le _, h, Nat.le_refl _, hl, by simp, by rw [Nat.mul_one]; exact List.take_of_length_le (by rw [bcells_length]; exact Nat.le_refl _)⟩⟩

set_option maxHeartbeats 4000000 in
theorem refPack_any (a : Option Addr) (l : List UInt8) (c : Nat) (w : World) (h : BsAt w a l) (hlc : l.length ≤ c) :
    Calls Try.prog 12 #[.slice a l.length c] w fun e w' => ∃ a' c', e = .returned (.tuple #[.slice a' (pkB l).length c', .int .i64 (pkE l)]) ∧ BsAt w' a' (pkB l) ∧ Below w.heap.size w w' := by
  by_cases h4 : 65536 < l.length
  · have t1 : (65536 : Int) < (l.length : Int) := by omega
    have H1 : Aside (pkB l = []) := by unfold pkB; rw [if_pos h4]; exact aside rfl
    have H2 : Aside (pkE l = 3) := by unfold pkE; rw [if_pos h4]; exact aside rfl
    go_enter Try.func12, Try.ntmps12
    go_wp2_with fail
    go_ret2
    rw [H1.out, H2.out]
    exact ⟨none, 0, rfl, fun h => absurd rfl h, Below.refl _ _⟩
  · have t1 : ¬ ((65536 : Int) < (l.length : Int)) := by omega
    have H1 : Aside (pkB l = pck l) := by unfold pkB; rw [if_neg h4]; exact aside rfl
    have H2 : Aside (pkE l = 0) := by unfold pkE; rw [if_neg h4]; exact aside rfl
    have hP := pck_length l
    have hpk : pck l = four l.length ++ pks l 0 0 := rfl
    have hl : l.length ≤ 65536 := by omega
    have HBS := aside h
    have hfc : #[Value.int .u8 ((l.length : Int) / 16777216), .int .u8 ((l.length : Int) / 65536), .int .u8 ((l.length : Int) / 256 % 256), .int .u8 ((l.length : Int) % 256)] = (bcells (four l.length)).toArray := by
      have e : ∀ k : Nat, ((UInt8.ofNat k).toNat : Int) = (k : Int) % 256 := fun k => by rw [UInt8.toNat_ofNat']; omega
      simp only [bcells, four, List.map_cons, List.map_nil, e]
      rw [show ((l.length / 16777216 : Nat) : Int) % 256 = (l.length : Int) / 16777216 by omega, show ((l.length / 65536 : Nat) : Int) % 256 = (l.length : Int) / 65536 by omega, show ((l.length / 256 : Nat) : Int) % 256 = (l.length : Int) / 256 % 256 by omega]
    have HFC := aside hfc
    have HPK := aside hpk
    have HPL := aside hP
    clear h hfc hpk
    go_enter Try.func12, Try.ntmps12
    go_wp2_with fail
    have HI : Aside (Grw w (w.alloc (.cells #[.int .u8 ((l.length : Int) / 16777216), .int .u8 ((l.length : Int) / 65536), .int .u8 ((l.length : Int) / 256 % 256), .int .u8 ((l.length : Int) % 256)] 5)) (.slice (some ⟨w.heap.size, 0, none⟩) 4 4) (four l.length)) := by
      rw [HFC.out]
      exact ⟨own_row (heap_new w _) (by unfold maxLen; simp [four]), below_al w _, fun k hk => by simp only [Value.ownBlock, Option.some.injEq] at hk; omega⟩
    go_loopw [5, 6, 7] (fun s5 s6 s7 wr => ∃ (v : Value) (done : List UInt8) (f p : Nat), s5 = v ∧ s6 = .int .i64 (f : Int) ∧ s7 = .int .i64 (p : Int) ∧ f ≤ p ∧ p ≤ l.length ∧ Aside (Grw w wr v done) ∧ Aside (done ++ pks l f p = pck l)) (fun _ _ s7 _ => l.length - (intOf s7).toNat)
    case atStart => exact ⟨_, four l.length, 0, 0, rfl, rfl, rfl, by omega, by omega, HI, aside rfl⟩
    case round =>
      obtain ⟨v, done, f, p, hv0, rfl, rfl, hfp, hpl, hG, hE⟩ := hrel
      subst hv0
      have hlen := congrArg List.length hE.out
      rw [List.length_append] at hlen
      by_cases hlt : p < l.length
      · have t2 : (p : Int) < (l.length : Int) := by omega
        have RM := aside (refMatch_any a l c p wr (HBS.out.below hG.out.below) hl hlt)
        obtain ⟨k, hk⟩ : ∃ k, k = (mtc l p).1 := ⟨_, rfl⟩
        obtain ⟨d, hd⟩ : ∃ d, d = (mtc l p).2 := ⟨_, rfl⟩
        rw [← hk, ← hd] at RM
        by_cases hk0 : k = 0
        · have HE : Aside (done ++ pks l f (p + 1) = pck l) := by rw [← pks_on hlt (by rw [← hk]; exact hk0)]; exact hE
          subst hk0
          clear hk hd hlen
          go_wp2_with fail
          refine RM.out.mono ?_
          rintro e w1 ⟨rfl, hb1⟩
          have HG1 := aside (hG.out.quiet hb1)
          clear hb1
          go_wp2_with fail
          go_roundw
          case rel => exact ⟨_, done, f, p + 1, rfl, rfl, by go_num, by omega, by omega, HG1, HE⟩
          case measure => simp [intOf]; omega
        · have hkd := mtc_ok l p
          rw [← hk, ← hd] at hkd
          obtain ⟨k1, k2, k3, k4, k5, k6, -⟩ : 3 ≤ k ∧ k ≤ 130 ∧ p + k ≤ l.length ∧ 1 ≤ d ∧ d ≤ 255 ∧ d ≤ p ∧ True := by
            rcases hkd with h | ⟨h1, h2, h3, h4, h5, h6, -⟩
            · exact absurd h hk0
            · exact ⟨h1, h2, h3, h4, h5, h6, trivial⟩
          obtain ⟨x, hx⟩ : ∃ x, x = UInt8.ofNat (k + 125) := ⟨_, rfl⟩
          obtain ⟨y, hy⟩ : ∃ y, y = UInt8.ofNat d := ⟨_, rfl⟩
          have hxn : (x.toNat : Nat) = k + 125 := by rw [hx, UInt8.toNat_ofNat']; omega
          have hyn : (y.toNat : Nat) = d := by rw [hy, UInt8.toNat_ofNat']; omega
          have hx1 : (k : Int) + 125 = ((x.toNat : Nat) : Int) := by omega
          have hx2 := byte_lt x
          have hpm := pks_match (b := l) (f := f) (p := p) hlt (by rw [← hk]; exact hk0)
          rw [← hk, ← hd, ← hx, ← hy, ← List.drop_take] at hpm
          have HE : Aside ((done ++ runs ((l.take p).drop f) ++ [x, y]) ++ pks l (p + k) (p + k) = pck l) := by
            rw [← hE.out, hpm]
            exact aside (by simp)
          have hlen2 : done.length + (runs ((l.take p).drop f)).length + 2 ≤ 131072 := by
            have := congrArg List.length HE.out
            have := HPL.out
            simp only [List.length_append, List.length_cons, List.length_nil] at *
            omega
          obtain ⟨ar, s1, hbr⟩ := slice_lh a l c f p hfp hpl hlc
          have HBR := aside (hbr w HBS.out)
          have hrc : ((l.take p).drop f).length ≤ c - f := by rw [List.length_drop, List.length_take]; omega
          obtain ⟨pk, hpk⟩ : ∃ pk, pk = p + k := ⟨_, rfl⟩
          have hpk1 : (p : Int) + (k : Int) = (pk : Int) := by omega
          rw [← hpk] at HE
          have hpk2 : pk ≤ l.length := by omega
          have hpk3 : p < pk := by omega
          generalize (l.take p).drop f = lr at *
          have HYC : Aside (∀ W : World, (W.alloc (.cells #[.int .u8 (x.toNat : Nat), .int .u8 (d : Int)] 5)).heap[W.heap.size]? = some (.cells (bcells [x, y]).toArray 5 (0, 0))) := fun W => by
            have e : (bcells [x, y]).toArray = #[.int .u8 (x.toNat : Nat), .int .u8 (d : Int)] := by rw [← hyn]; rfl
            rw [e]
            exact heap_alloc_new W _
          clear hk hd hx hy hxn hyn hpm hkd hbr hpk hlen hE
          go_wp2_with fail
          refine RM.out.mono ?_
          rintro e w1 ⟨rfl, hb1⟩
          have RR := aside (refRun_any w w1 u5 done ar lr (c - f) (hG.out.quiet hb1) HBR.out hrc (by omega))
          clear hb1 hG RM
          have t3 : ((k : Int) == 0) = false := by simp; omega
          have t3' : ¬ ((k : Int) = 0) := by omega
          go_wp2_with fail
          refine RR.out.mono ?_
          rintro e w2 ⟨v2, rfl, hg2⟩
          have hA := below_al w2 (.cells #[.int .u8 (x.toNat : Nat), .int .u8 (d : Int)] 5)
          have HG2 := aside (hg2.quiet hA)
          have HXY : Aside (BsAt (w2.alloc (.cells #[.int .u8 (x.toNat : Nat), .int .u8 (d : Int)] 5)) (some ⟨w2.heap.size, 0, none⟩) [x, y]) := bs_row (HYC.out w2)
          clear hg2 hA RR
          generalize hrl : runs lr = rl at *
          clear hrl
          go_wp2_with (at_builtin; refine wpList_app rfl _ _ rfl v2 (done ++ rl) [x, y] _ 2 rfl rfl HG2.out.own HXY.out (by simp; omega) ?_)
          intro v3 w3 ho3 hu3 hv3
          have HG3 := aside (HG2.out.app ho3 hu3 (by simpa using hv3))
          clear ho3 hu3 hv3
          go_wp2_with fail
          go_roundw
          case rel =>
            refine ⟨v3, done ++ rl ++ [x, y], pk, pk, rfl, by go_num, by go_num, by omega, by omega, aside ?_, HE⟩
            have := HG3.out
            simpa using this
          case measure => simp [intOf]; omega
      · have t2 : ¬ ((p : Int) < (l.length : Int)) := by omega
        obtain ⟨ar, s1, hbr⟩ := slice_l a l c f (by omega) hlc
        have HE : Aside (done ++ runs (l.drop f) = pck l) := by rw [← pks_end hlt]; exact hE
        have hlen2 : done.length + (runs (l.drop f)).length ≤ 131072 := by
          have := congrArg List.length HE.out
          have := HPL.out
          rw [List.length_append] at *
          omega
        have RR := aside (refRun_any w wr u5 done ar (l.drop f) (c - f) hG.out (hbr w HBS.out) (by rw [List.length_drop]; omega) (by omega))
        rw [HE.out] at RR
        clear hbr hlen hE hG HE hlen2
        generalize l.drop f = ld at *
        go_wp2_with fail
        refine RR.out.mono ?_
        rintro e w2 ⟨v2, rfl, hg2⟩
        obtain ⟨a2, c2, rfl, -, -, hb2⟩ := hg2.own.tel
        have HB2 := aside hb2
        have HBW := aside hg2.below
        clear hg2 hb2
        go_wp2_with fail
        go_ret2
        rw [H1.out, H2.out]
        exact ⟨a2, c2, rfl, HB2.out, HBW.out⟩
end Go.Proofs.Ytlcglnagekmogaa
