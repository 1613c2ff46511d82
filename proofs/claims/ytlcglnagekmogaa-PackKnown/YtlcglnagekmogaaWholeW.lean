/- PackWhole: the walk. -/
import Derived.Test.YtlcglnagekmogaaApp
namespace Go.Proofs.Ytlcglnagekmogaa
open Go.RowKit
attribute [local simp] lcells_nil readB_length bcells_length
set_option maxRecDepth 20000

theorem un_bad {l : List UInt8} (h : (unp l).err ≠ 0) : (unp l).bs = [] := by
  rcases unp_cases l with e | e | ⟨x, e⟩
  · rw [e]; rfl
  · rw [e]; rfl
  · exact absurd (by rw [e]; rfl) h
theorem un_good {l : List UInt8} (h : (unp l).err = 0) : unp l = .ok (unp l).bs := by
  rcases unp_cases l with e | e | ⟨x, e⟩
  · rw [e] at h; exact absurd h (by decide)
  · rw [e] at h; exact absurd h (by decide)
  · rw [e]; rfl

set_option maxHeartbeats 4000000 in
theorem packWhole_walk (a a' : Option Addr) (l l' : List UInt8) (c c' : Nat) (n : Int) (w : World) (h : BsAt w a l) (hlc : l.length ≤ c) (hc : c ≤ 140737488351232) (h' : BsAt w a' l') (hlc' : l'.length ≤ c') :
    Calls Try.prog 6 #[.slice a l.length c, .slice a' l'.length c', .int .i64 n] w fun e w' => e = .returned (.bool true) ∧ Below w.heap.size w w' := by
  have HBS := aside h
  have HBS' := aside h'
  clear h h'
  go_enter Try.func6, Try.ntmps6
  go_wp2_with fail
  refine (works_any w).mono ?_
  rintro e w1 ⟨rfl, hb1⟩
  have HB1 := aside hb1
  have HBS1 := aside (HBS.out.below hb1)
  have HBS1' := aside (HBS'.out.below hb1)
  clear hb1 HBS HBS'
  by_cases h20 : 262144 < l.length
  · have t1 : (262144 : Int) < (l.length : Int) := by omega
    go_wp2_with fail
    refine (works_any w1).mono ?_
    rintro e w2 ⟨rfl, hb2⟩
    have HB2 := aside (below_tr HB1.out hb2)
    clear hb2
    go_wp2_with fail
    go_ret
    exact ⟨rfl, HB2.out⟩
  · have t1 : ¬ ((262144 : Int) < (l.length : Int)) := by omega
    by_cases h21 : 262144 < l'.length
    · have t2 : (262144 : Int) < (l'.length : Int) := by omega
      go_wp2_with fail
      refine (works_any w1).mono ?_
      rintro e w2 ⟨rfl, hb2⟩
      have HB2 := aside (below_tr HB1.out hb2)
      clear hb2
      go_wp2_with fail
      go_ret
      exact ⟨rfl, HB2.out⟩
    · have t2 : ¬ ((262144 : Int) < (l'.length : Int)) := by omega
      have P1 := aside (unpack_any a l c w1 HBS1.out hlc (by omega))
      obtain ⟨er, her⟩ : ∃ er, er = (unp l).err := ⟨_, rfl⟩
      obtain ⟨x, hx⟩ : ∃ x, x = (unp l).bs := ⟨_, rfl⟩
      unfold UnR at P1
      rw [← her, ← hx] at P1
      have hl4 : l.length ≤ 262144 := by omega
      have hl4' : l'.length ≤ 262144 := by omega
      by_cases her0 : er = 0
      · have hu : unp l = .ok x := by rw [hx]; exact un_good (by rw [← her]; exact her0)
        obtain ⟨u1, u2, -⟩ := unp_ok hu
        obtain ⟨v1, v2, v3⟩ := unp_whole hu
        subst her0
        clear her hx
        go_wp2_with fail
        refine P1.out.mono ?_
        rintro e w2 ⟨⟨a2, rfl, h2⟩, hb2⟩
        have HB2 := aside (below_tr HB1.out hb2)
        have HX2 := aside h2
        have HBS2 := aside (HBS1.out.below hb2)
        have HBS2' := aside (HBS1'.out.below hb2)
        have V1 := aside v1
        have V2 := aside v2
        have V3 := aside v3
        clear hb2 h2 P1 v2 v3 HBS1 HBS1' HB1 u2
        have hlz : ¬ ((l.length : Int) = 0) := by omega
        obtain ⟨z, hz⟩ : ∃ z, n.tmod (l.length : Int) = z := ⟨_, rfl⟩
        have hz1 : z < (l.length : Int) := by rw [← hz]; exact Int.tmod_lt_of_pos _ (by omega)
        have hz2 : -(l.length : Int) < z := by rw [← hz]; exact Int.lt_tmod_of_pos _ (by omega)
        by_cases hz0 : z < 0
        · obtain ⟨k, hk0⟩ : ∃ k : Nat, z + (l.length : Int) = (k : Int) := ⟨(z + l.length).toNat, by omega⟩
          have hk : k < l.length := by omega
          obtain ⟨ak, s1, hbk⟩ := slice_h a l c k (by omega) hlc
          have P2 := aside (unpack_any ak (l.take k) c w2 (hbk w2 HBS2.out) (by rw [List.length_take]; omega) (by omega))
          rw [V2.out k hk] at P2
          clear hbk
          generalize l.take k = lk at *
          go_wp2_with fail
          refine P2.out.mono ?_
          rintro e w3 ⟨⟨a3, rfl, h3⟩, hb3⟩
          simp only [Un.pack] at h3 ⊢
          have HB3 := aside (below_tr HB2.out hb3)
          have HX3 := aside (HX2.out.below hb3)
          have HBS3 := aside (HBS2.out.below hb3)
          have HBS3' := aside (HBS2'.out.below hb3)
          have HO := aside (own_none w3)
          clear hb3 h3 P2
          go_wp2_with (at_builtin; refine wpList_app rfl _ _ rfl (.slice none 0 0) [] l a c rfl rfl HO.out HBS3.out (by simp; omega) ?_)
          intro v4 w4 ho4 hu4 hv4
          try rw [List.nil_append] at ho4
          obtain ⟨hb4, hv4'⟩ := app_below (Below.refl w3.heap.size w3) hu4 (fun k hk => by simp [Value.ownBlock] at hk) hv4
          have HO4 := aside ho4
          have HB4 := aside hb4
          have HV4 := aside hv4'
          have HBS4' := aside (HBS3'.out.below hb4)
          clear ho4 hu4 hv4 hb4 hv4'
          go_wp2_with (at_builtin; refine wpList_app rfl _ _ rfl v4 l l' a' c' rfl rfl HO4.out HBS4'.out (by omega) ?_)
          intro v5 w5 ho5 hu5 hv5
          obtain ⟨hb5, hv5'⟩ := app_below HB4.out hu5 HV4.out hv5
          obtain ⟨L, hL⟩ : ∃ L, L = l ++ l' := ⟨_, rfl⟩
          rw [← hL] at ho5
          have HL := aside hL
          clear hL
          obtain ⟨a5, c5, rfl, hc5, hm5, hbs5⟩ := ho5.tel
          unfold maxLen at hm5
          have P3 := aside (unpack_any a5 L c5 w5 hbs5 hc5 (by omega))
          have HB5 := aside (below_tr HB3.out hb5)
          have HX5 := aside (HX3.out.below hb5)
          clear ho5 hu5 hv5 hb5 hv5' hbs5
          by_cases hm : l' = []
          · subst hm
            have e1 : unp L = .ok x := by rw [HL.out, List.append_nil]; exact hu
            rw [e1] at P3
            clear e1
            go_wp2_with fail
            refine P3.out.mono ?_
            rintro e w6 ⟨⟨a6, rfl, h6⟩, hb6⟩
            simp only [Un.ok] at h6 ⊢
            have HE := aside (equal_same a2 a6 x x.length x.length w6 (HX5.out.below hb6).bs h6.bs)
            have HB6 := aside (below_tr HB5.out hb6)
            clear hb6 h6
            have tx : (x.length : Int) ≤ 65536 := by have := V1.out; omega
            go_wp2_with fail
            refine HE.out.mono ?_
            rintro e w7 ⟨rfl, rfl⟩
            go_wp2_with fail
            go_ret
            exact ⟨rfl, HB6.out⟩
          · have hp := List.length_pos_iff.2 hm
            have t5 : ¬ ((l'.length : Int) = 0) := by omega
            have t5' : ((l'.length : Int) == 0) = false := by simp; omega
            have t6 : (0 : Int) < (l'.length : Int) := by omega
            have tx : (x.length : Int) ≤ 65536 := by have := V1.out; omega
            have e1 : unp L = .pack := by rw [HL.out]; exact V3.out l' hm
            rw [e1] at P3
            clear e1
            go_wp2_with fail
            refine P3.out.mono ?_
            rintro e w6 ⟨⟨a6, rfl, h6⟩, hb6⟩
            simp only [Un.pack] at h6 ⊢
            have HB6 := aside (below_tr HB5.out hb6)
            clear hb6 h6
            go_wp2_with fail
            go_ret
            exact ⟨rfl, HB6.out⟩
        · obtain ⟨k, rfl⟩ : ∃ k : Nat, z = (k : Int) := ⟨z.toNat, by omega⟩
          have hk : k < l.length := by omega
          have hz3 : ¬ ((k : Int) < 0) := by omega
          obtain ⟨ak, s1, hbk⟩ := slice_h a l c k (by omega) hlc
          have P2 := aside (unpack_any ak (l.take k) c w2 (hbk w2 HBS2.out) (by rw [List.length_take]; omega) (by omega))
          rw [V2.out k hk] at P2
          clear hbk
          generalize l.take k = lk at *
          go_wp2_with fail
          refine P2.out.mono ?_
          rintro e w3 ⟨⟨a3, rfl, h3⟩, hb3⟩
          simp only [Un.pack] at h3 ⊢
          have HB3 := aside (below_tr HB2.out hb3)
          have HX3 := aside (HX2.out.below hb3)
          have HBS3 := aside (HBS2.out.below hb3)
          have HBS3' := aside (HBS2'.out.below hb3)
          have HO := aside (own_none w3)
          clear hb3 h3 P2
          go_wp2_with (at_builtin; refine wpList_app rfl _ _ rfl (.slice none 0 0) [] l a c rfl rfl HO.out HBS3.out (by simp; omega) ?_)
          intro v4 w4 ho4 hu4 hv4
          try rw [List.nil_append] at ho4
          obtain ⟨hb4, hv4'⟩ := app_below (Below.refl w3.heap.size w3) hu4 (fun k hk => by simp [Value.ownBlock] at hk) hv4
          have HO4 := aside ho4
          have HB4 := aside hb4
          have HV4 := aside hv4'
          have HBS4' := aside (HBS3'.out.below hb4)
          clear ho4 hu4 hv4 hb4 hv4'
          go_wp2_with (at_builtin; refine wpList_app rfl _ _ rfl v4 l l' a' c' rfl rfl HO4.out HBS4'.out (by omega) ?_)
          intro v5 w5 ho5 hu5 hv5
          obtain ⟨hb5, hv5'⟩ := app_below HB4.out hu5 HV4.out hv5
          obtain ⟨L, hL⟩ : ∃ L, L = l ++ l' := ⟨_, rfl⟩
          rw [← hL] at ho5
          have HL := aside hL
          clear hL
          obtain ⟨a5, c5, rfl, hc5, hm5, hbs5⟩ := ho5.tel
          unfold maxLen at hm5
          have P3 := aside (unpack_any a5 L c5 w5 hbs5 hc5 (by omega))
          have HB5 := aside (below_tr HB3.out hb5)
          have HX5 := aside (HX3.out.below hb5)
          clear ho5 hu5 hv5 hb5 hv5' hbs5
          by_cases hm : l' = []
          · subst hm
            have e1 : unp L = .ok x := by rw [HL.out, List.append_nil]; exact hu
            rw [e1] at P3
            clear e1
            go_wp2_with fail
            refine P3.out.mono ?_
            rintro e w6 ⟨⟨a6, rfl, h6⟩, hb6⟩
            simp only [Un.ok] at h6 ⊢
            have HE := aside (equal_same a2 a6 x x.length x.length w6 (HX5.out.below hb6).bs h6.bs)
            have HB6 := aside (below_tr HB5.out hb6)
            clear hb6 h6
            have tx : (x.length : Int) ≤ 65536 := by have := V1.out; omega
            go_wp2_with fail
            refine HE.out.mono ?_
            rintro e w7 ⟨rfl, rfl⟩
            go_wp2_with fail
            go_ret
            exact ⟨rfl, HB6.out⟩
          · have hp := List.length_pos_iff.2 hm
            have t5 : ¬ ((l'.length : Int) = 0) := by omega
            have t5' : ((l'.length : Int) == 0) = false := by simp; omega
            have t6 : (0 : Int) < (l'.length : Int) := by omega
            have tx : (x.length : Int) ≤ 65536 := by have := V1.out; omega
            have e1 : unp L = .pack := by rw [HL.out]; exact V3.out l' hm
            rw [e1] at P3
            clear e1
            go_wp2_with fail
            refine P3.out.mono ?_
            rintro e w6 ⟨⟨a6, rfl, h6⟩, hb6⟩
            simp only [Un.pack] at h6 ⊢
            have HB6 := aside (below_tr HB5.out hb6)
            clear hb6 h6
            go_wp2_with fail
            go_ret
            exact ⟨rfl, HB6.out⟩
      · have hx0 : x = [] := by rw [hx]; exact un_bad (by rw [← her]; exact her0)
        subst hx0
        have t3 : ((er : Int) == 0) = false := by simpa using her0
        clear hx her
        go_wp2_with fail
        refine P1.out.mono ?_
        rintro e w2 ⟨⟨a2, rfl, h2⟩, hb2⟩
        have HB2 := aside (below_tr HB1.out hb2)
        clear hb2 h2
        go_wp2_with fail
        go_ret
        exact ⟨rfl, HB2.out⟩
end Go.Proofs.Ytlcglnagekmogaa
