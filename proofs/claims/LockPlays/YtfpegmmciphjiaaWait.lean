/- Wait. -/
import Derived.Test.YtfpegmmciphjiaaCircle
namespace Go.Proofs.Ytfpegmmciphjiaa
open Go.RowKit

/-- What Wait answers: is it held; the error. -/
def okOf (n : Nat) : Bool := n == 0
def erOf (n : Nat) : Nat := if n ≤ 1 then 0 else n
def WaitP (ty : TypeId) (w w' : World) (t : Tb) (l : Lk) (e : Ending) : Prop := ∃ d t', e = .returned (.tuple #[.bool (okOf (waitE t.H t.W l d)), .int .i64 (erOf (waitE t.H t.W l d) : Nat)]) ∧ (d = true ↔ dead t.H t.W l) ∧ Nx ty w w' t t' ∧ t'.H = waitH t.H t.W l d ∧ t'.W = waitW t.H t.W l d

theorem dec_dead (t : Tb) (l : Lk) : ∃ d : Bool, d = true ↔ dead t.H t.W l := by
  by_cases h : dead t.H t.W l
  · exact ⟨true, by simp [h]⟩
  · exact ⟨false, by simp [h]⟩

set_option maxHeartbeats 4000000 in
theorem wait_any (t : Tb) (l : Lk) (hl : InR l) (w : World) (h : Tab 55 w t) :
    Calls Try.prog 13 #[.pointer (some ⟨t.p, 0, none⟩), l.val] w fun e w' => WaitP 55 w w' t l e := by
  obtain ⟨ha, hc, hhv, -, -, hls⟩ := h.oh.tel
  obtain ⟨wa, wc, hwv, -, -, wls⟩ := h.ow.tel
  have c0 := h.c0
  have c1 := h.c1
  rw [hhv] at c0
  rw [hwv] at c1
  have hfew := h.few
  obtain ⟨L, hL⟩ : ∃ L, L = l := ⟨_, rfl⟩
  have hval : L.val = .agg #[.int .i64 l.who, .int .i64 l.org, .int .i64 l.len, .bool l.sh] := by rw [hL]; rfl
  obtain ⟨W, hW⟩ : ∃ W, W = w.alloc (.cells #[.int .i64 l.who, .int .i64 l.org, .int .i64 l.len, .bool l.sh] 29) := ⟨_, rfl⟩
  have BW : Aside (Below w.heap.size w W) := by rw [hW]; exact below_al w _
  have BX : Aside (Bx W w.heap.size l.who l.org l.len l.sh) := by rw [hW]; exact bx_new w _ _ _ _
  have R := aside (fun (V : World) (hV : Below w.heap.size w V) => refuses_any t.p L ha wa t.H.length t.W.length hc wc (by rw [hL]; exact hl) (by omega) V ((hV.cell h.lt).trans c0) ((hV.cell (p := ⟨t.p, 1, none⟩) h.lt).trans c1))
  have K := aside (fun (V : World) (hV : Below w.heap.size w V) (hm : may L = true) => keeps_any t.p L t.H t.W ha wa hc wc hm h.mh h.mw (by omega) (by omega) V ((hV.cell h.lt).trans c0) (hls.below hV) (wls.below hV))
  have C := aside (fun (V : World) (hV : Below w.heap.size w V) (hm : may L = true) => circle_any t L hm V (h.below hV))
  have HT := aside h
  have HW := aside hW
  have HF := aside hfew
  rw [hval] at R K C
  rw [show l.val = .agg #[.int .i64 l.who, .int .i64 l.org, .int .i64 l.len, .bool l.sh] from rfl]
  have x0 := BX.out.c0
  have x1 := BX.out.c1
  have x2 := BX.out.c2
  have x3 := BX.out.c3
  rw [HW.out] at x0 x1 x2 x3
  have hpw : ∀ V, Below w.heap.size w V → V.cell? ⟨t.p, 0, none⟩ = some (.slice ha t.H.length hc) ∧ V.cell? ⟨t.p, 1, none⟩ = some (.slice wa t.W.length wc) := fun V hV => ⟨(hV.cell h.lt).trans c0, (hV.cell (p := ⟨t.p, 1, none⟩) h.lt).trans c1⟩
  have HP := aside hpw
  have HHV := aside hhv
  have HWV := aside hwv
  clear hval hW hls wls h hfew hpw hhv hwv
  by_cases hr : refE L (t.H.length + t.W.length) = 0
  · have hm : may L = true := by
      unfold refE at hr
      split at hr
      · simp at hr
      · rename_i hx; simpa using hx
    have hlt : ¬ 256 ≤ t.H.length + t.W.length := by
      unfold refE at hr
      rw [if_neg (by rw [hm]; simp)] at hr
      intro hc; rw [if_pos hc] at hr; simp at hr
    have K2 := aside (fun V hV => K.out V hV hm)
    have C2 := aside (fun V hV => C.out V hV hm)
    rw [hr] at R
    rw [hL] at hm
    have HM := aside hm
    have HLT := aside hlt
    by_cases hk : (hit L t.H || hit L t.W) = true
    · rw [hk] at K2
      have HK := aside hk
      clear K C hr hk hlt hm
      go_enter Try.func13, Try.ntmps13
      go_wp2_with ((go_at_call 26; refine (R.out _ (below_al w _)).mono ?_; rintro e w2 ⟨rfl, hb2⟩; have HB2 : Aside (Below w.heap.size w w2) := aside (below_tr (below_al w _) hb2); have HB3 := aside hb2; clear hb2))
      have y0 := fun d os => ext_cell (HP.out _ HB2.out).2 d os
      have BX2 := BX.out
      rw [HW.out] at BX2
      have BX3 := BX2.below HB3.out
      have z0 := fun d os => ext_cell BX3.c0 d os
      have z1 := fun d os => ext_cell BX3.c1 d os
      have z2 := fun d os => ext_cell BX3.c2 d os
      have z3 := fun d os => ext_cell BX3.c3 d os
      refine region_ext (by kernel_rfl) (by kernel_rfl) ?_
      repeat (any_goals (first | go_big_quiet_step (((with_reducible exact calls_ext (K2.out _ (below_tr HB2.out (below_ext _ _ _)))))) | quiet_step (((with_reducible exact calls_ext (K2.out _ (below_tr HB2.out (below_ext _ _ _))))))))
      refine wpQuiet_nil ?_
      intro wq hwq
      have BX4 := BX3.below hwq
      have HB4 := aside (below_tr HB2.out hwq)
      clear y0 z0 z1 z2 z3 x0 x1 x2 x3 BX2 BX3 hwq
      have b0 := BX4.c0
      have b1 := BX4.c1
      have b2 := BX4.c2
      have b3 := BX4.c3
      have BX5 := aside BX4
      clear BX4
      have C3 : Aside (∀ d : Bool, (d = true ↔ dead t.H t.W l) → Calls Try.prog 30 #[.pointer (some ⟨t.p, 0, none⟩), .agg #[.int .i64 l.who, .int .i64 l.org, .int .i64 l.len, .bool l.sh]] wq fun e w' => e = .returned (.bool d) ∧ Below wq.heap.size wq w') := fun d hd => (C2.out wq HB4.out).mono (by
        rintro e w' ⟨b, rfl, hb, hB⟩
        rw [hL] at hb
        refine ⟨?_, hB⟩
        have : b = d := by
          cases b <;> cases d <;> simp_all
        rw [this])
      obtain ⟨d, hd⟩ := dec_dead t l
      have C4 := aside (C3.out d hd)
      have HD := aside hd
      clear C3 C2 hd
      have hE : waitE t.H t.W l d = if d = true then 151 else 1 := by unfold waitE; rw [if_neg (by rw [HM.out]; simp), if_neg HLT.out, if_neg (by rw [← hL, HK.out]; simp)]
      have HE := aside hE
      clear hE
      cases d
      · go_wp2_with ((go_at_call 30; with_reducible refine C4.out.mono ?_; rintro e w5 ⟨rfl, hb5⟩; have HB5 := aside (below_tr HB4.out hb5); have BX6 := aside (BX5.out.below hb5); clear hb5))
        have p1 := (HP.out _ HB5.out).2
        have d0 := BX6.out.c0
        have d1 := BX6.out.c1
        have d2 := BX6.out.c2
        have d3 := BX6.out.c3
        have LS := aside (ls_lit w5.drew l)
        have OW : Aside (Own (w5.drew.alloc (.cells #[.int .i64 l.who, .int .i64 l.org, .int .i64 l.len, .bool l.sh] 29)) t.wv t.W) := HT.out.ow.below (below_tr HB5.out (below_tr (below_dr _) (below_al _ _)))
        have NH : Aside (¬ t.wv.ownBlock = some t.p) := HT.out.nw
        have BV : Aside (Below w.heap.size w (w5.drew.alloc (.cells #[.int .i64 l.who, .int .i64 l.org, .int .i64 l.len, .bool l.sh] 29))) := below_tr HB5.out (below_tr (below_dr _) (below_al _ _))
        have FW : Aside (t.W.length + [l].length ≤ 33554432) := by have := HF.out; show t.W.length + 1 ≤ _; omega
        have GK := aside (push_keep (w := w) (v := t.wv) (c := ⟨t.p, 1, none⟩) (fun k hk => ⟨HT.out.ow.lt hk, fun e => NH.out (by rw [hk, e])⟩) p1 ((HT.out.below HB5.out).f0 1) BX6.out (Nat.le_refl _) (.cells #[.int .i64 l.who, .int .i64 l.org, .int .i64 l.len, .bool l.sh] 29))
        rw [HWV.out] at OW GK
        have q0 : (w5.alloc (.cells #[.int .i64 l.who, .int .i64 l.org, .int .i64 l.len, .bool l.sh] 29)).cell? ⟨t.p, 1, none⟩ = some (.slice wa t.W.length wc) := ((below_al w5 _).cell (World.block_lt_of_cell? w5 _ p1)).trans p1
        clear b0 b1 b2 b3
        go_region_law (refine step_app rfl _ _ rfl (.slice wa t.W.length wc) t.W [l] (some ⟨w5.heap.size, 0, none⟩) 1 1 rfl rfl rfl OW.out LS.out FW.out (t.W.length + 1) rfl ?_; intro a' c' w' ho hu hv; obtain ⟨g0, g1, g2, g3, g4, g5⟩ := GK.out w' hu; have HO := aside ho; have HU := aside hu; have HV := aside hv; clear ho hu hv)
        all_goals (go_wp2; go_ret2)
        all_goals (have hE := HE.out; rw [if_neg (by simp)] at hE; refine ⟨false, _, by rw [hE]; rfl, HD.out, pushed_waits HT.out BV.out HO.out (by rw [HWV.out]; exact HU.out) (by rw [HWV.out]; exact HV.out) HM.out HLT.out, ?_, ?_⟩)
        all_goals (simp [waitH, waitW, hE])
      · go_wp2_with ((go_at_call 30; with_reducible refine C4.out.mono ?_; rintro e w5 ⟨rfl, hb5⟩; have HB5 := aside (below_tr HB4.out hb5); clear hb5))
        go_ret2
        have hE := HE.out
        simp only [if_true] at hE
        refine ⟨true, t, by rw [hE]; rfl, by have := HD.out; simpa using this, Nx.of_below HT.out HB5.out, ?_, ?_⟩
        · simp [waitH, hE]
        · simp [waitW, hE]
    · have hk0 : (hit L t.H || hit L t.W) = false := by simpa using hk
      rw [hk0] at K2
      have hE : ∀ d, waitE t.H t.W l d = 0 := fun d => by unfold waitE; rw [if_neg (by rw [hm]; simp), if_neg hlt, if_pos (by rw [← hL]; exact hk0)]
      have HE := aside hE
      clear hE K C C2 hr hk hlt hm hk0
      go_enter Try.func13, Try.ntmps13
      go_wp2_with ((go_at_call 26; refine (R.out _ (below_al w _)).mono ?_; rintro e w2 ⟨rfl, hb2⟩; have HB2 : Aside (Below w.heap.size w w2) := aside (below_tr (below_al w _) hb2); have HB3 := aside hb2; clear hb2))
      have y0 := fun d os => ext_cell (HP.out _ HB2.out).2 d os
      have BX2 := BX.out
      rw [HW.out] at BX2
      have BX3 := BX2.below HB3.out
      have z0 := fun d os => ext_cell BX3.c0 d os
      have z1 := fun d os => ext_cell BX3.c1 d os
      have z2 := fun d os => ext_cell BX3.c2 d os
      have z3 := fun d os => ext_cell BX3.c3 d os
      refine region_ext (by kernel_rfl) (by kernel_rfl) ?_
      repeat (any_goals (first | go_big_quiet_step (((with_reducible exact calls_ext (K2.out _ (below_tr HB2.out (below_ext _ _ _)))))) | quiet_step (((with_reducible exact calls_ext (K2.out _ (below_tr HB2.out (below_ext _ _ _))))))))
      refine wpQuiet_nil ?_
      intro wq hwq
      have BX4 := BX3.below hwq
      have HB4 := aside (below_tr HB2.out hwq)
      clear y0 z0 z1 z2 z3 x0 x1 x2 x3 BX2 BX3 hwq
      have p0 := (HP.out _ HB4.out).1
      have b0 := BX4.c0
      have b1 := BX4.c1
      have b2 := BX4.c2
      have b3 := BX4.c3
      have LS := aside (ls_lit wq.drew l)
      have OW : Aside (Own (wq.drew.alloc (.cells #[.int .i64 l.who, .int .i64 l.org, .int .i64 l.len, .bool l.sh] 29)) t.hv t.H) := HT.out.oh.below (below_tr HB4.out (below_tr (below_dr _) (below_al _ _)))
      have NH : Aside (¬ t.hv.ownBlock = some t.p) := HT.out.nh
      have BV : Aside (Below w.heap.size w (wq.drew.alloc (.cells #[.int .i64 l.who, .int .i64 l.org, .int .i64 l.len, .bool l.sh] 29))) := below_tr HB4.out (below_tr (below_dr _) (below_al _ _))
      have FW : Aside (t.H.length + [l].length ≤ 33554432) := by have := HF.out; show t.H.length + 1 ≤ _; omega
      have GK := aside (push_keep (w := w) (v := t.hv) (c := ⟨t.p, 0, none⟩) (fun k hk => ⟨HT.out.oh.lt hk, fun e => NH.out (by rw [hk, e])⟩) p0 ((HT.out.below HB4.out).f0 0) BX4 (Nat.le_refl _) (.cells #[.int .i64 l.who, .int .i64 l.org, .int .i64 l.len, .bool l.sh] 29))
      rw [HHV.out] at OW GK
      clear BX4
      have q0 : (wq.alloc (.cells #[.int .i64 l.who, .int .i64 l.org, .int .i64 l.len, .bool l.sh] 29)).cell? ⟨t.p, 0, none⟩ = some (.slice ha t.H.length hc) := ((below_al wq _).cell (World.block_lt_of_cell? wq _ p0)).trans p0
      go_wp2
      go_region_law (refine step_app rfl _ _ rfl (.slice ha t.H.length hc) t.H [l] (some ⟨wq.heap.size, 0, none⟩) 1 1 rfl rfl rfl OW.out LS.out FW.out (t.H.length + 1) rfl ?_; intro a' c' w' ho hu hv; obtain ⟨g0, g1, g2, g3, g4, g5⟩ := GK.out w' hu; have HO := aside ho; have HU := aside hu; have HV := aside hv; clear ho hu hv)
      all_goals (go_wp2; go_ret2)
      all_goals (obtain ⟨d, hd⟩ := dec_dead t l; refine ⟨d, _, by rw [HE.out]; rfl, hd, pushed_held HT.out BV.out HO.out (by rw [HHV.out]; exact HU.out) (by rw [HHV.out]; exact HV.out) HM.out HLT.out, ?_, ?_⟩)
      all_goals (simp [waitH, waitW, HE.out])
  · have hE : ∀ d, ((erOf (waitE t.H t.W l d) : Nat) : Int) = refE L (t.H.length + t.W.length) ∧ waitE t.H t.W l d ≠ 0 ∧ waitE t.H t.W l d ≠ 1 := fun d => by
      unfold waitE
      unfold refE at hr ⊢
      rw [← hL]
      by_cases h1 : may L = false
      · rw [if_pos h1, if_pos h1]; simp [erOf]
      · rw [if_neg h1] at hr
        rw [if_neg h1, if_neg h1]
        by_cases h2 : 256 ≤ t.H.length + t.W.length
        · rw [if_pos h2, if_pos h2]; simp [erOf]
        · rw [if_neg h2] at hr; simp at hr
    have HE := aside hE
    clear hE K C
    generalize refE L (t.H.length + t.W.length) = r at *
    go_enter Try.func13, Try.ntmps13
    go_wp2_with ((go_at_call 26; refine (R.out _ (below_al w _)).mono ?_; rintro e w2 ⟨rfl, hb2⟩; have HB2 : Aside (Below w.heap.size w w2) := aside (below_tr (below_al w _) hb2); have HB3 := aside hb2; clear hb2))
    go_ret2
    obtain ⟨d, hd⟩ := dec_dead t l
    obtain ⟨e1, e2, e3⟩ := HE.out d
    refine ⟨d, t, ?_, hd, Nx.of_below HT.out HB2.out, ?_, ?_⟩
    · rw [e1]; simp [okOf, e2]
    · simp [waitH, e2]
    · simp [waitW, e3]
theorem wait_nil (l : Lk) (w : World) : Calls Try.prog 13 #[.pointer none, l.val] w fun e w' => e = .returned (.tuple #[.bool false, .int .i64 1]) ∧ Below w.heap.size w w' := by
  rw [show l.val = .agg #[.int .i64 l.who, .int .i64 l.org, .int .i64 l.len, .bool l.sh] from rfl]
  have N : ∀ V : World, Calls Try.prog 26 #[.pointer none, .agg #[.int .i64 l.who, .int .i64 l.org, .int .i64 l.len, .bool l.sh]] V fun e w' => e = .returned (.int .i64 1) ∧ Below V.heap.size V w' := fun V => by
    go_enter Try.func26, Try.ntmps26
    go_wp2
    go_ret
    exact ⟨rfl, below_al V _⟩
  have HN := aside N
  clear N
  go_enter Try.func13, Try.ntmps13
  go_wp2_with ((go_at_call 26; refine (HN.out _).mono ?_; rintro e w2 ⟨rfl, hb2⟩; have HB2 := aside hb2; clear hb2))
  go_ret2
  exact ⟨rfl, below_tr (below_al w _) HB2.out⟩
end Go.Proofs.Ytfpegmmciphjiaa
