/- LockLeaves: the walk. -/
import Derived.Test.YtfpegmmciphjiaaStK
import Derived.Deep.DeepCutAuto
namespace Go.Proofs.Ytfpegmmciphjiaa
open Go.RowKit

def cnt (L : List Lk) (who : Int) : Nat := (L.filter fun x => decide (x.who = who)).length
theorem cnt_take {L : List Lk} {k : Nat} {x : Lk} {who : Int} (hx : L[k]? = some x) : cnt (L.take (k + 1)) who = cnt (L.take k) who + (if x.who = who then 1 else 0) := by
  unfold cnt
  rw [List.take_add_one, hx, Option.toList_some, List.filter_append, List.length_append]
  by_cases h : x.who = who <;> simp [h]
theorem cnt_gone (L : List Lk) (who : Int) : (gone L who).length + cnt L who = L.length := by
  unfold gone cnt
  induction L with
  | nil => rfl
  | cons x L ih => by_cases h : x.who = who <;> simp [h] at ih ⊢ <;> omega
theorem cnt_le (L : List Lk) (who : Int) : cnt L who ≤ L.length := by have := cnt_gone L who; omega
structure LeaveP (H W : List Lk) (who : Int) (H' W' U : List Lk) : Prop where
  hh : H' = gone H who ++ U
  um : ∀ x ∈ U, x ∈ W ∧ x.who ≠ who
  wm : ∀ x ∈ W', x ∈ W ∧ x.who ≠ who
  sum : W'.length + U.length + cnt W who = W.length
theorem gone_mem {L : List Lk} {who : Int} {x : Lk} (h : x ∈ gone L who) : x ∈ L ∧ x.who ≠ who := by
  unfold gone at h; simpa using h
theorem leaveP (H W : List Lk) (who : Int) : LeaveP H W who (leaveT H W who).1 (leaveT H W who).2.1 (leaveT H W who).2.2 := by
  have hp := onF_p (gone W who) (gone H who) [] []
  obtain ⟨D, h1, h2, h3⟩ := hp.ex
  obtain ⟨R, h4, h5⟩ := hp.sub
  have h6 := hp.len
  have h7 := cnt_gone W who
  unfold leaveT
  simp only [List.nil_append] at h2 h4
  refine ⟨by rw [h1, h2], fun x hx => ?_, fun x hx => ?_, ?_⟩
  · rw [h2] at hx; exact gone_mem (h3 x hx)
  · rw [h4] at hx; exact gone_mem (h5 x hx)
  · simp only [List.length_nil] at h6; omega
theorem LeaveP.hm {H W : List Lk} {who : Int} {H' W' U : List Lk} (h : LeaveP H W who H' W' U) : ∀ x ∈ H', (x ∈ H ∨ x ∈ W) ∧ x.who ≠ who := fun x hx => by
  rw [h.hh] at hx
  rcases List.mem_append.1 hx with hx | hx
  · exact ⟨.inl (gone_mem hx).1, (gone_mem hx).2⟩
  · exact ⟨.inr (h.um x hx).1, (h.um x hx).2⟩

/-- Six marks in a block of their own. -/
def Mk (w : World) (lb : Nat) (lf : Nat → Bool) : Prop := w.heap[lb]? = some (.cells #[.bool (lf 0), .bool (lf 1), .bool (lf 2), .bool (lf 3), .bool (lf 4), .bool (lf 5)] 4 (0, 0))

theorem Mk.cell {w : World} {lb : Nat} {lf : Nat → Bool} (h : Mk w lb lf) {m : Nat} (hm : m < 6) : w.cell? ⟨lb, m, none⟩ = some (.bool (lf m)) := by
  rw [cell_of_row w lb m _ _ _ h]
  match m, hm with
  | 0, _ => rfl
  | 1, _ => rfl
  | 2, _ => rfl
  | 3, _ => rfl
  | 4, _ => rfl
  | 5, _ => rfl
theorem Mk.lt {w : World} {lb : Nat} {lf : Nat → Bool} (h : Mk w lb lf) : lb < w.heap.size := (Array.getElem?_eq_some_iff.1 h).1
theorem Mk.fz {w : World} {lb : Nat} {lf : Nat → Bool} (h : Mk w lb lf) (m : Nat) : w.frozen? ⟨lb, m, none⟩ = false := frozen_of_row w lb m _ _ h
theorem Mk.set {w : World} {lb : Nat} {lf : Nat → Bool} (h : Mk w lb lf) {m : Nat} (hm : m < 6) : Mk (w.setCell ⟨lb, m, none⟩ (.bool true)) lb (fun j => if j = m then true else lf j) := by
  have hs : (w.setCell ⟨lb, m, none⟩ (.bool true)).heap[lb]? = some (.cells (#[.bool (lf 0), .bool (lf 1), .bool (lf 2), .bool (lf 3), .bool (lf 4), .bool (lf 5)].setIfInBounds m (.bool true)) 4 (0, 0)) := by
    have h' : w.heap[lb]? = _ := h
    simp [World.setCell, Array.getElem?_modify, h']
  unfold Mk
  rw [hs]
  match m, hm with
  | 0, _ => simp
  | 1, _ => simp
  | 2, _ => simp
  | 3, _ => simp
  | 4, _ => simp
  | 5, _ => simp
theorem Mk.kept {K : Nat → Prop} {w w' : World} {lb : Nat} {lf : Nat → Bool} (h : Mk w lb lf) (hk : KeptK K w w') (hl : K lb) : Mk w' lb lf := (hk lb hl).trans h
theorem Mk.below {w w' : World} {lb : Nat} {lf : Nat → Bool} (h : Mk w lb lf) (hb : Below w.heap.size w w') : Mk w' lb lf := (hb.block lb (Array.getElem?_eq_some_iff.1 h).1).trans h
/-- Bytes that can be read. -/
def OsAt (w : World) (b : Option Addr) (os : List UInt8) : Prop := os ≠ [] → ∃ g o, b = some ⟨g, o, none⟩ ∧ ∀ (j : Nat) (x : UInt8), os[j]? = some x → w.cell? ⟨g, o + j, none⟩ = some (.int .u8 (x.toNat : Nat))
theorem make6 (w : World) : (Instr.makeSlice 51 (.int .i64 6) (.int .i64 6)).run Try.prog w = .ok (.slice (some ⟨w.heap.size, 0, none⟩) 6 6) (w.alloc (.cells #[.bool false, .bool false, .bool false, .bool false, .bool false, .bool false] 4)) := by kernel_rfl

set_option maxHeartbeats 4000000 in
set_option maxRecDepth 20000 in
theorem lockLeaves_walk (a b : Option Addr) (ss : List Sp) (os : List UInt8) (c d : Nat) (w : World) (hR : SpsAt w a ss) (hI : ∀ s ∈ ss, InR s.l) (hO : OsAt w b os) (hOl : os.length ≤ 140737488351232) :
    Calls Try.prog 6 #[.slice a ss.length c, .slice b os.length d] w fun e w' => e = .returned (.bool true) ∧ Below w.heap.size w w' := by
  have HR := aside hR
  have HI := aside hI
  have HO := aside hO
  obtain ⟨nS, hnS⟩ : ∃ nS, nS = ss.length := ⟨_, rfl⟩
  have HNS := aside hnS
  obtain ⟨nO, hnO⟩ : ∃ nO, nO = os.length := ⟨_, rfl⟩
  have HNO := aside hnO
  rw [← hnS, ← hnO]
  rw [← hnO] at hOl
  have N := aside (new_st w)
  have hmk := make6
  clear hR hI hnS hnO hO
  go_enter Try.func6, Try.ntmps6
  go_wp2_with ((go_at_call 9; with_reducible refine N.out.mono ?_; rintro e w1 ⟨p, rfl, hs, -⟩; have S0 := aside hs; clear hs))
  go_loopg [6] 100 (fun G s6 wr => ∃ (i : Nat) (H W : List Lk), i + G = 100 ∧ s6 = .int .i64 (i : Int) ∧ Aside (St w wr p H W) ∧ Aside (Good H W))
  case atStart => exact ⟨0, [], [], by omega, rfl, S0, aside good_nil⟩
  case round =>
    obtain ⟨i, H, W, hiG, rfl, hS, hGd⟩ := hrel
    by_cases hi : i < nS ∧ i < 100
    · have t1 : (i : Int) < (nS : Int) := by omega
      have t2 : (i : Int) < 100 := by omega
      obtain ⟨s, hs⟩ : ∃ s, ss[i]? = some s := ⟨_, List.getElem?_eq_getElem (by have := HNS.out; omega)⟩
      obtain ⟨g, o, rfl, q0, q1, q2, q3, q4⟩ := HR.out.at hS.out.bl hs
      have C := aside (goes_any s.d s.l (HI.out s (List.mem_of_getElem? hs)) hS.out hGd.out)
      clear hs
      go_wp2_with ((go_at_call 23; with_reducible refine C.out.mono ?_; rintro e w2 ⟨a2, n2, c2, H2, W2, rfl, hs2, hg2⟩; have HS2 := aside hs2; have HG2 := aside hg2; clear hs2 hg2))
      go_roundg (100 - (i + 1))
      case measure => omega
      case rel => exact ⟨i + 1, H2, W2, by omega, by go_num, HS2, HG2⟩
    · have key : ∀ (Q : Prop), ((¬ (i : Int) < (nS : Int)) → Q) → ((i : Int) < (nS : Int) → ¬ (i : Int) < 100 → Q) → Q := fun Q h1 h2 => by
        by_cases hh : (i : Int) < (nS : Int)
        · exact h2 hh (by omega)
        · exact h1 hh
      clear hi
      refine key _ (fun t1 => ?_) (fun t1 t2 => ?_)
      all_goals clear key
      all_goals (
        obtain ⟨lb, hlb⟩ : ∃ lb, lb = wr.heap.size := ⟨_, rfl⟩
        have MK0 : Aside (Mk (wr.alloc (.cells #[.bool false, .bool false, .bool false, .bool false, .bool false, .bool false] 4)) lb (fun _ => false)) := by rw [hlb]; exact heap_alloc_new wr _
        have SK0 : Aside (StK w (wr.alloc (.cells #[.bool false, .bool false, .bool false, .bool false, .bool false, .bool false] 4)) p H W (fun k => k = lb)) := hS.out.stK (below_al _ _) (fun k hk => by rw [hk, hlb, World.size_alloc]; omega)
        go_wp2_with fail
        rw [← hlb]
        have HLB := aside hlb
        clear hlb
        rename World => wr0
        go_loopg [8] 60 (fun G s8 wx => ∃ (k : Nat) (H W : List Lk) (lf : Nat → Bool), k + G = 60 ∧ s8 = .int .i64 (k : Int) ∧ Aside (StK w wx p H W (fun k => k = lb)) ∧ Aside (Mk wx lb lf) ∧ Aside (Good H W) ∧ Aside (∀ x, x ∈ H ∨ x ∈ W → lf x.who.toNat = false))
        case atStart => exact ⟨0, H, W, fun _ => false, by omega, rfl, SK0, MK0, hGd, aside (fun _ _ => rfl)⟩
        case round =>
          obtain ⟨k, H2, W2, lf, hkG, rfl, hK, hM, hG2, hLf⟩ := hrel
          by_cases hk : k < nO + 6 ∧ k < 60
          · have t3 : (k : Int) < (nO : Int) + 6 := by omega
            have t4 : (k : Int) < 60 := by omega
            have key2 : ∀ (Q : Prop), (∀ (g o m : Nat) (x : UInt8), b = some ⟨g, o, none⟩ → wr.cell? ⟨g, o + k, none⟩ = some (.int .u8 (x.toNat : Nat)) → m < 6 → x.toNat % 6 = m → (k : Int) < (nO : Int) → k < nO → Q) → (∀ m : Nat, m < 6 → ¬ ((k : Int) < (nO : Int)) → (k : Int) - (nO : Int) = (m : Int) → Q) → Q := fun Q h1 h2 => by
              by_cases hh : k < nO
              · obtain ⟨x, hx⟩ : ∃ x, os[k]? = some x := ⟨_, List.getElem?_eq_getElem (by have := HNO.out; omega)⟩
                obtain ⟨g, o, e1, e2⟩ := HO.out (fun h0 => by rw [h0] at hx; simp at hx)
                have e3 := e2 k x hx
                exact h1 g o (x.toNat % 6) x e1 ((hK.out.bl.cell (World.block_lt_of_cell? w _ e3)).trans e3) (by omega) rfl (by omega) hh
              · exact h2 (k - nO) (by omega) (by omega) (by omega)
            go_upto_if 55 with fail
            go_cut [9] from 51 to 61 (fun s9 wc => ∃ m : Nat, m < 6 ∧ s9 = .int .i64 (m : Int) ∧ wc = wr)
            case first =>
              refine key2 _ (fun g o m x e1 q0 hm6 hmx t5 t6 => ?_) (fun m hm6 t5 t6 => ?_)
              · subst e1
                clear key2 hk
                have hx1 : ((x.toNat : Nat) : Int).tmod 6 = (m : Int) := by rw [Int.tmod_eq_emod_of_nonneg (by omega)]; omega
                have hx2 : x.toNat < 256 := x.toNat_lt
                go_wp2_with fail
                go_meet
                exact ⟨m, hm6, rfl, rfl⟩
              · clear key2 hk
                go_wp2_with fail
                go_meet
                exact ⟨m, hm6, rfl, rfl⟩
            case rest =>
              obtain ⟨m, hm6, rfl, rfl⟩ := hcut
              clear key2 hk
              by_cases hlf : lf m = true
              · have c0 := hM.out.cell hm6
                rw [hlf] at c0
                go_wp2_with fail
                go_roundg (60 - (k + 1))
                case measure => omega
                case rel => exact ⟨k + 1, H2, W2, lf, by omega, by go_num, hK, hM, hG2, hLf⟩
              · have hlf0 : lf m = false := by simpa using hlf
                have c0 := hM.out.cell hm6
                rw [hlf0] at c0
                obtain ⟨nW, hnW⟩ : ∃ nW, nW = W2.length := ⟨_, rfl⟩
                obtain ⟨nU, hnU⟩ : ∃ nU, nU = (leaveT H2 W2 (m : Int)).2.2.length := ⟨_, rfl⟩
                obtain ⟨nS2, hnS2⟩ : ∃ nS2, nS2 = (leaveT H2 W2 (m : Int)).2.1.length := ⟨_, rfl⟩
                obtain ⟨nH2, hnH2⟩ : ∃ nH2, nH2 = (leaveT H2 W2 (m : Int)).1.length := ⟨_, rfl⟩
                have LP := aside (leaveP H2 W2 (m : Int))
                have GL := aside (good_leave (m : Int) hG2.out)
                have C1 := aside (waits_k hK.out hnW.symm)
                have HNW := aside hnW
                have HNU := aside hnU
                have HNS2 := aside hnS2
                have HNH2 := aside hnH2
                have hsm : nS2 + nU + cnt W2 (m : Int) = nW := by rw [hnS2, hnU, hnW]; exact LP.out.sum
                have hfw : nW ≤ 256 := by have := hG2.out.inv.few; omega
                have hhu : nU ≤ nH2 := by have := LP.out.hh; rw [hnU, hnH2, this]; simp
                have hfh : nH2 ≤ 256 := by have := GL.out.inv.few; omega
                have HCI := aside hsm
                generalize hcm : cnt W2 (m : Int) = cm at hsm
                have HCM := aside hcm
                clear hnW hnU hnS2 hnH2 hlf hcm
                obtain ⟨H3, hH3⟩ : ∃ H3, H3 = (leaveT H2 W2 (m : Int)).1 := ⟨_, rfl⟩
                obtain ⟨W3, hW3⟩ : ∃ W3, W3 = (leaveT H2 W2 (m : Int)).2.1 := ⟨_, rfl⟩
                obtain ⟨U3, hU3⟩ : ∃ U3, U3 = (leaveT H2 W2 (m : Int)).2.2 := ⟨_, rfl⟩
                have LV : Aside (∀ (Y : World) (K : Nat → Prop), StK w Y p H2 W2 K → Calls Try.prog 18 #[.pointer (some ⟨p, 0, none⟩), .int .i64 (m : Int)] Y fun e w' => ∃ a c, e = .returned (.slice a nU c) ∧ StK w w' p H3 W3 (fun k => K k ∨ (Value.slice a nU c).ownBlock = some k) ∧ Own w' (.slice a nU c) U3 ∧ KeptK K Y w' ∧ ∀ k, (Value.slice a nU c).ownBlock = some k → Y.heap.size ≤ k) := fun Y K hKY => by
                  rw [hH3, hW3, hU3]; exact leave_k (m : Int) hKY HNU.out.symm
                rw [← hH3, ← hW3, ← hU3] at LP
                rw [← hH3, ← hW3] at GL
                rw [← hU3] at HNU
                rw [← hW3] at HNS2
                rw [← hH3] at HNH2
                clear hH3 hW3 hU3
                go_wp2_with (first
                  | (go_at_call 21; with_reducible refine C1.out.mono ?_; rintro e w2 ⟨a2, c2, rfl, hs, ho, hb, hn⟩; have O2 := aside ho; have M2 := aside (hM.out.below hb); have C2 := aside (LV.out w2 _ hs); have L2 := aside (fun k hk => (by have h1 := hn k hk; have h2 := hM.out.lt; omega : ¬ k = lb)); clear hs ho hb hn C1)
                  | (go_at_call 18; with_reducible refine C2.out.mono ?_; rintro e w3 ⟨a3, c3, rfl, hs, ho, hk, hn⟩; have O3 := aside ho; have O2' := aside (O2.out.keptK hk (fun k hk => .inr hk)); have M3 := aside (M2.out.kept hk (.inl rfl)); have C3 := aside (waits_k hs HNS2.out.symm); have L3 := aside (fun k hk => (by have h1 := hn k hk; have h2 := M2.out.lt; omega : ¬ k = lb)); clear hs ho hk hn)
                  | (go_at_call 21; with_reducible refine C3.out.mono ?_; rintro e w4 ⟨a4, c4, rfl, hs, ho, hb, hn⟩; have O4 := aside (O3.out.below hb); have O5 := aside (O2'.out.below hb); have M4 := aside (M3.out.below hb); have K4 := aside hs; have c1 := M4.out.cell hm6; have f1 := M4.out.fz m; clear hs ho hb hn))
                have M5 := aside (M4.out.set hm6)
                have K5 := aside (K4.out.set (a := ⟨lb, m, none⟩) (.inl (.inl (.inl rfl))) (.bool true))
                have hset : Upd (fun k => k = lb) w4 (w4.setCell ⟨lb, m, none⟩ (.bool true)) := Upd.setCell (F := fun k => k = lb) (p := ⟨lb, m, none⟩) rfl _
                have O6 := aside (hset.own O4.out L3.out)
                have O7 := aside (hset.own O5.out L2.out)
                generalize w4.setCell ⟨lb, m, none⟩ (.bool true) = w5 at M5 K5 O6 O7 ⊢
                clear hset L2 L3 c0 c1 f1 O2 O3 O4 O5 O2' M2 M3 M4 K4 C2 C3
                rename World => wr9
                go_loopg [13, 14] nW (fun G s13 s14 wz => ∃ (j mn : Nat), j + G = nW ∧ s13 = .int .i64 (mn : Int) ∧ s14 = .int .i64 (j : Int) ∧ mn ≤ j ∧ Aside (mn = cnt (W2.take j) (m : Int)) ∧ wz = wr9)
                case atStart => exact ⟨0, 0, by omega, rfl, rfl, by omega, aside rfl, rfl⟩
                case round =>
                  obtain ⟨j, mn, hjG, rfl, rfl, hmj, hmc, rfl⟩ := hrel
                  by_cases hj : j < nW
                  · have t7 : (j : Int) < (nW : Int) := by omega
                    obtain ⟨y, hy⟩ : ∃ y, W2[j]? = some y := ⟨_, List.getElem?_eq_getElem (by have := HNW.out; omega)⟩
                    obtain ⟨gy, rfl, k0, -, -, -⟩ := O7.out.lock hy
                    have hct := cnt_take (who := (m : Int)) hy
                    by_cases hyw : y.who = (m : Int)
                    · rw [if_pos hyw] at hct
                      have HCT := aside hct
                      rw [hyw] at k0
                      clear hct hy hyw
                      go_wp2_with fail
                      go_roundg (nW - (j + 1))
                      case measure => omega
                      case rel => exact ⟨j + 1, mn + 1, by omega, by go_num, by go_num, by omega, aside (by rw [HCT.out, ← hmc.out]), rfl⟩
                    · rw [if_neg hyw] at hct
                      have HCT := aside hct
                      have hyw2 : (y.who == (m : Int)) = false := by simpa using hyw
                      clear hct hy
                      go_wp2_with fail
                      go_roundg (nW - (j + 1))
                      case measure => omega
                      case rel => exact ⟨j + 1, mn, by omega, rfl, by go_num, by omega, aside (by rw [HCT.out, ← hmc.out, Nat.add_zero]), rfl⟩
                  · obtain rfl : j = nW := by omega
                    have t7 : ¬ ((j : Int) < (j : Int)) := by omega
                    obtain rfl : mn = cm := by have := hmc.out; rw [HNW.out, List.take_length] at this; rw [this]; exact HCM.out
                    have t8 : (nS2 : Int) + (nU : Int) + (mn : Int) = (j : Int) := by omega
                    have C6 := aside (held_k K5.out HNH2.out.symm)
                    go_wp2_with ((go_at_call 20; with_reducible refine C6.out.mono ?_; rintro e w6 ⟨a6, c6, rfl, hs, ho, hb, -⟩; have O8 := aside (O6.out.below hb); have O9 := aside ho; have M6 := aside (M5.out.below hb); have K6 := aside hs; clear hs ho hb))
                    clear t8
                    go_loopg [16] nU (fun G s16 wz => ∃ (q : Nat), q + G = nU ∧ s16 = .int .i64 (q : Int) ∧ Aside (Below w6.heap.size w6 wz))
                    case atStart => exact ⟨0, by omega, rfl, aside (Below.refl _ _)⟩
                    case round =>
                      obtain ⟨q, hqG, rfl, hBz⟩ := hrel
                      by_cases hq : q < nU
                      · have t9 : (q : Int) < (nU : Int) := by omega
                        obtain ⟨z, hz⟩ : ∃ z, U3[q]? = some z := ⟨_, List.getElem?_eq_getElem (by have := HNU.out; omega)⟩
                        have hzm := LP.out.um z (List.mem_of_getElem? hz)
                        obtain ⟨hz0, hz6⟩ := hG2.out.wh z (.inr hzm.1)
                        obtain ⟨zw, hzw⟩ : ∃ zw : Nat, z.who = (zw : Int) := ⟨z.who.toNat, by omega⟩
                        have hz7 : zw < 6 := by omega
                        have hz7i : (zw : Int) < 6 := by omega
                        obtain ⟨hd, hhd⟩ : ∃ hd : Nat, hd = nH2 - nU := ⟨_, rfl⟩
                        obtain ⟨ix, hix⟩ : ∃ ix : Nat, ix = hd + q := ⟨_, rfl⟩
                        have i1 : (nH2 : Int) - (nU : Int) = (hd : Int) := by omega
                        have i2 : (hd : Int) + (q : Int) = (ix : Int) := by omega
                        have i3 : (ix : Int) < (nH2 : Int) := by omega
                        have i4 : ix < nH2 := by omega
                        have i7 : hd ≤ 256 := by omega
                        have i8 : IntKind.i64.wrap (hd : Int) = (hd : Int) := by rw [IntKind.wrap_i64]; omega
                        have i9 : IntKind.i64.wrap (ix : Int) = (ix : Int) := by rw [IntKind.wrap_i64]; omega
                        have i5 : ¬ ((nH2 : Int) < (nU : Int)) := by omega
                        have i6 : decide ((nH2 : Int) < (nU : Int)) = false := by rw [decide_eq_false_iff_not]; exact i5
                        have hh3 : H3[ix]? = some z := by
                          have h1 := HNU.out
                          have h2 := HNH2.out
                          rw [LP.out.hh] at h2 ⊢
                          rw [List.length_append] at h2
                          rw [List.getElem?_append_right (by omega), ← hz]
                          congr 1
                          omega
                        obtain ⟨gt, rfl, k0, k1, k2, k3⟩ := (O8.out.below hBz.out).lock hz
                        obtain ⟨gh, rfl, l0, l1, l2, l3⟩ := (O9.out.below hBz.out).lock hh3
                        have mk := (M6.out.below hBz.out).cell hz7
                        have hlz : (if zw = m then true else lf zw) = false := by
                          rw [if_neg (fun e => hzm.2 (by rw [hzw, e]))]
                          have := hLf.out z (.inr hzm.1)
                          rw [hzw] at this
                          simpa using this
                        rw [hlz] at mk
                        have nq : ∀ V, (binOp .neq 29 (.agg #[.int .i64 (zw : Int), .int .i64 z.org, .int .i64 z.len, .bool z.sh]) (.agg #[.int .i64 (zw : Int), .int .i64 z.org, .int .i64 z.len, .bool z.sh])).run Try.prog V = .ok (.bool false) V := fun V => by
                          have := neq_lk z z V
                          rw [same_self, hzw] at this
                          exact this
                        rw [hzw] at k0 l0
                        have kk0 := fun d os => ext_cell k0 d os
                        have kk1 := fun d os => ext_cell k1 d os
                        have kk2 := fun d os => ext_cell k2 d os
                        have kk3 := fun d os => ext_cell k3 d os
                        have ll0 := fun d os => ext_cell l0 d os
                        have ll1 := fun d os => ext_cell l1 d os
                        have ll2 := fun d os => ext_cell l2 d os
                        have ll3 := fun d os => ext_cell l3 d os
                        have mkk := fun d os => ext_cell mk d os
                        clear k0 k1 k2 k3 l0 l1 l2 l3 mk hh3 hix hhd hlz hzm hz0 hz6 hzw hz
                        go_wp2_with fail
                        refine region_ext (by kernel_rfl) (by kernel_rfl) ?_
                        repeat (any_goals (first | go_big_quiet_step ((fail)) | quiet_step ((fail))))
                        refine wpQuiet_nil ?_
                        intro wq hwq
                        have HQ := aside (below_tr hBz.out hwq)
                        clear hwq kk0 kk1 kk2 kk3 ll0 ll1 ll2 ll3 mkk nq i1 i2
                        go_wp2_with fail
                        go_roundg (nU - (q + 1))
                        case measure => omega
                        case rel => exact ⟨q + 1, by omega, by go_num, HQ⟩
                      · obtain rfl : q = nU := by omega
                        have t9 : ¬ ((q : Int) < (q : Int)) := by omega
                        go_wp2_with fail
                        rename World => wrA
                        go_loopg [17] nH2 (fun G s17 wz => ∃ (q : Nat), q + G = nH2 ∧ s17 = .int .i64 (q : Int) ∧ wz = wrA)
                        case atStart => exact ⟨0, by omega, rfl, rfl⟩
                        case round =>
                          obtain ⟨r, hrG, rfl, rfl⟩ := hrel
                          by_cases hr : r < nH2
                          · have tA : (r : Int) < (nH2 : Int) := by omega
                            obtain ⟨z, hz⟩ : ∃ z, H3[r]? = some z := ⟨_, List.getElem?_eq_getElem (by have := HNH2.out; omega)⟩
                            obtain ⟨gh, rfl, l0, -, -, -⟩ := (O9.out.below hBz.out).lock hz
                            have hzm := (LP.out.hm z (List.mem_of_getElem? hz)).2
                            have hzm2 : (z.who == (m : Int)) = false := by simpa using hzm
                            clear hz
                            go_wp2_with fail
                            go_roundg (nH2 - (r + 1))
                            case measure => omega
                            case rel => exact ⟨r + 1, by omega, by go_num, rfl⟩
                          · obtain rfl : r = nH2 := by omega
                            have tA : ¬ ((r : Int) < (r : Int)) := by omega
                            go_wp2_with fail
                            go_roundg (60 - (k + 1))
                            case measure => omega
                            case rel =>
                              refine ⟨k + 1, H3, W3, fun j => if j = m then true else lf j, by omega, by go_num, aside ((K6.out.below hBz.out).less (fun x hx => .inl (.inl (.inl (.inl hx))))), aside (M6.out.below hBz.out), GL, aside (fun x hx => ?_)⟩
                              have hx2 : (x ∈ H2 ∨ x ∈ W2) ∧ x.who ≠ (m : Int) := by
                                rcases hx with hx | hx
                                · exact LP.out.hm x hx
                                · exact ⟨.inr (LP.out.wm x hx).1, (LP.out.wm x hx).2⟩
                              have hx3 := hG2.out.wh x hx2.1
                              simp only
                              rw [if_neg (fun e => hx2.2 (by omega))]
                              exact hLf.out x hx2.1
          · have key3 : ∀ (Q : Prop), ((¬ (k : Int) < (nO : Int) + 6) → Q) → ((k : Int) < (nO : Int) + 6 → ¬ (k : Int) < 60 → Q) → Q := fun Q h1 h2 => by
              by_cases hh : (k : Int) < (nO : Int) + 6
              · exact h2 hh (by omega)
              · exact h1 hh
            clear hk
            refine key3 _ (fun t3 => ?_) (fun t3 t4 => ?_)
            all_goals clear key3
            all_goals (
              go_wp2_with fail
              rename World => wrB
              go_loopg [18] 6 (fun G s18 wz => ∃ (q : Nat) (H W : List Lk), q + G = 6 ∧ s18 = .int .i64 (q : Int) ∧ Aside (St w wz p H W) ∧ Aside (Good H W) ∧ Aside (∀ x, x ∈ H ∨ x ∈ W → (q : Int) ≤ x.who))
              case atStart => exact ⟨0, H2, W2, by omega, rfl, aside hK.out.st, hG2, aside (fun x hx => (hG2.out.wh x hx).1)⟩
              case round =>
                obtain ⟨q, H4, W4, hqG, rfl, hS4, hG4, hL4⟩ := hrel
                by_cases hq : q < 6
                · have tB : (q : Int) < 6 := by omega
                  have C := aside (leave_st (q : Int) hS4.out)
                  have GL := aside (good_leave (q : Int) hG4.out)
                  have LP := aside (leaveP H4 W4 (q : Int))
                  go_wp2_with ((go_at_call 18; with_reducible refine C.out.mono ?_; rintro e w9 ⟨a9, c9, rfl, hs, -, -⟩; have HS9 := aside hs; clear hs))
                  go_roundg (6 - (q + 1))
                  case measure => omega
                  case rel =>
                    refine ⟨q + 1, _, _, by omega, by go_num, HS9, GL, aside (fun x hx => ?_)⟩
                    have hx2 : (x ∈ H4 ∨ x ∈ W4) ∧ x.who ≠ (q : Int) := by
                      rcases hx with hx | hx
                      · exact LP.out.hm x hx
                      · exact ⟨.inr (LP.out.wm x hx).1, (LP.out.wm x hx).2⟩
                    have := hL4.out x hx2.1
                    have := hx2.2
                    omega
                · obtain rfl : q = 6 := by omega
                  have tB : ¬ ((6 : Int) < 6) := by omega
                  have hH4 : H4 = [] := List.eq_nil_iff_forall_not_mem.2 fun x hx => by have h1 := hL4.out x (.inl hx); have h2 := hG4.out.wh x (.inl hx); omega
                  have hW4 : W4 = [] := List.eq_nil_iff_forall_not_mem.2 fun x hx => by have h1 := hL4.out x (.inr hx); have h2 := hG4.out.wh x (.inr hx); omega
                  subst hH4
                  subst hW4
                  have D1 := aside (held_c hS4.out rfl)
                  go_wp2_with (first
                    | (go_at_call 20; with_reducible refine D1.out.mono ?_; rintro e w9 ⟨a9, c9, rfl, hs, -, -⟩; have D2 := aside (waits_c hs rfl); clear hs)
                    | (go_at_call 21; with_reducible refine D2.out.mono ?_; rintro e w10 ⟨a10, c10, rfl, hs, -, -⟩; have HB := aside hs.bl; clear hs)
                    | (go_at_call 22; refine (wakes_any _).mono ?_; rintro e w11 ⟨rfl, hb⟩; have HB2 := aside hb; clear hb))
                  go_ret
                  exact ⟨rfl, below_tr HB.out HB2.out⟩))
end Go.Proofs.Ytfpegmmciphjiaa
