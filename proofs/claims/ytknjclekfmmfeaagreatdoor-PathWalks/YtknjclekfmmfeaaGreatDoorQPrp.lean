/- The document's Check, Parts, Joined, Clean. -/
import Derived.Test.YtknjclekfmmfeaaGreatDoorGE
import Derived.Test.YtknjclekfmmfeaaGreatDoorQPjn
namespace Go.Proofs.YtknjclekfmmfeaaGreatDoor
open Go.RowKit Go.ChangeMaps

set_option maxHeartbeats 1000000 in
theorem rCheck_any (s : B) (w : World) (hs : s.length ≤ 1000000000) : Calls Tryz.prog 38 #[.string (ba s)] w fun e w' => e = .returned (.int .i64 (if nameOk (ba s) = true then 0 else 190)) ∧ w' = w := by
  have AN := aside (rName_any s w hs)
  obtain ⟨S, hS⟩ : ∃ S, S = ba s := ⟨_, rfl⟩
  rw [← hS] at AN ⊢
  clear hS
  cases hz : nameOk S with
  | true =>
    rw [hz] at AN
    rw [if_pos rfl]
    go_enter Tryz.func38, Tryz.ntmps38
    go_wp2_with fail
    refine AN.out.mono ?_
    rintro e w1 ⟨rfl, rfl⟩
    go_wp2_with fail
    go_ret
    exact ⟨rfl, rfl⟩
  | false =>
    rw [hz] at AN
    rw [if_neg (by decide)]
    go_enter Tryz.func38, Tryz.ntmps38
    go_wp2_with fail
    refine AN.out.mono ?_
    rintro e w1 ⟨rfl, rfl⟩
    go_wp2_with fail
    go_ret
    exact ⟨rfl, rfl⟩
def kp (n : B) : List B := if drp n = true then [] else [n]
theorem prt_cut {n : B} (s : B) (h : (47 : UInt8) ∉ n) : prt (n ++ 47 :: s) = kp n ++ prt s := by
  unfold prt kp
  rw [spl_cut s h, List.filter_cons]
  cases drp n <;> rfl
theorem prt_plain {n : B} (h : (47 : UInt8) ∉ n) : prt n = kp n := by
  unfold prt kp
  rw [spl_plain h, List.filter_cons]
  cases drp n <;> rfl
/-- How far Parts has come. -/
structure Pmi (s : B) (zs : List B) (fr i : Nat) : Prop where
  le : i ≤ s.length + 1
  on : i ≤ s.length → fr ≤ i ∧ prt s = zs ++ prt (s.drop fr) ∧ (47 : UInt8) ∉ (s.drop fr).take (i - fr)
  off : i = s.length + 1 → prt s = zs
  few : zs.length ≤ i
theorem take_more {s : B} {fr i : Nat} {c : UInt8} (hf : fr ≤ i) (hi : s[i]? = some c) : (s.drop fr).take (i + 1 - fr) = (s.drop fr).take (i - fr) ++ [c] := by
  rw [show i + 1 - fr = (i - fr) + 1 by omega, List.take_add_one, List.getElem?_drop, show fr + (i - fr) = i by omega, hi]
  rfl
theorem kp_len (n : B) : (kp n).length ≤ 1 := by unfold kp; split <;> simp
theorem Pmi.cut {s : B} {zs : List B} {fr i : Nat} (h : Pmi s zs fr i) (hi : s[i]? = some 47) : Pmi s (zs ++ kp ((s.drop fr).take (i - fr))) (i + 1) (i + 1) := by
  have hil := (List.getElem?_eq_some_iff.1 hi).1
  obtain ⟨h1, h2, h3⟩ := h.on (by omega)
  refine ⟨by omega, fun _ => ⟨Nat.le_refl _, ?_, by simp⟩, fun e => by omega, by have h8 := h.few; have h9 := kp_len ((s.drop fr).take (i - fr)); rw [List.length_append]; omega⟩
  have h4 : s.drop fr = (s.drop fr).take (i - fr) ++ 47 :: s.drop (i + 1) := by
    conv => lhs; rw [← List.take_append_drop (i - fr) (s.drop fr)]
    rw [List.drop_drop, show fr + (i - fr) = i by omega, List.drop_eq_getElem_cons hil]
    rw [(List.getElem?_eq_some_iff.1 hi).2]
  rw [h2]
  conv => lhs; rw [h4]
  rw [prt_cut _ h3, List.append_assoc]
theorem Pmi.step {s : B} {zs : List B} {fr i : Nat} {c : UInt8} (h : Pmi s zs fr i) (hi : s[i]? = some c) (hc : c ≠ 47) : Pmi s zs fr (i + 1) := by
  have hil := (List.getElem?_eq_some_iff.1 hi).1
  obtain ⟨h1, h2, h3⟩ := h.on (by omega)
  refine ⟨by omega, fun _ => ⟨by omega, h2, ?_⟩, fun e => by omega, by have := h.few; omega⟩
  rw [take_more h1 hi]
  intro hm
  rcases List.mem_append.1 hm with hm | hm
  · exact h3 hm
  · exact hc (List.mem_singleton.1 hm).symm
theorem Pmi.last {s : B} {zs : List B} {fr : Nat} (h : Pmi s zs fr s.length) : Pmi s (zs ++ kp ((s.drop fr).take (s.length - fr))) (s.length + 1) (s.length + 1) := by
  obtain ⟨h1, h2, h3⟩ := h.on (Nat.le_refl _)
  refine ⟨Nat.le_refl _, fun e => by omega, fun _ => ?_, by have h8 := h.few; have h9 := kp_len ((s.drop fr).take (s.length - fr)); rw [List.length_append]; omega⟩
  have h4 : (s.drop fr).take (s.length - fr) = s.drop fr := List.take_of_length_le (by rw [List.length_drop]; exact Nat.le_refl _)
  rw [h4] at h3 ⊢
  rw [h2, prt_plain h3]
theorem extract_list (s : B) (fr i : Nat) (_h : fr ≤ i) : (ba s).extract fr i = ba ((s.drop fr).take (i - fr)) := by
  rw [← ba_of ((ba s).extract fr i)]
  congr 1
  rw [ByteArray.data_extract, Array.toList_extract, ba_list]
theorem one_src {W : World} {x : ByteArray} {o : World} (hW : W = o.alloc (.cells #[.string x] 9)) : SrcAt W (.slice (some ⟨o.heap.size, 0, none⟩) 1 1) 1 [.string x] := ⟨_, _, rfl, fun _ => ⟨_, rfl, fun j u hj => by
  rw [Addr.add_lit, Nat.zero_add, hW, cell_of_row _ _ j _ _ _ (heap_alloc_new o _)]
  simpa using hj⟩⟩
theorem one_one (x : ByteArray) : ∀ u ∈ [Value.string x], u.oneCell' = true := by
  intro u hm
  rw [List.mem_singleton.1 hm]; rfl
set_option maxRecDepth 20000 in
set_option maxHeartbeats 8000000 in
theorem rParts_any (s : B) (w : World) (hs : s.length ≤ 1000000) : Calls Tryz.prog 36 #[.string (ba s)] w fun e w' => ∃ v, e = .returned v ∧ GwS w' w.heap.size v (prt s) ∧ Below w.heap.size w w' := by
  obtain ⟨S, hS⟩ : ∃ S, S = ba s := ⟨_, rfl⟩
  have hsz : S.size = s.length := by rw [hS, ba_size]
  have AS := aside hS
  obtain ⟨n, hn⟩ : ∃ n, n = s.length := ⟨_, rfl⟩
  have AN := aside hn
  rw [← hn] at hsz
  rw [← hS]
  have hnl : n ≤ 1000000 := by rw [hn]; exact hs
  have A0 : Aside (Pmi s [] 0 0) := ⟨by omega, fun _ => ⟨Nat.le_refl _, by simp, by simp⟩, fun e => by omega, Nat.le_refl _⟩
  clear hS hn
  go_enter Tryz.func36, Tryz.ntmps36
  go_wp2_with fail
  go_loopg [3, 4, 5] (n + 1) (fun g s3 s4 s5 wx => ∃ (zs : List B) (fr i : Nat), i + g = n + 1 ∧ fr ≤ n + 1 ∧ s5 = .int .i64 (i : Int) ∧ s4 = .int .i64 (fr : Int) ∧ GwS wx w.heap.size s3 zs ∧ Below w.heap.size w wx ∧ Pmi s zs fr i)
  case atStart => exact ⟨[], 0, 0, by omega, by omega, rfl, rfl, GwS.nil _ _, Below.refl _ _, A0.out⟩
  case round =>
    obtain ⟨zs, fr, i, hig, hfr, rfl, rfl, hN, hB, hM⟩ := hrel
    have AG := aside hN
    have AB := aside hB
    have AP := aside hM
    clear hN hM hB A0
    cases gk with
    | zero =>
      obtain rfl : i = n + 1 := by omega
      have hi : ¬ (((n + 1 : Nat) : Int) ≤ (n : Int)) := by omega
      go_wp2_with fail
      go_ret
      have hz := AP.out.off (by rw [AN.out])
      exact ⟨_, rfl, by rw [hz]; exact AG.out, AB.out⟩
    | succ gk =>
      have hi : ((i : Int) ≤ (n : Int)) := by omega
      have hin : i ≤ s.length := by have := AN.out; omega
      have hfi := (AP.out.on hin).1
      have hzl := AP.out.few
      have hwi : IntKind.i64.wrap ((i : Int) + 1) = ((i + 1 : Nat) : Int) := by rw [wrap_small _ (by omega) (by omega)]; simp
      have hex := extract_list s fr i hfi
      rw [← AS.out] at hex
      have hexl : (S.extract fr i).toList = (s.drop fr).take (i - fr) := by rw [hex, Lib.toList_data, ba_list]
      have Aex := aside hex
      have h1 : (0 : Int) ≤ (fr : Int) := by omega
      have h2 : (fr : Int) ≤ (i : Int) := by omega
      have h3 : (i : Int) ≤ (S.size : Int) := by omega
      obtain ⟨pc, hpc⟩ : ∃ pc, pc = (s.drop fr).take (i - fr) := ⟨_, rfl⟩
      rw [← hpc] at hexl Aex
      have Apc := aside hpc
      have hpl : pc.length = i - fr := by rw [hpc, List.length_take, List.length_drop]; omega
      obtain ⟨W, hW⟩ : ∃ W, W = wr.alloc (.cells #[.string (S.extract fr i)] 9) := ⟨_, rfl⟩
      have hBW : Below wr.heap.size wr W := by rw [hW]; exact below_al _ _
      have AGW := aside (AG.out.below hBW)
      have ABW := aside (AB.out.trans (hBW.mono AB.out.size))
      have ASr := aside (one_src hW)
      clear hex hpc hBW
      by_cases hl : i = n
      · subst hl
        have hlt0 : ¬ (i : Int) < (i : Int) := by omega
        have Acut : Aside (Pmi s (zs ++ kp pc) (i + 1) (i + 1)) := by
          have := AP.out
          rw [Apc.out]
          rw [AN.out] at this ⊢
          exact this.last
        by_cases hfe : fr = i
        · subst hfe
          have hlt : ¬ (fr : Int) < (fr : Int) := by omega
          have hk0 : kp pc = [] := by
            obtain rfl : pc = [] := List.eq_nil_of_length_eq_zero (by omega)
            rfl
          rw [hk0, List.append_nil] at Acut
          clear hexl
          go_wp2_with fail
          go_roundg gk
          case measure => omega
          case rel => exact ⟨zs, fr + 1, fr + 1, by omega, by omega, by first | rfl | simp, by first | rfl | simp, AG.out, AB.out, Acut.out⟩
        · have hlt : (fr : Int) < (i : Int) := by omega
          by_cases h46 : pc = [46]
          · have he : ((S.extract fr i).toList == [46]) = true := by rw [hexl, h46]; rfl
            have hk0 : kp pc = [] := by rw [h46]; rfl
            rw [hk0, List.append_nil] at Acut
            clear hexl
            go_wp2_with fail
            go_roundg gk
            case measure => omega
            case rel => exact ⟨zs, i + 1, i + 1, by omega, by omega, by first | rfl | simp, by first | rfl | simp, AG.out, AB.out, Acut.out⟩
          · have he : ((S.extract fr i).toList == [46]) = false := by rw [hexl]; exact beq_eq_false_iff_ne.2 h46
            have hk1 : kp pc = [pc] := by
              unfold kp drp
              rw [beq_eq_false_iff_ne.2 h46, beq_eq_false_iff_ne.2 (fun e => by rw [e] at hpl; simp at hpl; omega)]
              rfl
            rw [hk1] at Acut
            clear hexl
            go_wp2_with (at_builtin; rw [← hW]; refine wpList_append_any W rfl _ _ 62 rfl 9 (.string ByteArray.empty) 1 16 Tryz.underlying62 infoS rfl (by omega) _ zs.length (zs.map enS) rfl AGW.out.1 _ 1 [.string (S.extract fr i)] rfl rfl ASr.out (one_one _) (by unfold maxLen; omega) (by omega) ?_; intro v4 w4 ho4 hu4 hv4; rw [Aex.out] at ho4; obtain ⟨h5, h6⟩ := AGW.out.more (x := pc) ABW.out.size ho4 hu4 hv4; have A5 := aside h5; have A6 := aside (ABW.out.trans h6); clear ho4 hu4 hv4 h5 h6)
            go_roundg gk
            case measure => omega
            case rel => exact ⟨zs ++ [pc], i + 1, i + 1, by omega, by omega, by first | rfl | simp, by first | rfl | simp, A5.out, A6.out, Acut.out⟩
      · have hlt0 : (i : Int) < (n : Int) := by omega
        have hi1 : i < S.size := by omega
        have hi2 : (i : Int) < (S.size : Int) := by omega
        have hi0 : (0 : Int) ≤ (i : Int) := by omega
        have hil : i < s.length := by have := AN.out; omega
        have hSi : S[i]'hi1 = s[i]'hil := by
          have := AS.out
          subst this
          rfl
        have hg47 : s[i]? = some (s[i]'hil) := List.getElem?_eq_getElem hil
        by_cases hb : s[i]'hil = 47
        · have hc : (((S[i]'hi1).toNat : Int) == 47) = true := by rw [hSi, hb]; rfl
          have Acut : Aside (Pmi s (zs ++ kp pc) (i + 1) (i + 1)) := by rw [Apc.out]; exact AP.out.cut (by rw [hg47, hb])
          clear hb hSi hg47
          by_cases hfe : fr = i
          · subst hfe
            have hlt : ¬ (fr : Int) < (fr : Int) := by omega
            have hk0 : kp pc = [] := by
              obtain rfl : pc = [] := List.eq_nil_of_length_eq_zero (by omega)
              rfl
            rw [hk0, List.append_nil] at Acut
            clear hexl
            go_wp2_with fail
            go_roundg gk
            case measure => omega
            case rel => exact ⟨zs, fr + 1, fr + 1, by omega, by omega, by first | rfl | simp, by first | rfl | simp, AG.out, AB.out, Acut.out⟩
          · have hlt : (fr : Int) < (i : Int) := by omega
            by_cases h46 : pc = [46]
            · have he : ((S.extract fr i).toList == [46]) = true := by rw [hexl, h46]; rfl
              have hk0 : kp pc = [] := by rw [h46]; rfl
              rw [hk0, List.append_nil] at Acut
              clear hexl
              go_wp2_with fail
              go_roundg gk
              case measure => omega
              case rel => exact ⟨zs, i + 1, i + 1, by omega, by omega, by first | rfl | simp, by first | rfl | simp, AG.out, AB.out, Acut.out⟩
            · have he : ((S.extract fr i).toList == [46]) = false := by rw [hexl]; exact beq_eq_false_iff_ne.2 h46
              have hk1 : kp pc = [pc] := by
                unfold kp drp
                rw [beq_eq_false_iff_ne.2 h46, beq_eq_false_iff_ne.2 (fun e => by rw [e] at hpl; simp at hpl; omega)]
                rfl
              rw [hk1] at Acut
              clear hexl
              go_wp2_with (at_builtin; rw [← hW]; refine wpList_append_any W rfl _ _ 62 rfl 9 (.string ByteArray.empty) 1 16 Tryz.underlying62 infoS rfl (by omega) _ zs.length (zs.map enS) rfl AGW.out.1 _ 1 [.string (S.extract fr i)] rfl rfl ASr.out (one_one _) (by unfold maxLen; omega) (by omega) ?_; intro v4 w4 ho4 hu4 hv4; rw [Aex.out] at ho4; obtain ⟨h5, h6⟩ := AGW.out.more (x := pc) ABW.out.size ho4 hu4 hv4; have A5 := aside h5; have A6 := aside (ABW.out.trans h6); clear ho4 hu4 hv4 h5 h6)
              go_roundg gk
              case measure => omega
              case rel => exact ⟨zs ++ [pc], i + 1, i + 1, by omega, by omega, by first | rfl | simp, by first | rfl | simp, A5.out, A6.out, Acut.out⟩
        · have hc : (((S[i]'hi1).toNat : Int) == 47) = false := by
            rw [hSi]
            refine beq_eq_false_iff_ne.2 fun e => hb ?_
            apply UInt8.toNat_inj.1
            have : (s[i]'hil).toNat = 47 := by omega
            rw [this]; rfl
          have Ast := aside (AP.out.step hg47 hb)
          clear hb hSi hg47 hexl
          go_wp2_with fail
          go_roundg gk
          case measure => omega
          case rel => exact ⟨zs, fr, i + 1, by omega, by omega, by first | rfl | simp, rfl, AG.out, AB.out, Ast.out⟩
end Go.Proofs.YtknjclekfmmfeaaGreatDoor
