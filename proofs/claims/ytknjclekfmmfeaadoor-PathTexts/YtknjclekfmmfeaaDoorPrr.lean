/- The document's Clean. -/
import Derived.Test.YtknjclekfmmfeaaDoorPrq
namespace Go.Proofs.YtknjclekfmmfeaaDoor
open Go.RowKit Go.ChangeMaps

set_option maxRecDepth 20000 in
set_option maxHeartbeats 8000000 in
theorem rClean_any (p : B) (w : World) : Calls Tryd.prog 7 #[.string (ba p)] w fun e w' => e = .returned (clA p) ∧ Below w.heap.size w w' := by
  have hps : (ba p).size = p.length := ba_size p
  obtain ⟨V, hV⟩ : ∃ V, V = clA p := ⟨_, rfl⟩
  have AV := aside hV
  rw [← hV]
  obtain ⟨P, hP⟩ : ∃ P, P = ba p := ⟨_, rfl⟩
  have AP := aside hP
  rw [← hP] at hps ⊢
  clear hV hP
  go_enter Tryd.func7, Tryd.ntmps7
  by_cases hl : 4096 < p.length
  · have hl2 : (4096 : Int) < (P.size : Int) := by omega
    go_wp2_with fail
    go_ret2
    exact ⟨by rw [AV.out]; unfold clA; rw [if_pos hl]; rfl, Below.refl _ _⟩
  · have hl2 : ¬ (4096 : Int) < (P.size : Int) := by omega
    have APA := aside (rParts_any p w (by omega))
    rw [← AP.out] at APA
    have hpl := prt_len p
    obtain ⟨l, hll⟩ : ∃ l, l = prt p := ⟨_, rfl⟩
    have ALL := aside hll
    have hwd := wid_prt p
    rw [← hll] at APA hpl hwd
    obtain ⟨n, hn⟩ : ∃ n, n = l.length := ⟨_, rfl⟩
    have An := aside hn
    rw [← hn] at hpl
    have hxs : ∀ x ∈ l, x.length ≤ 5000 := fun x hx => by
      have : x.length ≤ wid l := by
        obtain ⟨a, b, rfl⟩ := List.append_of_mem hx
        rw [wid_app, wid_cons]
        omega
      omega
    have Axs := aside hxs
    clear hn hll hxs hwd
    go_wp2_with fail
    refine APA.out.mono ?_
    rintro e w1 ⟨v1, rfl, hg1, hb1⟩
    have A1 := aside hb1
    have AS := aside hg1.st
    obtain ⟨a, c, hv, hc⟩ : ∃ a c, v1 = .slice a n c ∧ n ≤ c := by
      obtain ⟨a, c, e, h1, -⟩ := hg1.st
      rw [← An.out] at e h1
      exact ⟨a, c, e, h1⟩
    subst hv
    clear hb1 hg1 APA
    go_wp2_with fail
    go_loopg [2, 3, 5, 6] n (fun g s2 s3 s5 _ wx => s2 = .string ⟨#[]⟩ ∧ s3 = .int .i64 0 ∧ ∃ i : Nat, i + g = n ∧ s5 = .int .i64 (i : Int) ∧ wx = w1 ∧ ∀ x ∈ l.take i, x = dd ∨ nameOk (ba x) = true)
    case atStart => exact ⟨rfl, rfl, 0, by omega, rfl, rfl, by simp⟩
    case round =>
      obtain ⟨rfl, rfl, i, hig, rfl, rfl, hall⟩ := hrel
      have AAll := aside hall
      clear hall
      cases gk with
      | succ gk =>
        have hi : (i : Int) < (n : Int) := by omega
        have hi0 : (0 : Int) ≤ (i : Int) := by omega
        have hwi : IntKind.i64.wrap ((i : Int) + 1) = ((i + 1 : Nat) : Int) := by rw [wrap_small _ (by omega) (by omega)]; simp
        obtain ⟨x, hx⟩ : ∃ x, l[i]? = some x := ⟨_, List.getElem?_eq_getElem (by rw [← An.out]; omega)⟩
        obtain ⟨g, o, rfl, -, hcx⟩ := AS.out.get hx
        have hxm : x ∈ l := List.mem_of_getElem? hx
        have hxl : (ba x).toList = x := by rw [Lib.toList_data, ba_list]
        have ACK := aside (rCheck_any x wr (by have := Axs.out x hxm; omega))
        have Atk : Aside (x = dd ∨ nameOk (ba x) = true → ∀ y ∈ l.take (i + 1), y = dd ∨ nameOk (ba y) = true) := fun h y hy => by
          rw [List.take_add_one, hx] at hy
          rcases List.mem_append.1 hy with hy | hy
          · exact AAll.out y hy
          · simp only [Option.toList_some, List.mem_singleton] at hy
            exact hy ▸ h
        have Abad : Aside (x ≠ dd → ¬ nameOk (ba x) = true → V = .tuple #[.string ⟨#[]⟩, .int .i64 190]) := fun h1 h2 => by
          rw [AV.out]
          unfold clA
          rw [if_neg hl, ← ALL.out, cln_bad hxm h1 h2]
        obtain ⟨X, hX⟩ : ∃ X, X = ba x := ⟨_, rfl⟩
        rw [show enS x = .string X by rw [hX]] at hcx
        rw [← hX] at hxl ACK Atk Abad
        clear hX hx
        by_cases hok : nameOk X = true
        · rw [if_pos hok] at ACK
          have Ant := aside (Atk.out (.inr hok))
          clear hxl hok Atk Abad
          go_wp2_with fail
          refine ACK.out.mono ?_
          rintro e w3 ⟨rfl, rfl⟩
          clear ACK
          go_wp2_with fail
          go_roundg gk
          case measure => omega
          case rel => exact ⟨rfl, rfl, i + 1, by omega, by first | rfl | simp, rfl, Ant.out⟩
        · rw [if_neg hok] at ACK
          by_cases hdd : x = dd
          · have hq1 : (X.toList == [46, 46]) = true := by rw [hxl, hdd]; rfl
            have Ant := aside (Atk.out (.inl hdd))
            clear hxl hok Atk Abad
            go_wp2_with fail
            refine ACK.out.mono ?_
            rintro e w3 ⟨rfl, rfl⟩
            clear ACK
            go_wp2_with fail
            go_roundg gk
            case measure => omega
            case rel => exact ⟨rfl, rfl, i + 1, by omega, by first | rfl | simp, rfl, Ant.out⟩
          · have hq1 : (X.toList == [46, 46]) = false := by rw [hxl]; exact beq_eq_false_iff_ne.2 hdd
            have AE := aside (Abad.out hdd hok)
            clear hxl hok Atk Abad
            go_wp2_with fail
            refine ACK.out.mono ?_
            rintro e w3 ⟨rfl, rfl⟩
            clear ACK
            go_wp2_with fail
            go_ret2
            exact ⟨by rw [AE.out]; rfl, A1.out⟩
      | zero =>
        obtain rfl : i = n := by omega
        have hi : ¬ (i : Int) < (i : Int) := by omega
        have Aok : Aside (∀ x ∈ l, x ≠ dd → nameOk (ba x) = true) := fun x hx h1 => by
          have := AAll.out x (by rw [An.out, List.take_length]; exact hx)
          exact this.resolve_left h1
        clear AAll
        go_wp2_with fail
        go_loopg [7, 8] i (fun g s7 s8 wx => ∃ (j : Nat) (acc : List B), j + g = i ∧ s8 = .int .i64 (j : Int) ∧ GwS wx wr.heap.size s7 acc ∧ Below wr.heap.size wr wx ∧ acc.length ≤ j ∧ cln (l.drop j) acc = cln l [])
        case atStart => exact ⟨0, [], by omega, rfl, GwS.nil _ _, Below.refl _ _, Nat.le_refl _, rfl⟩
        case round =>
          obtain ⟨j, acc, hjg, rfl, hgw, hbx, haj, hcl⟩ := hrel
          rename World => wq
          have AGW := aside hgw
          have ABX := aside hbx
          have ACL := aside hcl
          have hst := AS.out.keep (fun g _ hg => hbx.block g (Array.getElem?_eq_some_iff.1 hg).1)
          clear hgw hbx hcl
          cases gk with
          | zero =>
            obtain rfl : j = i := by omega
            have hj : ¬ (j : Int) < (j : Int) := by omega
            have hcl2 : cln l [] = some acc := by
              have h1 := ACL.out
              rw [An.out, List.drop_length] at h1
              exact h1.symm
            have AE : Aside (V = .tuple #[.string (ba (pth acc)), .int .i64 0]) := by
              rw [AV.out]
              unfold clA
              rw [if_neg hl, ← ALL.out, hcl2]
              rfl
            have AJ := aside (rJoined_any acc _ wq AGW.out.st (by omega) (by have h1 := cln_wid hcl2; have h2 := wid_prt p; rw [← ALL.out] at h2; have h3 : wid [] = 0 := rfl; omega))
            obtain ⟨Z, hZ⟩ : ∃ Z, Z = ba (pth acc) := ⟨_, rfl⟩
            rw [← hZ] at AE AJ
            clear hst hZ
            go_wp2_with fail
            refine AJ.out.mono ?_
            rintro e w3 ⟨rfl, rfl⟩
            have AB3 := aside (A1.out.trans (ABX.out.mono A1.out.size))
            clear AJ
            go_wp2_with fail
            go_ret2
            exact ⟨by rw [AE.out]; rfl, AB3.out⟩
          | succ gk =>
            have hj : (j : Int) < (i : Int) := by omega
            have hj0 : (0 : Int) ≤ (j : Int) := by omega
            have hwj : IntKind.i64.wrap ((j : Int) + 1) = ((j + 1 : Nat) : Int) := by rw [wrap_small _ (by omega) (by omega)]; simp
            have hjl : j < l.length := by rw [← An.out]; omega
            obtain ⟨x, hx⟩ : ∃ x, l[j]? = some x := ⟨_, List.getElem?_eq_getElem hjl⟩
            obtain ⟨g, o, rfl, -, hcx⟩ := hst.get hx
            have hxm : x ∈ l := List.mem_of_getElem? hx
            have hdrop : l.drop j = x :: l.drop (j + 1) := by
              rw [List.drop_eq_getElem_cons hjl]
              rw [List.getElem?_eq_getElem hjl] at hx
              simp only [Option.some.injEq] at hx
              rw [hx]
            rw [hdrop] at ACL
            have hxl : (ba x).toList = x := by rw [Lib.toList_data, ba_list]
            have Aokx := aside (Aok.out x hxm)
            obtain ⟨X, hX⟩ : ∃ X, X = ba x := ⟨_, rfl⟩
            have AX := aside hX
            rw [show enS x = .string X by rw [hX]] at hcx
            rw [← hX] at hxl
            clear hX hst hx hdrop hxm
            by_cases hdd : x = dd
            · have hq1 : (X.toList == [46, 46]) = true := by rw [hxl, hdd]; rfl
              have hcld := ACL.out
              rw [hdd, cln_dd] at hcld
              have Acd := aside hcld
              clear hcld
              by_cases ha0 : acc = []
              · obtain ⟨av, cv, hv, hcv⟩ : ∃ av cv, u7 = .slice av 0 cv ∧ 0 ≤ cv := by
                  obtain ⟨av, cv, e, h1, -⟩ := AGW.out.st
                  rw [ha0] at e h1
                  exact ⟨av, cv, e, h1⟩
                subst hv
                have hz : ¬ (0 : Int) < ((0 : Nat) : Int) := by omega
                have Aa0 := aside ha0
                clear hxl ha0
                go_wp2_with fail
                go_roundg gk
                case measure => omega
                case rel => exact ⟨j + 1, acc, by omega, by first | rfl | simp, AGW.out, ABX.out, by omega, by have h1 := Acd.out; rw [Aa0.out] at h1 ⊢; exact h1⟩
              · obtain ⟨av, cv, hv, hcv, hgw⟩ := AGW.out.cut (acc.length - 1) (by omega)
                subst hv
                have hap : 0 < acc.length := List.length_pos_iff.2 ha0
                obtain ⟨k, hk⟩ : ∃ k, k = acc.length := ⟨_, rfl⟩
                have Ak := aside hk
                rw [← hk] at hgw hcv hap haj ⊢
                have hz : (0 : Int) < (k : Int) := by omega
                have hwm : IntKind.i64.wrap ((k : Int) - 1) = ((k - 1 : Nat) : Int) := by rw [wrap_small _ (by omega) (by omega)]; omega
                have hsl := slice_hS av k cv (k - 1) (by omega)
                obtain ⟨k1, hk1⟩ : ∃ k1, k1 = k - 1 := ⟨_, rfl⟩
                rw [← hk1] at hsl hwm hgw
                have Ak1 := aside hk1
                have AG2 := aside hgw
                clear hxl hk hk1 hgw AGW ha0
                go_wp2_with fail
                go_roundg gk
                case measure => omega
                case rel =>
                  refine ⟨j + 1, acc.take k1, by omega, by first | rfl | simp, AG2.out, ABX.out, ?_, ?_⟩
                  · have h1 := List.length_take_le' k1 acc
                    have h2 := Ak.out
                    omega
                  · have h1 := Acd.out
                    rw [List.dropLast_eq_take] at h1
                    rw [Ak1.out, Ak.out]
                    exact h1
            · have hq1 : (X.toList == [46, 46]) = false := by rw [hxl]; exact beq_eq_false_iff_ne.2 hdd
              have hcld := ACL.out
              rw [cln_ok _ _ hdd (Aokx.out hdd)] at hcld
              have Acd := aside hcld
              obtain ⟨W, hW⟩ : ∃ W, W = wq.alloc (.cells #[.string X] 9) := ⟨_, rfl⟩
              have hBW : Below wq.heap.size wq W := by rw [hW]; exact below_al _ _
              have AGWW := aside (AGW.out.below hBW)
              have ABW := aside (ABX.out.trans (hBW.mono ABX.out.size))
              have ASr := aside (one_src hW)
              clear hxl hcld hBW
              go_wp2_with (at_builtin; rw [← hW]; refine wpList_append_any W rfl _ _ 38 rfl 9 (.string ByteArray.empty) 1 16 Tryd.underlying38 infoS rfl (by omega) _ acc.length (acc.map enS) rfl AGWW.out.1 _ 1 [.string X] rfl rfl ASr.out (one_one _) (by unfold maxLen; omega) (by omega) ?_; intro v4 w4 ho4 hu4 hv4; rw [AX.out] at ho4; obtain ⟨h5, h6⟩ := AGWW.out.more (x := x) ABW.out.size ho4 hu4 hv4; have A5 := aside h5; have A6 := aside (ABW.out.trans h6); clear ho4 hu4 hv4 h5 h6)
              go_roundg gk
              case measure => omega
              case rel => exact ⟨j + 1, acc ++ [x], by omega, by first | rfl | simp, A5.out, A6.out, by simp; omega, Acd.out⟩
end Go.Proofs.YtknjclekfmmfeaaDoor
