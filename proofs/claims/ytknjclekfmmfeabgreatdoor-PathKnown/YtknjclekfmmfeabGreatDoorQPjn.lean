/- Join; Clean. -/
import Derived.Test.YtknjclekfmmfeabGreatDoorGF
namespace Go.Proofs.YtknjclekfmmfeabGreatDoor
open Go.RowKit Go.ChangeMaps Go.Shelf

theorem join_pth : ∀ (l : List B) (x : B), x ++ Lib.joinTail [47] l = pth (x :: l)
  | [], x => by rw [pth_one]; simp [Lib.joinTail]
  | y :: l, x => by
    rw [pth_cons (by simp), ← join_pth l y]
    simp [Lib.joinTail]
theorem lib_join (l : List B) : Lib.join l [47] = pth l := by
  cases l with
  | nil => rfl
  | cons x l => rw [Lib.join_cons, join_pth]
theorem join_any (l : List B) (v : Value) (W : World) (h : StAt W v l) (hl : l.length ≤ 1000000) (hw : (pth l).length ≤ 1000000000) :
    Calls Tryz.prog 19 #[v, .string ⟨#[47]⟩] W fun e w' => e = .returned (.string (ba (pth l))) ∧ Below W.heap.size W w' := by
  obtain ⟨a, c, rfl, hc, h⟩ := h
  by_cases hn : l = []
  · subst hn
    refine Calls.mono (Any.strings_Join_none (ρ := lays156_ren) lays156 Xra a c ⟨#[47]⟩ W) ?_
    rintro e w' ⟨rfl, rfl⟩
    exact ⟨rfl, Below.refl _ _⟩
  · obtain ⟨g, o, cs, rfl, h1, h2⟩ := h hn
    have hm : (l.map ba).map (·.data.toList) = l := by rw [List.map_map]; exact (List.map_congr_left (fun x _ => ba_list x)).trans (List.map_id l)
    have hj : Lib.join ((l.map ba).map (·.data.toList)) (⟨#[47]⟩ : ByteArray).data.toList = pth l := by rw [hm]; exact lib_join l
    have := Any.strings_Join (ρ := lays156_ren) lays156 Xra g o c (l.map ba) ⟨#[47]⟩ W (fun j x hx => by
      rw [List.getElem?_map, Option.map_eq_some_iff] at hx
      obtain ⟨y, hy, rfl⟩ := hx
      rw [cell_of_row W g _ _ _ _ h1]
      exact h2 j y hy) (Array.getElem?_eq_some_iff.1 h1).1 (by simp; omega) (by simpa using hc) (by rw [hj]; omega)
    rw [hj, List.length_map] at this
    exact this
theorem slice_hS (a : Option Addr) (n c j : Nat) (hj : j ≤ c) :
    ∀ W, (Instr.slice 55 (.slice a n c) none (some (.int .i64 (j : Int))) none).run Tryz.prog W = .ok (.slice a j c) W := by
  intro W
  rw [run_slice_h W 55 a n c elemS .i64 _ (by omega) (by omega), sizeS]
  simp only [Result.andThen, sliced, Int.toNat_natCast, Nat.sub_zero, Nat.zero_mul]
  have e : (if c = 0 then a else a.map fun x => x.add 0) = a := by
    split
    · rfl
    · cases a with
      | none => rfl
      | some x => simp [Addr.add]
  rw [e]
/-- A growing row of parts, in blocks from lo on. -/
def GwS (w : World) (lo : Nat) (v : Value) (l : List B) : Prop := w.ownsRow 0 9 1 v l.length (l.map enS) ∧ ∀ k, v.ownBlock = some k → lo ≤ k
theorem GwS.nil (w : World) (lo : Nat) : GwS w lo (.slice none 0 0) [] := ⟨⟨rfl, .inl ⟨rfl, rfl⟩⟩, fun k hk => by simp [Value.ownBlock] at hk⟩
theorem GwS.below {w w' : World} {lo : Nat} {v : Value} {l : List B} (h : GwS w lo v l) (b : Below w.heap.size w w') : GwS w' lo v l := ⟨row_below h.1 b, h.2⟩
theorem GwS.cut {w : World} {lo : Nat} {v : Value} {l : List B} (h : GwS w lo v l) (k : Nat) (hk : k ≤ l.length) : ∃ a c, v = .slice a l.length c ∧ l.length ≤ c ∧ GwS w lo (.slice a k c) (l.take k) := by
  obtain ⟨h1, h2⟩ := h
  have hl : (l.take k).length = k := by rw [List.length_take]; omega
  rcases h1.2 with ⟨rfl, h0⟩ | ⟨g, c, cs, rfl, g1, g2, g3, g4, g5, g6⟩
  · obtain rfl : k = 0 := by omega
    exact ⟨none, 0, by rw [h0], by omega, GwS.nil w lo⟩
  · refine ⟨_, c, rfl, g3, ⟨by simp, .inr ⟨g, c, cs, by rw [hl], g1, g2, by omega, g4, g5, ?_⟩⟩, h2⟩
    rw [hl, List.map_take, ← g6, List.take_take]
    congr 1
    omega
theorem GwS.st {w : World} {lo : Nat} {v : Value} {l : List B} (h : GwS w lo v l) : StAt w v l := StAt.of_own h.1
/-- One more. -/
theorem GwS.more {w w' : World} {lo : Nat} {v v' : Value} {l : List B} {x : B} (h : GwS w lo v l) (hlo : lo ≤ w.heap.size) (ho : w'.ownsRow 0 9 1 v' (l.length + 1) (l.map enS ++ [enS x])) (hu : Upd (fun k => v.ownBlock = some k) w w') (hv : v'.ownBlock = v.ownBlock ∨ v'.ownBlock = some w.heap.size) : GwS w' lo v' (l ++ [x]) ∧ Below lo w w' := by
  refine ⟨⟨by simpa using ho, fun k hk => ?_⟩, hu.below hlo (fun k hk => h.2 k hk)⟩
  rcases hv with e | e
  · exact h.2 k (e ▸ hk)
  · rw [e] at hk
    simp only [Option.some.injEq] at hk
    omega
theorem StAt.get {w : World} {a : Option Addr} {n c : Nat} {l : List B} (h : StAt w (.slice a n c) l) {i : Nat} {x : B} (hx : l[i]? = some x) : ∃ g o, a = some ⟨g, o, none⟩ ∧ n = l.length ∧ w.cell? ⟨g, o + i, none⟩ = some (enS x) := by
  obtain ⟨a', c', e, -, h⟩ := h
  injection e with e1 e2 e3
  obtain ⟨g, o, cs, rfl, h1, h2⟩ := h (fun e => by rw [e] at hx; simp at hx)
  exact ⟨g, o, e1, e2, by rw [cell_of_row w g _ _ _ _ h1]; exact h2 i x hx⟩
theorem cln_dd (l a : List B) : cln (dd :: l) a = cln l a.dropLast := by rw [cln, if_pos rfl]
theorem cln_ok {x : B} (l a : List B) (h : x ≠ dd) (hn : nameOk (ba x) = true) : cln (x :: l) a = cln l (a ++ [x]) := by rw [cln, if_neg h, if_pos hn]
theorem cln_no {x : B} (l a : List B) (h : x ≠ dd) (hn : ¬ nameOk (ba x) = true) : cln (x :: l) a = none := by rw [cln, if_neg h, if_neg hn]
/-- What Clean answers. -/
def clA (p : B) : Value := if 4096 < p.length then .tuple #[.string ⟨#[]⟩, .int .i64 3] else match cln (prt p) [] with | none => .tuple #[.string ⟨#[]⟩, .int .i64 190] | some b => .tuple #[.string (ba (pth b)), .int .i64 0]
theorem cln_take : ∀ {l a b : List B}, cln l a = some b → b.length ≤ a.length + l.length
  | [], a, b, h => by unfold cln at h; cases h; omega
  | x :: l, a, b, h => by
    unfold cln at h
    simp only [List.length_cons]
    by_cases hx : x = dd
    · rw [if_pos hx] at h
      have := cln_take h
      rw [List.length_dropLast] at this
      omega
    · rw [if_neg hx] at h
      by_cases hn : nameOk (ba x) = true
      · rw [if_pos hn] at h
        have := cln_take h
        simp at this
        omega
      · rw [if_neg hn] at h; cases h
set_option maxRecDepth 20000 in
set_option maxHeartbeats 8000000 in
theorem clean_any (p : B) (w : World) (hM : Mxl w) : Calls Tryz.prog 11 #[.string (ba p)] w fun e w' => e = .returned (clA p) ∧ Below w.heap.size w w' := by
  have hps : (ba p).size = p.length := ba_size p
  obtain ⟨V, hV⟩ : ∃ V, V = clA p := ⟨_, rfl⟩
  have AV := aside hV
  rw [← hV]
  obtain ⟨P, hP⟩ : ∃ P, P = ba p := ⟨_, rfl⟩
  have AP := aside hP
  rw [← hP] at hps ⊢
  clear hV hP
  go_enter Tryz.func11, Tryz.ntmps11
  by_cases hl : 4096 < p.length
  · have hl2 : (4096 : Int) < (P.size : Int) := by omega
    go_wp2_with fail
    go_ret2
    exact ⟨by rw [AV.out]; unfold clA; rw [if_pos hl]; rfl, Below.refl _ _⟩
  · have hl2 : ¬ (4096 : Int) < (P.size : Int) := by omega
    have APA := aside (parts_any p w hM (by omega))
    rw [← AP.out] at APA
    have hpl := prt_len p
    obtain ⟨n, hn⟩ : ∃ n, n = (prt p).length := ⟨_, rfl⟩
    have An := aside hn
    rw [← hn] at APA hpl
    clear hn
    go_wp2_with fail
    refine APA.out.mono ?_
    rintro e w1 ⟨c1, rfl, hb1, ho1⟩
    have A1 := aside hb1
    have hst := StAt.of_own ho1
    have AS := aside hst
    clear hb1 ho1 hst APA
    go_wp2_with fail
    go_loopg [2, 3, 4, 6, 7, 14] n (fun g s2 s3 s4 _ _ s14 wx => s2 = .string ⟨#[]⟩ ∧ s3 = .int .i64 0 ∧ ∃ (i : Nat) (acc : List B), i + g = n ∧ s14 = .int .i64 (i : Int) ∧ GwS wx w1.heap.size s4 acc ∧ Below w1.heap.size w1 wx ∧ acc.length ≤ i ∧ cln ((prt p).drop i) acc = cln (prt p) [])
    case atStart => exact ⟨rfl, rfl, 0, [], by omega, rfl, GwS.nil _ _, Below.refl _ _, Nat.le_refl _, rfl⟩
    case round =>
      obtain ⟨rfl, rfl, i, acc, hig, rfl, hgw, hbx, hai, hcl⟩ := hrel
      have AGW := aside hgw
      have ABX := aside hbx
      have ACL := aside hcl
      have hst := AS.out.keep (fun g _ hg => hbx.block g (Array.getElem?_eq_some_iff.1 hg).1)
      clear hgw hbx hcl
      by_cases hin : i < n
      · have hi : (i : Int) < (n : Int) := by omega
        have hi0 : (0 : Int) ≤ (i : Int) := by omega
        have hwi : IntKind.i64.wrap ((i : Int) + 1) = ((i + 1 : Nat) : Int) := by rw [wrap_small _ (by omega) (by omega)]; simp
        obtain ⟨x, hx⟩ : ∃ x, (prt p)[i]? = some x := ⟨_, List.getElem?_eq_getElem (by rw [← An.out]; exact hin)⟩
        obtain ⟨g, o, hgo, -, hcx⟩ := hst.get hx
        injection hgo with hgo
        injection hgo with e1 e2
        subst e1; subst e2
        have hdrop : (prt p).drop i = x :: (prt p).drop (i + 1) := by
          rw [List.drop_eq_getElem_cons (by rw [← An.out]; exact hin)]
          rw [List.getElem?_eq_getElem (by rw [← An.out]; exact hin)] at hx
          simp only [Option.some.injEq] at hx
          rw [hx]
        rw [hdrop] at ACL
        have hxl : (ba x).toList = x := by rw [Lib.toList_data, ba_list]
        have ACK := aside (fun W => check_any (ba x) W)
        obtain ⟨X, hX⟩ : ∃ X, X = ba x := ⟨_, rfl⟩
        have AX := aside hX
        rw [show enS x = .string X by rw [hX], Nat.zero_add] at hcx
        rw [← hX] at hxl ACK
        clear hX hst hx hdrop
        by_cases hdd : x = dd
        · have hq1 : (X.toList == [46, 46]) = true := by rw [hxl, hdd]; rfl
          obtain ⟨a, c, hv, hac, hgw⟩ := AGW.out.cut (acc.length - 1) (by omega)
          subst hv
          obtain ⟨k, hk⟩ : ∃ k, k = acc.length := ⟨_, rfl⟩
          have Ak := aside hk
          have hkn : k ≤ 5000 := by omega
          have hwm : IntKind.i64.wrap ((k : Int) - 1) = (k : Int) - 1 := by
            rcases Nat.eq_zero_or_pos k with e0 | e0
            · rw [e0]; decide
            · exact wrap_small _ (by omega) (by omega)
          have hmx : max ((k : Int) - 1) 0 = ((k - 1 : Nat) : Int) := by omega
          rw [← hk] at hgw hac
          have hsl := slice_hS a k c (k - 1) (by omega)
          obtain ⟨k1, hk1⟩ : ∃ k1, k1 = k - 1 := ⟨_, rfl⟩
          rw [← hk1] at hsl hmx hgw
          have Ak1 := aside hk1
          have AG2 := aside hgw
          rw [← hk]
          clear hxl hk hk1 hgw AGW
          go_wp2_with fail
          go_roundg (n - (i + 1))
          case measure => omega
          case rel =>
            refine ⟨rfl, rfl, i + 1, acc.take k1, by omega, by first | rfl | simp, AG2.out, ABX.out, ?_, ?_⟩
            · have := List.length_take_le' k1 acc
              omega
            · have h1 := ACL.out
              rw [hdd, cln_dd, List.dropLast_eq_take] at h1
              rw [Ak1.out, Ak.out]
              exact h1
        · have hq1 : (X.toList == [46, 46]) = false := by rw [hxl]; exact beq_eq_false_iff_ne.2 hdd
          by_cases hok : nameOk X = true
          · have AC2 := ACK
            simp only [hok, ↓reduceIte] at AC2
            have Aok := aside hok
            clear hxl hok ACK
            go_wp2_with fail
            refine (AC2.out _).mono ?_
            rintro e w3 ⟨rfl, hb3⟩
            have hg3 := AGW.out.below hb3
            have AB3 := aside (ABX.out.trans (hb3.mono ABX.out.size))
            obtain ⟨W, hW⟩ : ∃ W, W = w3.alloc (.cells #[.string X] 9) := ⟨_, rfl⟩
            have hBW : Below w3.heap.size w3 W := by rw [hW]; exact below_al _ _
            have hgW := aside (hg3.below hBW)
            have hcW : W.cell? ⟨w3.heap.size, 0, none⟩ = some (.string X) := by rw [hW, cell_of_row _ _ 0 _ _ _ (heap_alloc_new w3 _)]; rfl
            have ABW := aside (AB3.out.trans (hBW.mono AB3.out.size))
            have ACW : Aside (SrcAt W (.slice (some ⟨w3.heap.size, 0, none⟩) 1 1) 1 [enS x]) := ⟨_, _, rfl, fun _ => ⟨_, rfl, fun j u hj => by
              cases j with
              | zero =>
                simp only [List.getElem?_cons_zero, Option.some.injEq] at hj
                rw [← hj, Addr.add_lit]
                show W.cell? _ = some (.string (ba x))
                rw [← AX.out]
                exact hcW
              | succ j => simp at hj⟩⟩
            clear hb3 hg3 hBW hcW AC2
            go_wp2_with (at_builtin; rw [← hW]; refine wpList_append_any W rfl _ _ 55 rfl 9 (.string ByteArray.empty) 1 16 Tryz.underlying55 infoS rfl (by omega) _ acc.length (acc.map enS) rfl hgW.out.1 _ 1 [enS x] rfl rfl ACW.out (enS_one [x]) (by unfold maxLen; omega) (by omega) ?_; intro v4 w4 ho4 hu4 hv4; obtain ⟨h5, h6⟩ := hgW.out.more ABW.out.size ho4 hu4 hv4; have A5 := aside h5; have A6 := aside (ABW.out.trans h6); clear ho4 hu4 hv4 h5 h6)
            go_roundg (n - (i + 1))
            case measure => omega
            case rel =>
              refine ⟨rfl, rfl, i + 1, acc ++ [x], by omega, by first | rfl | simp, A5.out, A6.out, by simp; omega, ?_⟩
              have h1 := ACL.out
              rw [cln_ok _ _ hdd (by rw [← AX.out]; exact Aok.out)] at h1
              exact h1
          · have AC2 := ACK
            simp only [hok] at AC2
            have AE : Aside (V = .tuple #[.string ⟨#[]⟩, .int .i64 190]) := by
              have h1 := ACL.out
              rw [cln_no _ _ hdd (by rw [← AX.out]; exact hok)] at h1
              rw [AV.out]
              unfold clA
              rw [if_neg hl, ← h1]
              rfl
            clear hxl hok ACK
            go_wp2_with fail
            refine (AC2.out _).mono ?_
            rintro e w3 ⟨rfl, hb3⟩
            have AB3 := aside (A1.out.trans ((ABX.out.trans (hb3.mono ABX.out.size)).mono A1.out.size))
            clear hb3 AC2
            go_wp2_with fail
            go_ret2
            exact ⟨by rw [AE.out]; rfl, AB3.out⟩
      · have hi : ¬ (i : Int) < (n : Int) := by omega
        obtain rfl : i = n := by omega
        have hcl2 : cln (prt p) [] = some acc := by
          have h1 := ACL.out
          rw [An.out, List.drop_length] at h1
          exact h1.symm
        have AE : Aside (V = .tuple #[.string (ba (pth acc)), .int .i64 0]) := by
          rw [AV.out]
          unfold clA
          rw [if_neg hl, hcl2]
          rfl
        have AJ := aside (join_any acc _ wr AGW.out.st (by omega) (by have := cln_len hcl2; omega))
        obtain ⟨Z, hZ⟩ : ∃ Z, Z = ba (pth acc) := ⟨_, rfl⟩
        rw [← hZ] at AE AJ
        clear hst hZ
        go_wp2_with fail
        refine AJ.out.mono ?_
        rintro e w3 ⟨rfl, hb3⟩
        have AB3 := aside (A1.out.trans ((ABX.out.trans (hb3.mono ABX.out.size)).mono A1.out.size))
        clear hb3 AJ
        go_wp2_with fail
        go_ret2
        exact ⟨by rw [AE.out]; rfl, AB3.out⟩
end Go.Proofs.YtknjclekfmmfeabGreatDoor
