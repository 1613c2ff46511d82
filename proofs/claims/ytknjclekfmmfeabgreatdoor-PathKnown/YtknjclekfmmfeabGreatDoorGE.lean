/- The document's own nodes: names. The document's own nodes: kinds, places among the kids. The document's own nodes: Get, Dir, Link, File. The document's own nodes: the way up. The document's own nodes: Link; a node without kids has no height. -/
import Derived.Test.YtknjclekfmmfeabGreatDoorGD
import Derived.Test.YtknjclekfmmfeabGreatDoorGB
import Derived.Sort.Walk0
namespace Go.Proofs.YtknjclekfmmfeabGreatDoor
open Go.RowKit Go.ChangeMaps

theorem any_none {cs : B} : ∀ {l : B}, (∀ c ∈ l, c ∉ cs) → Lib.indexAny l cs = -1
  | [], _ => by simp [Lib.indexAny]
  | c :: l, h => by
    have ih := any_none (l := l) (fun d hd => h d (by simp [hd]))
    have hc : cs.contains c = false := by
      have := h c (by simp)
      simpa using this
    unfold Lib.indexAny
    rw [if_neg (by rw [hc]; decide), ih]
    rfl
theorem any_yes {cs l : B} (h : ∀ c ∈ l, c ∉ cs) : ¬ (0 ≤ Lib.indexAny l cs) := by rw [any_none h]; decide
theorem nameOk_iff {s : B} (h1 : s ≠ []) (h2 : s.length ≤ 64) (h3 : s ≠ [46]) (h4 : s ≠ [46, 46]) : (nameOk (ba s) = true ↔ ∀ c ∈ s, c ∉ ([0, 47] : B)) := by
  have hl : (ba s).toList = s := by rw [Lib.toList_data, ba_list]
  have e1 : (s == ([] : B)) = false := beq_eq_false_iff_ne.2 h1
  have e3 : (s == ([46] : B)) = false := beq_eq_false_iff_ne.2 h3
  have e4 : (s == ([46, 46] : B)) = false := beq_eq_false_iff_ne.2 h4
  unfold nameOk
  rw [hl, ba_list, ba_size, e1, e3, e4, decide_eq_true h2]
  simp only [Bool.not_false, Bool.true_and, Bool.not_eq_true', decide_eq_false_iff_not]
  exact ⟨fun h => any_no h, fun h => any_yes h⟩
set_option maxRecDepth 20000 in
set_option maxHeartbeats 2000000 in
theorem rName_any (s : B) (w : World) (hs : s.length ≤ 1000000000) : Calls Tryz.prog 55 #[.string (ba s)] w fun e w' => e = .returned (.bool (nameOk (ba s))) ∧ w' = w := by
  obtain ⟨S, hS⟩ : ∃ S, S = ba s := ⟨_, rfl⟩
  have hsz : S.size = s.length := by rw [hS, ba_size]
  have hSl : S.toList = s := by rw [hS, Lib.toList_data, ba_list]
  have AS := aside hS
  obtain ⟨n, hn⟩ : ∃ n, n = s.length := ⟨_, rfl⟩
  have AN := aside hn
  rw [← hn] at hsz
  obtain ⟨b, hb⟩ : ∃ b, b = nameOk (ba s) := ⟨_, rfl⟩
  have Ab := aside hb
  rw [← hb, ← hS]
  have hnl : n ≤ 1000000000 := by rw [hn]; exact hs
  have hno : s = [] ∨ 64 < s.length ∨ s = [46] ∨ s = [46, 46] → b = false := fun h => by
    rw [hb]
    refine nameNo ?_
    rw [← hS, hSl, hS, ba_size]
    exact h
  have Ano := aside hno
  have hok := fun h1 h2 h3 h4 => nameOk_iff (s := s) h1 h2 h3 h4
  rw [← hb] at hok
  have Aok := aside hok
  have ASl := aside hSl
  clear hS hn hb hno hok
  by_cases h0 : n = 0
  · subst h0
    have hbf : b = false := Ano.out (.inl (List.eq_nil_of_length_eq_zero AN.out.symm))
    go_enter Tryz.func55, Tryz.ntmps55
    go_wp2_with fail
    go_ret
    exact ⟨by first | rfl | (rw [hbf]; rfl), rfl⟩
  · have h0b : ((n : Int) == 0) = false := beq_eq_false_iff_ne.2 (by omega)
    by_cases h64 : 64 < n
    · have h64i : (64 : Int) < (n : Int) := by omega
      have hbf : b = false := Ano.out (.inr (.inl (by rw [← AN.out]; exact h64)))
      go_enter Tryz.func55, Tryz.ntmps55
      go_wp2_with fail
      go_ret
      exact ⟨by first | rfl | (rw [hbf]; rfl), rfl⟩
    · have h64i : ¬ (64 : Int) < (n : Int) := by omega
      by_cases h46 : s = [46]
      · have hbf : b = false := Ano.out (.inr (.inr (.inl h46)))
        have he : (S.toList == [46]) = true := by rw [hSl, h46]; rfl
        clear hSl
        go_enter Tryz.func55, Tryz.ntmps55
        go_wp2_with fail
        go_ret
        exact ⟨by first | rfl | (rw [hbf]; rfl), rfl⟩
      · have he : (S.toList == [46]) = false := by rw [hSl]; exact beq_eq_false_iff_ne.2 h46
        by_cases h462 : s = [46, 46]
        · have hbf : b = false := Ano.out (.inr (.inr (.inr h462)))
          have he2 : (S.toList == [46, 46]) = true := by rw [hSl, h462]; rfl
          clear hSl
          go_enter Tryz.func55, Tryz.ntmps55
          go_wp2_with fail
          go_ret
          exact ⟨by first | rfl | (rw [hbf]; rfl), rfl⟩
        · have he2 : (S.toList == [46, 46]) = false := by rw [hSl]; exact beq_eq_false_iff_ne.2 h462
          have Ai := aside (Aok.out (fun e => h0 (by rw [AN.out, e]; rfl)) (by have := AN.out; omega) h46 h462)
          clear hSl h46 h462
          go_enter Tryz.func55, Tryz.ntmps55
          go_wp2_with fail
          go_loopg [3] n (fun g s3 wx => ∃ i : Nat, i + g = n ∧ s3 = .int .i64 (i : Int) ∧ wx = w ∧ ∀ c ∈ s.take i, c ∉ ([0, 47] : B))
          case atStart => exact ⟨0, by omega, rfl, rfl, by simp⟩
          case round =>
            obtain ⟨i, hig, rfl, rfl, hall⟩ := hrel
            have Aall := aside hall
            clear hall
            cases gk with
            | zero =>
              obtain rfl : i = n := by omega
              have hi : ¬ (i : Int) < (i : Int) := by omega
              go_wp2_with fail
              go_ret
              have : b = true := Ai.out.2 (by have := Aall.out; rw [AN.out, List.take_length] at this; exact this)
              exact ⟨by rw [this]; rfl, rfl⟩
            | succ gk =>
              have hi : (i : Int) < (n : Int) := by omega
              have hi0 : (0 : Int) ≤ (i : Int) := by omega
              have hi1 : i < S.size := by omega
              have hi2 : (i : Int) < (S.size : Int) := by omega
              have hil : i < s.length := by have := AN.out; omega
              have hSi : S[i]'hi1 = s[i]'hil := by
                have := AS.out
                subst this
                rfl
              have hwi : IntKind.i64.wrap ((i : Int) + 1) = ((i + 1 : Nat) : Int) := by rw [wrap_small _ (by omega) (by omega)]; simp
              have hmem : s[i]'hil ∈ s := List.getElem_mem hil
              have hu : ∀ (c : UInt8) (k : Nat), k < 256 → (((c.toNat : Int) == (k : Int)) = true ↔ c = UInt8.ofNat k) := fun c k hk => by
                rw [beq_iff_eq]
                constructor
                · intro e
                  apply UInt8.toNat_inj.1
                  rw [UInt8.toNat_ofNat']
                  omega
                · rintro rfl
                  rw [UInt8.toNat_ofNat']
                  omega
              by_cases hz : s[i]'hil = 0
              · have hc : (((S[i]'hi1).toNat : Int) == 0) = true := by rw [hSi]; exact (hu _ 0 (by omega)).2 hz
                have hbf : b = false := by
                  cases hb : b with
                  | false => rfl
                  | true => exact absurd (show s[i]'hil ∈ ([0, 47] : B) by rw [hz]; simp) (Ai.out.1 hb _ hmem)
                clear hu hSi hz hmem
                go_wp2_with fail
                go_ret
                exact ⟨by first | rfl | (rw [hbf]; rfl), rfl⟩
              · have hc : (((S[i]'hi1).toNat : Int) == 0) = false := by rw [hSi, ← Bool.not_eq_true]; exact fun e => hz ((hu _ 0 (by omega)).1 e)
                by_cases hz2 : s[i]'hil = 47
                · have hc2 : (((S[i]'hi1).toNat : Int) == 47) = true := by rw [hSi]; exact (hu _ 47 (by omega)).2 hz2
                  have hbf : b = false := by
                    cases hb : b with
                    | false => rfl
                    | true => exact absurd (show s[i]'hil ∈ ([0, 47] : B) by rw [hz2]; simp) (Ai.out.1 hb _ hmem)
                  clear hu hSi hz hz2 hmem
                  go_wp2_with fail
                  go_ret
                  exact ⟨by first | rfl | (rw [hbf]; rfl), rfl⟩
                · have hc2 : (((S[i]'hi1).toNat : Int) == 47) = false := by rw [hSi, ← Bool.not_eq_true]; exact fun e => hz2 ((hu _ 47 (by omega)).1 e)
                  have Anx : Aside (∀ c ∈ s.take (i + 1), c ∉ ([0, 47] : B)) := fun c hc => by
                    rw [List.take_add_one, List.getElem?_eq_getElem hil] at hc
                    rcases List.mem_append.1 hc with hc | hc
                    · exact Aall.out c hc
                    · simp only [Option.toList_some, List.mem_singleton] at hc
                      rw [hc]
                      simp only [List.mem_cons, List.not_mem_nil, or_false, not_or]
                      exact ⟨hz, hz2⟩
                  clear hu hSi hz hz2 hmem
                  go_wp2_with fail
                  go_roundg gk
                  case measure => omega
                  case rel => exact ⟨i + 1, by omega, by first | rfl | simp, rfl, Anx.out⟩
end Go.Proofs.YtknjclekfmmfeabGreatDoor

namespace Go.Proofs.YtknjclekfmmfeabGreatDoor
open Go.RowKit Go.ChangeMaps

abbrev RK := B × Nat
def kcs (L : List RK) : List Value := L.flatMap fun p => [.string (ba p.1), Pt p.2]
theorem kcs_at : ∀ {L : List RK} {i : Nat} {p : RK}, L[i]? = some p → (kcs L)[i * 2]? = some (.string (ba p.1)) ∧ (kcs L)[i * 2 + 1]? = some (Pt p.2)
  | [], i, p, h => by simp at h
  | q :: L, 0, p, h => by
    simp only [List.getElem?_cons_zero, Option.some.injEq] at h
    subst h
    exact ⟨rfl, rfl⟩
  | q :: L, i + 1, p, h => by
    simp only [List.getElem?_cons_succ] at h
    have ih := kcs_at h
    have e : kcs (q :: L) = [.string (ba q.1), Pt q.2] ++ kcs L := rfl
    rw [e, show (i + 1) * 2 = i * 2 + 2 by omega, show i * 2 + 2 + 1 = (i * 2 + 1) + 2 by omega]
    exact ih
/-- A node of the document's, whatever its kind: its cells. -/
structure Rc (w : World) (nb : Nat) (k : Int) (f : Value) (to : ByteArray) (m : Value) (L : List RK) (up : Value) : Prop where
  cel : ∃ a c, w.heap[nb]? = some (.cells #[.int .i8 k, f, .string to, m, .slice a L.length c, up] 114 (0, 0)) ∧ L.length ≤ c ∧ (L ≠ [] → ∃ g o cs, a = some ⟨g, o, none⟩ ∧ w.heap[g]? = some (.cells cs 131 (0, 0)) ∧ ∀ (j : Nat) (v : Value), (kcs L)[j]? = some v → cs[o + j]? = some v)
theorem Rc.cells {w : World} {nb : Nat} {k : Int} {f : Value} {to : ByteArray} {m : Value} {L : List RK} {up : Value} (h : Rc w nb k f to m L up) : ∃ a c, w.heap[nb]? = some (.cells #[.int .i8 k, f, .string to, m, .slice a L.length c, up] 114 (0, 0)) ∧ L.length ≤ c ∧ (L ≠ [] → ∃ g o, a = some ⟨g, o, none⟩ ∧ ∀ j v, (kcs L)[j]? = some v → w.cell? ⟨g, o + j, none⟩ = some v) := by
  obtain ⟨a, c, h1, hlc, h2⟩ := h.cel
  refine ⟨a, c, h1, hlc, fun hL => ?_⟩
  obtain ⟨g, o, cs, e, h3, h4⟩ := h2 hL
  exact ⟨g, o, e, fun j v hj => by rw [cell_of_row w g _ _ _ _ h3]; exact h4 j v hj⟩
theorem Rc.keep {w w' : World} {nb : Nat} {k : Int} {f : Value} {to : ByteArray} {m : Value} {L : List RK} {up : Value} (h : Rc w nb k f to m L up) (h0 : w'.heap[nb]? = w.heap[nb]?) (hk : ∀ (g : Nat) (cs : Array Value), w.heap[g]? = some (Obj.cells cs 131 (0, 0)) → w'.heap[g]? = w.heap[g]?) : Rc w' nb k f to m L up := by
  obtain ⟨a, c, h1, hlc, h2⟩ := h.cel
  refine ⟨a, c, h0.trans h1, hlc, fun hL => ?_⟩
  obtain ⟨g, o, cs, e, h3, h4⟩ := h2 hL
  exact ⟨g, o, cs, e, (hk g cs h3).trans h3, h4⟩
theorem Rc.lt {w : World} {nb : Nat} {k : Int} {f : Value} {to : ByteArray} {m : Value} {L : List RK} {up : Value} (h : Rc w nb k f to m L up) : nb < w.heap.size := by
  obtain ⟨a, c, h1, -⟩ := h.cel
  exact (Array.getElem?_eq_some_iff.1 h1).1
theorem Rc.below {w w' : World} {nb : Nat} {k : Int} {f : Value} {to : ByteArray} {m : Value} {L : List RK} {up : Value} (h : Rc w nb k f to m L up) (b : Below w.heap.size w w') : Rc w' nb k f to m L up :=
  h.keep (b.block _ h.lt) (fun g _ hg => b.block g (Array.getElem?_eq_some_iff.1 hg).1)
/-- The place of a name among the kids, and whether it stands there. -/
def rpl : List RK → B → Nat
  | [], _ => 0
  | p :: L, s => if p.1 < s then rpl L s + 1 else 0
def rth (L : List RK) (s : B) : Bool := match L[rpl L s]? with | some p => decide (p.1 = s) | none => false
theorem rpl_le (s : B) : ∀ L : List RK, rpl L s ≤ L.length
  | [] => Nat.le_refl _
  | p :: L => by
    have := rpl_le s L
    unfold rpl
    split
    · simp only [List.length_cons]; omega
    · exact Nat.zero_le _
theorem rpl_lt {s : B} : ∀ {L : List RK} {i : Nat} {p : RK}, L[i]? = some p → i < rpl L s → p.1 < s
  | [], i, p, h, _ => by simp at h
  | q :: L, i, p, h, hi => by
    unfold rpl at hi
    split at hi
    · next hq =>
      cases i with
      | zero =>
        simp only [List.getElem?_cons_zero, Option.some.injEq] at h
        exact h ▸ hq
      | succ i =>
        simp only [List.getElem?_cons_succ] at h
        exact rpl_lt h (by omega)
    · omega
theorem rpl_ge {s : B} : ∀ {L : List RK} {p : RK}, L[rpl L s]? = some p → ¬ p.1 < s
  | [], p, h => by simp at h
  | q :: L, p, h => by
    unfold rpl at h
    split at h
    · simp only [List.getElem?_cons_succ] at h
      exact rpl_ge h
    · next hq =>
      simp only [List.getElem?_cons_zero, Option.some.injEq] at h
      exact h ▸ hq
set_option maxRecDepth 20000 in
set_option maxHeartbeats 2000000 in
theorem rat_any {w : World} {nb : Nat} {k : Int} {f : Value} {to : ByteArray} {m : Value} {L : List RK} {up : Value} (h : Rc w nb k f to m L up) (s : B) (hL : L.length ≤ 1000000) :
    Calls Tryz.prog 56 #[Pt nb, .string (ba s)] w fun e w' => e = .returned (.tuple #[.int .i64 (rpl L s : Int), .bool (rth L s)]) ∧ Below w.heap.size w w' := by
  have AH := aside h
  obtain ⟨a, c, h1, -, h2⟩ := h.cells
  have hc4 : w.cell? ⟨nb, 4, none⟩ = some (.slice a L.length c) := by rw [cell_of_row w nb 4 _ _ _ h1]; rfl
  obtain ⟨n, hn⟩ : ∃ n, n = L.length := ⟨_, rfl⟩
  have AN := aside hn
  rw [← hn] at hc4
  have hnl : n ≤ 1000000 := by rw [hn]; exact hL
  have A2 := aside h2
  obtain ⟨Z, hZ⟩ : ∃ Z, Z = ba s := ⟨_, rfl⟩
  have AZ := aside hZ
  rw [← hZ]
  obtain ⟨q, hq⟩ : ∃ q, q = rpl L s := ⟨_, rfl⟩
  have hqn : q ≤ n := by rw [hq, hn]; exact rpl_le s L
  have Aq := aside hq
  obtain ⟨b, hb⟩ : ∃ b, b = rth L s := ⟨_, rfl⟩
  have Ab := aside hb
  rw [← hq, ← hb]
  clear h h1 h2 hn hZ hq hL hb
  go_enter Tryz.func56, Tryz.ntmps56
  go_wp2_with fail
  go_loopg [6] q (fun g s6 wx => ∃ i : Nat, i + g = q ∧ s6 = .int .i64 (i : Int) ∧ wx = w)
  case atStart => exact ⟨0, by omega, rfl, rfl⟩
  case round =>
    obtain ⟨i, hig, rfl, rfl⟩ := hrel
    have hwi : IntKind.i64.wrap ((i : Int) + 1) = ((i + 1 : Nat) : Int) := by rw [wrap_small _ (by omega) (by omega)]; simp
    have hi0 : (0 : Int) ≤ (i : Int) := by omega
    cases gk with
    | succ gk =>
      have hi : (i : Int) < (n : Int) := by omega
      obtain ⟨p, hp⟩ : ∃ p, L[i]? = some p := ⟨_, List.getElem?_eq_getElem (by rw [← AN.out]; omega)⟩
      obtain ⟨g, o, rfl, h3⟩ := A2.out (fun e => by rw [e] at hp; simp at hp)
      have e0 := h3 _ _ (kcs_at hp).1
      have hlt : Op.bytesLess (ba p.1).toList Z.toList = true := by
        rw [bytesLess_eq, Lib.toList_data, Lib.toList_data, ba_list, AZ.out, ba_list]
        exact decide_eq_true (rpl_lt hp (by rw [← Aq.out]; omega))
      obtain ⟨P, hP⟩ : ∃ P, P = ba p.1 := ⟨_, rfl⟩
      rw [← hP] at e0 hlt
      clear hP hp h3
      go_wp2_with fail
      go_roundg gk
      case measure => omega
      case rel => exact ⟨i + 1, by omega, by first | rfl | simp, rfl⟩
    | zero =>
      obtain rfl : i = q := by omega
      by_cases hin : i = n
      · subst hin
        have hi : ¬ (i : Int) < (i : Int) := by omega
        have E4 := fun dd os => ext_cell hc4 dd os
        have hrt : rth L s = false := by
          unfold rth
          rw [List.getElem?_eq_none (by rw [← Aq.out, AN.out]; exact Nat.le_refl _)]
        have Abf := aside (Ab.out.trans hrt)
        clear hrt
        go_wp2_with fail
        refine region_ext (by kernel_rfl) (by kernel_rfl) ?_
        repeat (any_goals (first | go_big_quiet_step (fail) | quiet_step (fail)))
        refine wpQuiet_nil ?_
        intro w7 hw7
        have AB := aside hw7
        clear hw7 E4
        go_wp2_with fail
        go_ret2
        exact ⟨by rw [Abf.out]; rfl, AB.out⟩
      · have hi : (i : Int) < (n : Int) := by omega
        obtain ⟨p, hp⟩ : ∃ p, L[i]? = some p := ⟨_, List.getElem?_eq_getElem (by rw [← AN.out]; omega)⟩
        obtain ⟨g, o, rfl, h3⟩ := A2.out (fun e => by rw [e] at hp; simp at hp)
        have e0 := h3 _ _ (kcs_at hp).1
        have hlt : Op.bytesLess (ba p.1).toList Z.toList = false := by
          rw [bytesLess_eq, Lib.toList_data, Lib.toList_data, ba_list, AZ.out, ba_list]
          exact decide_eq_false (rpl_ge (by rw [← Aq.out]; exact hp))
        have hrt : rth L s = ((ba p.1).toList == Z.toList) := by
          unfold rth
          rw [← Aq.out, hp, Lib.toList_data, Lib.toList_data, ba_list, AZ.out, ba_list]
          show decide (p.1 = s) = (p.1 == s)
          rw [Bool.eq_iff_iff, decide_eq_true_iff, beq_iff_eq]
        have Abf := aside (Ab.out.trans hrt)
        have E4 := fun dd os => ext_cell hc4 dd os
        have E0 := fun dd os => ext_cell e0 dd os
        obtain ⟨P, hP⟩ : ∃ P, P = ba p.1 := ⟨_, rfl⟩
        rw [← hP] at e0 hlt E0 Abf
        clear hP hp h3 hrt
        go_wp2_with fail
        refine region_ext (by kernel_rfl) (by kernel_rfl) ?_
        repeat (any_goals (first | go_big_quiet_step (fail) | quiet_step (fail)))
        refine wpQuiet_nil ?_
        intro w7 hw7
        have AB := aside hw7
        clear hw7 E4 E0
        go_wp2_with fail
        go_ret2
        exact ⟨by rw [Abf.out]; rfl, AB.out⟩
end Go.Proofs.YtknjclekfmmfeabGreatDoor

namespace Go.Proofs.YtknjclekfmmfeabGreatDoor
open Go.RowKit Go.ChangeMaps

theorem rth_some {L : List RK} {s : B} (h : rth L s = true) : ∃ p, L[rpl L s]? = some p ∧ p.1 = s := by
  unfold rth at h
  cases hp : L[rpl L s]? with
  | none => rw [hp] at h; cases h
  | some p => rw [hp] at h; exact ⟨p, rfl, of_decide_eq_true h⟩
set_option maxRecDepth 20000 in
theorem rDir_any (w : World) : Calls Tryz.prog 26 #[] w fun e w' => e = .returned (Pt w.heap.size) ∧ Rc w' w.heap.size 1 (.pointer none) ⟨#[]⟩ (.pointer none) [] (.pointer none) ∧ Below w.heap.size w w' := by
  go_enter Tryz.func26, Tryz.ntmps26
  go_wp2_with fail
  go_ret
  exact ⟨rfl, ⟨none, 0, heap_alloc_new w _, Nat.le_refl _, fun h => absurd rfl h⟩, below_al w _⟩
set_option maxRecDepth 20000 in
theorem rFile_any (w : World) (fb : Nat) : Calls Tryz.prog 49 #[Pt fb] w fun e w' => e = .returned (Pt w.heap.size) ∧ Rc w' w.heap.size 0 (Pt fb) ⟨#[]⟩ (.pointer none) [] (.pointer none) ∧ Below w.heap.size w w' := by
  go_enter Tryz.func49, Tryz.ntmps49
  go_wp2_with fail
  go_ret
  exact ⟨rfl, ⟨none, 0, heap_alloc_new w _, Nat.le_refl _, fun h => absurd rfl h⟩, below_al w _⟩
end Go.Proofs.YtknjclekfmmfeabGreatDoor

namespace Go.Proofs.YtknjclekfmmfeabGreatDoor
open Go.RowKit Go.ChangeMaps

/-- The document's nodes from v up. -/
def RUp (w : World) : Value → List Nat → Prop
  | v, [] => v = .pointer none
  | v, d :: l => v = Pt d ∧ ∃ a b c e f u, w.heap[d]? = some (.cells #[a, b, c, e, f, u] 114 (0, 0)) ∧ RUp w u l
theorem RUp.below {w w' : World} : ∀ {l : List Nat} {v : Value}, RUp w v l → Below w.heap.size w w' → RUp w' v l
  | [], _, h, _ => h
  | _ :: _, _, ⟨e, a, b, c, g, f, u, h1, h2⟩, hb => ⟨e, a, b, c, g, f, u, (hb.block _ (Array.getElem?_eq_some_iff.1 h1).1).trans h1, RUp.below h2 hb⟩
theorem eq_rnode {w : World} {a b : Nat} {ca cb : Array Value} {ta tb : TypeId} (ha : w.heap[a]? = some (.cells ca ta (0, 0))) (hb : w.heap[b]? = some (.cells cb tb (0, 0))) : (binOp .eql 61 (Pt a) (Pt b)).run Tryz.prog w = .ok (.bool (decide (a = b))) w := by
  by_cases h : a = b
  · subst h
    rw [decide_eq_true rfl]
    exact run_eql_ptr_same w ⟨a, 0, none⟩ Tryz.underlying61 (Option.eq_some_of_isSome (o := Tryz.prog.info? 114) (by kernel_rfl))
  · rw [decide_eq_false h]
    obtain ⟨i, hi, hs⟩ := Option.map_eq_some_iff.1 (show (Tryz.prog.info? 114).map (fun i => decide (i.size = 0)) = some false by kernel_rfl)
    exact run_eql_ptr_other w Tryz.underlying61 hi (of_decide_eq_false hs) (fun e => h (congrArg Addr.block e)) ha hb
set_option maxRecDepth 20000 in
set_option maxHeartbeats 1000000 in
theorem rdepth_any (d : Nat) (l : List Nat) (w : World) (h : RUp w (Pt d) (d :: l)) (hl : l.length ≤ 1000000) : Calls Tryz.prog 58 #[Pt d] w fun e w' => e = .returned (.int .i64 (l.length : Int)) ∧ w' = w := by
  obtain ⟨-, a, b, c, e, f, u, hd, hu⟩ := h
  have hc : w.cell? ⟨d, 5, none⟩ = some u := by rw [cell_of_row w d 5 _ _ _ hd]; rfl
  clear hd
  have HU := aside hu
  clear hu
  go_enter Tryz.func58, Tryz.ntmps58
  go_wp2_with fail
  go_loopg [3, 4] l.length (fun g s3 s4 wx => ∃ (l' : List Nat) (k : Nat), l'.length = g ∧ k + g = l.length ∧ s3 = .int .i64 (k : Int) ∧ RUp w s4 l' ∧ wx = w)
  case atStart => exact ⟨l, 0, rfl, by omega, rfl, HU.out, rfl⟩
  case round =>
    obtain ⟨l', k, hg, hk, rfl, hu, rfl⟩ := hrel
    cases l' with
    | nil =>
      obtain rfl : _ = Value.pointer none := hu
      simp at hg
      subst hg
      obtain rfl : k = l.length := by omega
      go_wp2_with fail
      go_ret
      exact ⟨rfl, rfl⟩
    | cons d2 l2 =>
      obtain ⟨rfl, a2, b2, c2, e2, f2, u2, hd2, hu2⟩ := hu
      have hc2 : wr.cell? ⟨d2, 5, none⟩ = some u2 := by rw [cell_of_row wr d2 5 _ _ _ hd2]; rfl
      clear hd2
      have HU2 := aside hu2
      simp at hg
      have hw : IntKind.i64.wrap ((k : Int) + 1) = ((k + 1 : Nat) : Int) := by rw [wrap_small _ (by omega) (by omega)]; simp
      clear hu2
      go_wp2_with fail
      go_roundg l2.length
      case measure => omega
      case rel => exact ⟨l2, k + 1, rfl, by omega, by first | rfl | simp, HU2.out, rfl⟩
set_option maxRecDepth 20000 in
set_option maxHeartbeats 1000000 in
theorem rbelow_any (v : Value) (l : List Nat) (top : Nat) (w : World) {ct : Array Value} {tt : TypeId} (ht : w.heap[top]? = some (.cells ct tt (0, 0))) (h : RUp w v l) : Calls Tryz.prog 57 #[v, Pt top] w fun e w' => e = .returned (.bool (decide (top ∈ l))) ∧ w' = w := by
  have HU := aside h
  clear h
  go_enter Tryz.func57, Tryz.ntmps57
  go_wp2_with fail
  go_loopg [5] l.length (fun g s5 wx => ∃ l', l'.length = g ∧ RUp w s5 l' ∧ wx = w ∧ (top ∈ l ↔ top ∈ l'))
  case atStart => exact ⟨l, rfl, HU.out, rfl, Iff.rfl⟩
  case round =>
    obtain ⟨l', hl, hu, rfl, hm⟩ := hrel
    cases l' with
    | nil =>
      obtain rfl : _ = Value.pointer none := hu
      go_wp2_with fail
      go_ret
      exact ⟨by rw [decide_eq_false (by rw [hm]; simp)]; rfl, rfl⟩
    | cons d l2 =>
      obtain ⟨rfl, a, b, c, e, f, u, hd, hu2⟩ := hu
      have hc : wr.cell? ⟨d, 5, none⟩ = some u := by rw [cell_of_row wr d 5 _ _ _ hd]; rfl
      have heq := eq_rnode hd ht
      have HU2 := aside hu2
      have HM := aside hm
      clear hu2 hm hd
      by_cases hd : d = top
      · subst hd
        rw [decide_eq_true rfl] at heq
        go_wp2_with fail
        go_ret
        exact ⟨by rw [decide_eq_true (by rw [HM.out]; simp)]; rfl, rfl⟩
      · rw [decide_eq_false hd] at heq
        go_wp2_with fail
        go_roundg l2.length
        case measure => simp at hl; omega
        case rel => exact ⟨l2, rfl, HU2.out, rfl, by rw [HM.out, List.mem_cons]; exact ⟨fun h => h.resolve_left (fun e => hd e.symm), .inr⟩⟩
end Go.Proofs.YtknjclekfmmfeabGreatDoor

namespace Go.Proofs.YtknjclekfmmfeabGreatDoor
open Go.RowKit Go.ChangeMaps

set_option maxRecDepth 20000 in
theorem rLink_any (w : World) (s : ByteArray) (h0 : s.toList ≠ []) (h1 : s.size ≤ 4096) : Calls Tryz.prog 50 #[.string s] w fun e w' => e = .returned (.tuple #[Pt w.heap.size, .int .i64 0]) ∧ Rc w' w.heap.size 2 (.pointer none) s (.pointer none) [] (.pointer none) ∧ Below w.heap.size w w' := by
  have e1 : (s.toList == ([] : List UInt8)) = false := beq_eq_false_iff_ne.2 h0
  have e2 : s.toList.isEmpty = false := by cases e : s.toList with | nil => exact absurd e h0 | cons _ _ => rfl
  have e3 : ¬ (4096 : Int) < (s.size : Int) := by omega
  clear h0 h1
  go_enter Tryz.func50, Tryz.ntmps50
  go_wp2_with fail
  go_ret2
  exact ⟨rfl, ⟨none, 0, heap_alloc_new w _, Nat.le_refl _, fun h => absurd rfl h⟩, below_al w _⟩
set_option maxRecDepth 20000 in
set_option maxHeartbeats 1000000 in
theorem rheight_none {w : World} {nb : Nat} {k : Int} {f : Value} {to : ByteArray} {m : Value} {up : Value} (h : Rc w nb k f to m [] up) : Calls Tryz.prog 59 #[Pt nb] w fun e w' => e = .returned (.int .i64 0) ∧ w' = w := by
  obtain ⟨a, c, h1, -⟩ := h.cells
  have hc : w.cell? ⟨nb, 4, none⟩ = some (.slice a 0 c) := by rw [cell_of_row w nb 4 _ _ _ h1]; rfl
  clear h h1
  go_enter Tryz.func59, Tryz.ntmps59
  go_wp2_with fail
  go_loopg [3, 4, 5] 0 (fun g s3 s4 _ wx => g = 0 ∧ s3 = .int .i64 0 ∧ s4 = .int .i64 0 ∧ wx = w)
  case atStart => exact ⟨rfl, rfl, rfl, rfl⟩
  case round =>
    obtain ⟨-, rfl, rfl, rfl⟩ := hrel
    go_wp2_with fail
    go_ret
    exact ⟨rfl, rfl⟩
end Go.Proofs.YtknjclekfmmfeabGreatDoor
