/- The document's own nodes: names. -/
import Derived.Test.YtknjclekfmmfeaaDoorPmb
namespace Go.Proofs.YtknjclekfmmfeaaDoor
open Go.RowKit Go.ChangeMaps

theorem any_none {cs : B} : ∀ {l : B}, (∀ c ∈ l, c ∉ cs) → Lib.indexAny l cs = -1
  | [], _ => by simp [Lib.indexAny]
  | c :: l, h => by
    have ih := any_none (l := l) (fun d hd => h d (by simp [hd]))
    have hc : cs.contains c = false := by
      have := h c (by simp)
      simpa using this
    unfold Lib.indexAny
    rw [if_neg (by rw [hc]; decide), ih]
    rfl
theorem any_yes {cs l : B} (h : ∀ c ∈ l, c ∉ cs) : ¬ (0 ≤ Lib.indexAny l cs) := by rw [any_none h]; decide
theorem nameOk_iff {s : B} (h1 : s ≠ []) (h2 : s.length ≤ 64) (h3 : s ≠ [46]) (h4 : s ≠ [46, 46]) : (nameOk (ba s) = true ↔ ∀ c ∈ s, c ∉ ([0, 47] : B)) := by
  have hl : (ba s).toList = s := by rw [Lib.toList_data, ba_list]
  have e1 : (s == ([] : B)) = false := beq_eq_false_iff_ne.2 h1
  have e3 : (s == ([46] : B)) = false := beq_eq_false_iff_ne.2 h3
  have e4 : (s == ([46, 46] : B)) = false := beq_eq_false_iff_ne.2 h4
  unfold nameOk
  rw [hl, ba_list, ba_size, e1, e3, e4, decide_eq_true h2]
  simp only [Bool.not_false, Bool.true_and, Bool.not_eq_true', decide_eq_false_iff_not]
  exact ⟨fun h => any_no h, fun h => any_yes h⟩
set_option maxRecDepth 20000 in
set_option maxHeartbeats 2000000 in
theorem rName_any (s : B) (w : World) (hs : s.length ≤ 1000000000) : Calls Tryd.prog 21 #[.string (ba s)] w fun e w' => e = .returned (.bool (nameOk (ba s))) ∧ w' = w := by
  obtain ⟨S, hS⟩ : ∃ S, S = ba s := ⟨_, rfl⟩
  have hsz : S.size = s.length := by rw [hS, ba_size]
  have hSl : S.toList = s := by rw [hS, Lib.toList_data, ba_list]
  have AS := aside hS
  obtain ⟨n, hn⟩ : ∃ n, n = s.length := ⟨_, rfl⟩
  have AN := aside hn
  rw [← hn] at hsz
  obtain ⟨b, hb⟩ : ∃ b, b = nameOk (ba s) := ⟨_, rfl⟩
  have Ab := aside hb
  rw [← hb, ← hS]
  have hnl : n ≤ 1000000000 := by rw [hn]; exact hs
  have hno : s = [] ∨ 64 < s.length ∨ s = [46] ∨ s = [46, 46] → b = false := fun h => by
    rw [hb]
    refine nameNo ?_
    rw [← hS, hSl, hS, ba_size]
    exact h
  have Ano := aside hno
  have hok := fun h1 h2 h3 h4 => nameOk_iff (s := s) h1 h2 h3 h4
  rw [← hb] at hok
  have Aok := aside hok
  have ASl := aside hSl
  clear hS hn hb hno hok
  by_cases h0 : n = 0
  · subst h0
    have hbf : b = false := Ano.out (.inl (List.eq_nil_of_length_eq_zero AN.out.symm))
    go_enter Tryd.func21, Tryd.ntmps21
    go_wp2_with fail
    go_ret
    exact ⟨by first | rfl | (rw [hbf]; rfl), rfl⟩
  · have h0b : ((n : Int) == 0) = false := beq_eq_false_iff_ne.2 (by omega)
    by_cases h64 : 64 < n
    · have h64i : (64 : Int) < (n : Int) := by omega
      have hbf : b = false := Ano.out (.inr (.inl (by rw [← AN.out]; exact h64)))
      go_enter Tryd.func21, Tryd.ntmps21
      go_wp2_with fail
      go_ret
      exact ⟨by first | rfl | (rw [hbf]; rfl), rfl⟩
    · have h64i : ¬ (64 : Int) < (n : Int) := by omega
      by_cases h46 : s = [46]
      · have hbf : b = false := Ano.out (.inr (.inr (.inl h46)))
        have he : (S.toList == [46]) = true := by rw [hSl, h46]; rfl
        clear hSl
        go_enter Tryd.func21, Tryd.ntmps21
        go_wp2_with fail
        go_ret
        exact ⟨by first | rfl | (rw [hbf]; rfl), rfl⟩
      · have he : (S.toList == [46]) = false := by rw [hSl]; exact beq_eq_false_iff_ne.2 h46
        by_cases h462 : s = [46, 46]
        · have hbf : b = false := Ano.out (.inr (.inr (.inr h462)))
          have he2 : (S.toList == [46, 46]) = true := by rw [hSl, h462]; rfl
          clear hSl
          go_enter Tryd.func21, Tryd.ntmps21
          go_wp2_with fail
          go_ret
          exact ⟨by first | rfl | (rw [hbf]; rfl), rfl⟩
        · have he2 : (S.toList == [46, 46]) = false := by rw [hSl]; exact beq_eq_false_iff_ne.2 h462
          have Ai := aside (Aok.out (fun e => h0 (by rw [AN.out, e]; rfl)) (by have := AN.out; omega) h46 h462)
          clear hSl h46 h462
          go_enter Tryd.func21, Tryd.ntmps21
          go_wp2_with fail
          go_loopg [3] n (fun g s3 wx => ∃ i : Nat, i + g = n ∧ s3 = .int .i64 (i : Int) ∧ wx = w ∧ ∀ c ∈ s.take i, c ∉ ([0, 47] : B))
          case atStart => exact ⟨0, by omega, rfl, rfl, by simp⟩
          case round =>
            obtain ⟨i, hig, rfl, rfl, hall⟩ := hrel
            have Aall := aside hall
            clear hall
            cases gk with
            | zero =>
              obtain rfl : i = n := by omega
              have hi : ¬ (i : Int) < (i : Int) := by omega
              go_wp2_with fail
              go_ret
              have : b = true := Ai.out.2 (by have := Aall.out; rw [AN.out, List.take_length] at this; exact this)
              exact ⟨by rw [this]; rfl, rfl⟩
            | succ gk =>
              have hi : (i : Int) < (n : Int) := by omega
              have hi0 : (0 : Int) ≤ (i : Int) := by omega
              have hi1 : i < S.size := by omega
              have hi2 : (i : Int) < (S.size : Int) := by omega
              have hil : i < s.length := by have := AN.out; omega
              have hSi : S[i]'hi1 = s[i]'hil := by
                have := AS.out
                subst this
                rfl
              have hwi : IntKind.i64.wrap ((i : Int) + 1) = ((i + 1 : Nat) : Int) := by rw [wrap_small _ (by omega) (by omega)]; simp
              have hmem : s[i]'hil ∈ s := List.getElem_mem hil
              have hu : ∀ (c : UInt8) (k : Nat), k < 256 → (((c.toNat : Int) == (k : Int)) = true ↔ c = UInt8.ofNat k) := fun c k hk => by
                rw [beq_iff_eq]
                constructor
                · intro e
                  apply UInt8.toNat_inj.1
                  rw [UInt8.toNat_ofNat']
                  omega
                · rintro rfl
                  rw [UInt8.toNat_ofNat']
                  omega
              by_cases hz : s[i]'hil = 0
              · have hc : (((S[i]'hi1).toNat : Int) == 0) = true := by rw [hSi]; exact (hu _ 0 (by omega)).2 hz
                have hbf : b = false := by
                  cases hb : b with
                  | false => rfl
                  | true => exact absurd (show s[i]'hil ∈ ([0, 47] : B) by rw [hz]; simp) (Ai.out.1 hb _ hmem)
                clear hu hSi hz hmem
                go_wp2_with fail
                go_ret
                exact ⟨by first | rfl | (rw [hbf]; rfl), rfl⟩
              · have hc : (((S[i]'hi1).toNat : Int) == 0) = false := by rw [hSi, ← Bool.not_eq_true]; exact fun e => hz ((hu _ 0 (by omega)).1 e)
                by_cases hz2 : s[i]'hil = 47
                · have hc2 : (((S[i]'hi1).toNat : Int) == 47) = true := by rw [hSi]; exact (hu _ 47 (by omega)).2 hz2
                  have hbf : b = false := by
                    cases hb : b with
                    | false => rfl
                    | true => exact absurd (show s[i]'hil ∈ ([0, 47] : B) by rw [hz2]; simp) (Ai.out.1 hb _ hmem)
                  clear hu hSi hz hz2 hmem
                  go_wp2_with fail
                  go_ret
                  exact ⟨by first | rfl | (rw [hbf]; rfl), rfl⟩
                · have hc2 : (((S[i]'hi1).toNat : Int) == 47) = false := by rw [hSi, ← Bool.not_eq_true]; exact fun e => hz2 ((hu _ 47 (by omega)).1 e)
                  have Anx : Aside (∀ c ∈ s.take (i + 1), c ∉ ([0, 47] : B)) := fun c hc => by
                    rw [List.take_add_one, List.getElem?_eq_getElem hil] at hc
                    rcases List.mem_append.1 hc with hc | hc
                    · exact Aall.out c hc
                    · simp only [Option.toList_some, List.mem_singleton] at hc
                      rw [hc]
                      simp only [List.mem_cons, List.not_mem_nil, or_false, not_or]
                      exact ⟨hz, hz2⟩
                  clear hu hSi hz hz2 hmem
                  go_wp2_with fail
                  go_roundg gk
                  case measure => omega
                  case rel => exact ⟨i + 1, by omega, by first | rfl | simp, rfl, Anx.out⟩
end Go.Proofs.YtknjclekfmmfeaaDoor
