/- The document's Joined, Clean. -/
import Derived.Test.YtknjclekfmmfeaaGreatDoorQPrp
namespace Go.Proofs.YtknjclekfmmfeaaGreatDoor
open Go.RowKit Go.ChangeMaps

theorem ahd_pth {p : List B} (h : p ≠ []) : ahd p = pth p ++ [47] := by
  obtain ⟨q, n, rfl⟩ : ∃ q n, p = q ++ [n] := ⟨p.dropLast, p.getLast h, (List.dropLast_concat_getLast h).symm⟩
  rw [pth_snoc, ahd_snoc]
theorem pth_more {l : List B} {i : Nat} {x : B} (hx : l[i]? = some x) : pth (l.take (i + 1)) = (if i = 0 then [] else pth (l.take i) ++ [47]) ++ x := by
  rw [List.take_add_one, hx]
  simp only [Option.toList_some]
  rw [pth_snoc]
  by_cases h0 : i = 0
  · subst h0; simp [ahd]
  · rw [if_neg h0, ahd_pth]
    have := (List.getElem?_eq_some_iff.1 hx).1
    intro e
    have := congrArg List.length e
    rw [List.length_take, List.length_nil] at this
    omega
theorem pth_le {l : List B} (i : Nat) : (pth (l.take i)).length ≤ wid l := by
  rw [pth_wid]
  have h := wid_app (l.take i) (l.drop i)
  rw [List.take_append_drop] at h
  omega
set_option maxRecDepth 20000 in
set_option maxHeartbeats 4000000 in
theorem rJoined_any (l : List B) (v : Value) (w : World) (h : StAt w v l) (hl : l.length ≤ 1000000) (hw : wid l ≤ 1000000000) : Calls Tryz.prog 41 #[v] w fun e w' => e = .returned (.string (ba (pth l))) ∧ w' = w := by
  obtain ⟨a, c, rfl, hc, hst⟩ := id h
  have AH := aside h
  obtain ⟨n, hn⟩ : ∃ n, n = l.length := ⟨_, rfl⟩
  have AN := aside hn
  obtain ⟨Z, hZ⟩ : ∃ Z, Z = ba (pth l) := ⟨_, rfl⟩
  have AZ := aside hZ
  rw [← hn, ← hZ]
  rw [← hn] at hl
  clear hZ hst hn h hc
  go_enter Tryz.func41, Tryz.ntmps41
  go_wp2_with fail
  go_loopg [3, 4] n (fun g s3 s4 wx => ∃ i : Nat, i + g = n ∧ s4 = .int .i64 (i : Int) ∧ s3 = .string (ba (pth (l.take i))) ∧ wx = w)
  case atStart => exact ⟨0, by omega, rfl, rfl, rfl⟩
  case round =>
    obtain ⟨i, hig, rfl, rfl, rfl⟩ := hrel
    cases gk with
    | zero =>
      obtain rfl : i = n := by omega
      have hi : ¬ (i : Int) < (i : Int) := by omega
      have hz : ba (pth (l.take i)) = Z := by rw [AZ.out, AN.out, List.take_length]
      rw [hz]
      clear hz
      go_wp2_with fail
      go_ret
      exact ⟨rfl, rfl⟩
    | succ gk =>
      have hi : (i : Int) < (n : Int) := by omega
      have hi0 : (0 : Int) ≤ (i : Int) := by omega
      have hwi : IntKind.i64.wrap ((i : Int) + 1) = ((i + 1 : Nat) : Int) := by rw [wrap_small _ (by omega) (by omega)]; simp
      obtain ⟨x, hx⟩ : ∃ x, l[i]? = some x := ⟨_, List.getElem?_eq_getElem (by rw [← AN.out]; omega)⟩
      obtain ⟨g, o, rfl, -, hcx⟩ := AH.out.get hx
      have hm := pth_more hx
      have hle := pth_le (l := l) (i + 1)
      have hle0 := pth_le (l := l) i
      have hmb := congrArg ba hm
      have hml := congrArg List.length hm
      obtain ⟨X, hX⟩ : ∃ X, X = ba x := ⟨_, rfl⟩
      have hXs : X.size = x.length := by rw [hX, ba_size]
      rw [show enS x = .string X by rw [hX]] at hcx
      obtain ⟨Y, hY⟩ : ∃ Y, Y = ba (pth (l.take i)) := ⟨_, rfl⟩
      have hYs : Y.size = (pth (l.take i)).length := by rw [hY, ba_size]
      rw [← hY]
      by_cases h0 : i = 0
      · subst h0
        rw [Nat.add_zero] at hcx
        have hAE : Y ++ X = ba (pth (l.take (0 + 1))) := by
          rw [hmb, if_pos rfl, hX, hY, ba_append]
          rfl
        have AE := aside hAE
        have hsz : Y.size + X.size ≤ 1000000000 := by
          rw [if_pos rfl, List.nil_append] at hml
          have : (pth (l.take 0)).length = 0 := rfl
          omega
        clear hm hmb hml hX hY hx hle hle0 hXs hYs hAE
        go_wp2_with fail
        go_roundg gk
        case measure => omega
        case rel => exact ⟨0 + 1, by omega, by first | rfl | simp, by rw [← AE.out], rfl⟩
      · have hi1 : (0 : Int) < (i : Int) := by omega
        have hAE : (Y ++ ⟨#[47]⟩) ++ X = ba (pth (l.take (i + 1))) := by
          rw [hmb, if_neg h0, hX, hY]
          rw [show (⟨#[47]⟩ : ByteArray) = ba [47] from rfl, ba_append, ba_append]
        have AE := aside hAE
        have hsz : Y.size + X.size ≤ 1000000000 := by
          rw [if_neg h0] at hml
          simp at hml
          omega
        clear hm hmb hml hX hY hx hle hle0 hXs hYs hAE
        go_wp2_with fail
        go_roundg gk
        case measure => omega
        case rel => exact ⟨i + 1, by omega, by first | rfl | simp, by rw [← AE.out], rfl⟩
theorem cln_bad : ∀ {l a : List B} {x : B}, x ∈ l → x ≠ dd → ¬ nameOk (ba x) = true → cln l a = none
  | [], a, x, h, _, _ => by simp at h
  | y :: l, a, x, h, hd, hn => by
    rcases List.mem_cons.1 h with rfl | h2
    · exact cln_no l a hd hn
    · by_cases hy : y = dd
      · rw [hy, cln_dd]; exact cln_bad h2 hd hn
      · by_cases hyn : nameOk (ba y) = true
        · rw [cln_ok l a hy hyn]; exact cln_bad h2 hd hn
        · exact cln_no l a hy hyn
end Go.Proofs.YtknjclekfmmfeaaGreatDoor
