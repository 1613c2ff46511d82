/- A walk in memory: find, lead. -/
import Derived.Test.YtknjclekfmmfeaaDoorPst
namespace Go.Proofs.YtknjclekfmmfeaaDoor
open Go.RowKit Go.ChangeMaps Go.Shelf

set_option maxRecDepth 20000 in
set_option maxHeartbeats 2000000 in
theorem find_any {w : World} {ad : Nat → Nat} {G : Gr} (h : GAt w G ad) {i : Nat} (hi : i < G.length) (hk : (nk G i).k = 1) (x : B) :
    Calls Tryd.prog 39 #[Pt (ad i), .string (ba x)] w fun e w' => (nameOk (ba x) = false → e = .returned (.tuple #[.pointer none, .int .i64 190])) ∧ (nameOk (ba x) = true → e = .returned (match lkp (nk G i).L x with | some j => .tuple #[Pt (ad j), .int .i64 0] | none => .tuple #[.pointer none, .int .i64 192])) ∧ Below w.heap.size w w' := by
  have AC := aside (check_any (ba x) w)
  have AG : Aside (∀ W, Below w.heap.size w W → Calls Tryd.prog 55 #[Pt (ad i), .string (ba x)] W fun e w' => e = .returned (match lkp (nk G i).L x with | some j => .tuple #[Pt (ad j), .int .i64 0] | none => .tuple #[.pointer none, .int .i64 192]) ∧ w' = W) := fun W hW => get_at (h.below hW) hi hk x
  obtain ⟨r, hr⟩ : ∃ r : Value, r = (match lkp (nk G i).L x with | some j => .tuple #[Pt (ad j), .int .i64 0] | none => .tuple #[.pointer none, .int .i64 192]) := ⟨_, rfl⟩
  obtain ⟨p, q, hpq⟩ : ∃ p q, r = .tuple #[p, q] := by
    rw [hr]
    cases lkp (nk G i).L x with
    | none => exact ⟨_, _, rfl⟩
    | some j => exact ⟨_, _, rfl⟩
  rw [← hr] at AG ⊢
  subst hpq
  obtain ⟨X, hX⟩ : ∃ X, X = ba x := ⟨_, rfl⟩
  obtain ⟨D, hD⟩ : ∃ D, D = ad i := ⟨_, rfl⟩
  rw [← hX, ← hD] at AG ⊢
  rw [← hX] at AC
  clear h hr hX hD
  by_cases hn : nameOk X = true
  · rw [if_pos hn] at AC
    go_enter Tryd.func39, Tryd.ntmps39
    go_wp2_with fail
    refine AC.out.mono ?_
    rintro e w1 ⟨rfl, hb⟩
    have AB := aside hb
    clear hb
    go_wp2_with fail
    refine (AG.out _ AB.out).mono ?_
    rintro e w2 ⟨rfl, rfl⟩
    go_wp2_with fail
    go_ret2
    exact ⟨(fun e => by rw [hn] at e; cases e), fun _ => rfl, AB.out⟩
  · rw [if_neg hn] at AC
    go_enter Tryd.func39, Tryd.ntmps39
    go_wp2_with fail
    refine AC.out.mono ?_
    rintro e w1 ⟨rfl, hb⟩
    have AB := aside hb
    clear hb
    go_wp2_with fail
    go_ret2
    exact ⟨fun _ => rfl, fun e => absurd e hn, AB.out⟩
theorem Xra : Builder.Extra Tryd.prog lays156_ren where
  sizeBuilder := by kernel_rfl
  liesBuilder := by kernel_rfl
  t5 := by kernel_rfl
  a5 := fun _ => by kernel_rfl
  z5 := fun _ => by kernel_rfl
  v5 := fun _ => by kernel_rfl
  infoByte := by kernel_rfl
  cellsByte := by kernel_rfl
  sizeByte := by kernel_rfl
  neB5 := by decide
theorem pre47 (s : B) : Lib.hasPrefix s [47] = abso s := by
  cases s with
  | nil => rfl
  | cons c s =>
    by_cases hc : c = 47
    · subst hc; rfl
    · have h1 : ((47 : UInt8) == c) = false := beq_eq_false_iff_ne.2 (fun e => hc e.symm)
      have h2 : (c == (47 : UInt8)) = false := beq_eq_false_iff_ne.2 hc
      show ((47 : UInt8) == c && List.isPrefixOf [] s) = (c == (47 : UInt8))
      rw [h1, h2]; rfl
theorem hasPrefix_any (s : B) (w : World) : Calls Tryd.prog 57 #[.string (ba s), .string ⟨#[47]⟩] w fun e w' => e = .returned (.bool (abso s)) ∧ w' = w := by
  have h := Any.strings_HasPrefix (ρ := lays99_ren) lays99 (ba s) ⟨#[47]⟩ w
  refine Calls.mono h ?_
  rintro e w' ⟨rfl, rfl⟩
  refine ⟨?_, rfl⟩
  rw [ba_list]
  rw [show (⟨#[47]⟩ : ByteArray).data.toList = [47] from rfl, pre47]
end Go.Proofs.YtknjclekfmmfeaaDoor
