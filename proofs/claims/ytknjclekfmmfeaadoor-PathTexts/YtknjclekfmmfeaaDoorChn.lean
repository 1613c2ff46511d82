/- The way up from a directory: within, depth. -/
import Derived.Test.YtknjclekfmmfeaaDoorNam2
namespace Go.Proofs.YtknjclekfmmfeaaDoor
open Go.RowKit

/-- The directories from v up. -/
def Up (w : World) : Value → List Nat → Prop
  | v, [] => v = .pointer none
  | v, d :: l => v = Pt d ∧ ∃ a u m, w.heap[d]? = some (.cells #[a, u, m] 58 (0, 0)) ∧ Up w u l
theorem Up.nil {w : World} : Up w (.pointer none) [] := rfl
theorem Up.dir {w : World} {nb db mb : Nat} {up : Value} {L : List KV} {l : List Nat} (h : Dr w nb db mb up L) (k : Up w up l) : Up w (Pt db) (db :: l) := ⟨rfl, _, up, _, h.dir, k⟩
theorem Up.keep {w w' : World} : ∀ {l : List Nat} {v : Value}, Up w v l → (∀ d ∈ l, w'.heap[d]? = w.heap[d]?) → Up w' v l
  | [], _, h, _ => h
  | d :: l, v, ⟨h1, a, u, m, h2, h3⟩, hk => ⟨h1, a, u, m, (hk d (by simp)).trans h2, Up.keep h3 (fun x hx => hk x (by simp [hx]))⟩
theorem Up.lt {w : World} : ∀ {l : List Nat} {v : Value}, Up w v l → ∀ d ∈ l, d < w.heap.size
  | [], _, _, d, hd => by simp at hd
  | x :: l, v, ⟨h1, a, u, m, h2, h3⟩, d, hd => by
    rcases List.mem_cons.1 hd with rfl | hd
    · exact (Array.getElem?_eq_some_iff.1 h2).1
    · exact Up.lt h3 d hd
theorem Up.below {w w' : World} {l : List Nat} {v : Value} (h : Up w v l) (hb : Below w.heap.size w w') : Up w' v l := h.keep fun d hd => hb.block d (h.lt d hd)
theorem Up.upd {w w' : World} {l : List Nat} {v : Value} {F : Nat → Prop} (h : Up w v l) (u : Upd F w w') (hF : ∀ d ∈ l, ¬ F d) : Up w' v l := h.keep fun d hd => u.block d (h.lt d hd) (hF d hd)

set_option maxRecDepth 20000 in
set_option maxHeartbeats 1000000 in
theorem within_any (v : Value) (l : List Nat) (top : Nat) (w : World) {ct : Array Value} {tt : TypeId} (ht : w.heap[top]? = some (.cells ct tt (0, 0))) (h : Up w v l) : Calls Tryd.prog 44 #[v, Pt top] w fun e w' => e = .returned (.bool (decide (top ∈ l))) ∧ w' = w := by
  have HU := aside h
  clear h
  go_enter Tryd.func44, Tryd.ntmps44
  go_wp2_with fail
  go_loopg [0] l.length (fun g s0 wx => ∃ l', l'.length = g ∧ Up w s0 l' ∧ wx = w ∧ (top ∈ l ↔ top ∈ l'))
  case atStart => exact ⟨l, rfl, HU.out, rfl, Iff.rfl⟩
  case round =>
    obtain ⟨l', hl, hu, rfl, hm⟩ := hrel
    cases l' with
    | nil =>
      obtain rfl : _ = Value.pointer none := hu
      go_wp2_with fail
      go_ret
      exact ⟨by rw [decide_eq_false (by rw [hm]; simp)]; rfl, rfl⟩
    | cons d l2 =>
      obtain ⟨rfl, a, u, m, hd, hu2⟩ := hu
      have hc : wr.cell? ⟨d, 1, none⟩ = some u := by rw [cell_of_row wr d 1 _ _ _ hd]; rfl
      have heq := eq_dir hd ht
      have HU2 := aside hu2
      have HM := aside hm
      clear hu2 hm hd
      by_cases hd : d = top
      · subst hd
        rw [decide_eq_true rfl] at heq
        go_wp2_with fail
        go_ret
        exact ⟨by rw [decide_eq_true (by rw [HM.out]; simp)]; rfl, rfl⟩
      · rw [decide_eq_false hd] at heq
        go_wp2_with fail
        go_roundg l2.length
        case measure => simp at hl; omega
        case rel => exact ⟨l2, rfl, HU2.out, rfl, by rw [HM.out, List.mem_cons]; exact ⟨fun h => h.resolve_left (fun e => hd e.symm), .inr⟩⟩

set_option maxRecDepth 20000 in
set_option maxHeartbeats 1000000 in
theorem depth_any (d : Nat) (l : List Nat) (w : World) (h : Up w (Pt d) (d :: l)) (hl : l.length ≤ 1000000) : Calls Tryd.prog 45 #[Pt d] w fun e w' => e = .returned (.int .i64 (l.length : Int)) ∧ w' = w := by
  obtain ⟨-, a, u, m, hd, hu⟩ := h
  have hc : w.cell? ⟨d, 1, none⟩ = some u := by rw [cell_of_row w d 1 _ _ _ hd]; rfl
  clear hd
  have HU := aside hu
  clear hu
  go_enter Tryd.func45, Tryd.ntmps45
  go_wp2_with fail
  go_loopg [3, 4] l.length (fun g s3 s4 wx => ∃ (l' : List Nat) (k : Nat), l'.length = g ∧ k + g = l.length ∧ s3 = .int .i64 (k : Int) ∧ Up w s4 l' ∧ wx = w)
  case atStart => exact ⟨l, 0, rfl, by omega, rfl, HU.out, rfl⟩
  case round =>
    obtain ⟨l', k, hg, hk, rfl, hu, rfl⟩ := hrel
    cases l' with
    | nil =>
      obtain rfl : _ = Value.pointer none := hu
      simp at hg
      subst hg
      obtain rfl : k = l.length := by omega
      go_wp2_with fail
      go_ret
      exact ⟨rfl, rfl⟩
    | cons d2 l2 =>
      obtain ⟨rfl, a2, u2, m2, hd2, hu2⟩ := hu
      have hc2 : wr.cell? ⟨d2, 1, none⟩ = some u2 := by rw [cell_of_row wr d2 1 _ _ _ hd2]; rfl
      clear hd2
      have HU2 := aside hu2
      simp at hg
      have hw : IntKind.i64.wrap ((k : Int) + 1) = ((k + 1 : Nat) : Int) := by rw [wrap_small _ (by omega) (by omega)]; simp
      clear hu2
      go_wp2_with fail
      go_roundg l2.length
      case measure => omega
      case rel => exact ⟨l2, k + 1, rfl, by omega, by first | rfl | simp, HU2.out, rfl⟩
end Go.Proofs.YtknjclekfmmfeaaDoor
