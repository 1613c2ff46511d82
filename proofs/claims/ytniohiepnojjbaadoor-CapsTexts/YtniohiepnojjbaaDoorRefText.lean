/- The document's words and Text. -/
import Derived.Test.YtniohiepnojjbaaDoorText
namespace Go.Proofs.YtniohiepnojjbaaDoor
open Go.RowKit

theorem words_any (w : World) : Calls Tryd.prog 27 #[] w fun e w' => e = .returned (.slice (some ⟨w.heap.size, 0, none⟩) 4 4) ∧ w' = w.alloc (.cells #[.string bWrite, .string bCut, .string bHoles, .string bSync] 9) := by
  go_enter Tryd.func27, Tryd.ntmps27
  go_wp2
  go_ret
  exact ⟨rfl, rfl⟩

def wordL4 (i : Nat) : List UInt8 := (wordAt i).data.toList
/-- The document's text behind i words. -/
def refL (can : Nat) : Nat → List UInt8
  | 0 => []
  | i + 1 => if can &&& bitAt i != 0 then (if refL can i = [] then refL can i else refL can i ++ [32]) ++ wordL4 i else refL can i
theorem refL_all : ∀ can, can < 16 → can ≠ 0 → refL can 4 = textL can := by decide
theorem refL_len : ∀ can, can < 16 → ∀ i, i < 5 → (refL can i).length ≤ 60 := by decide
theorem app_arr (a b : List UInt8) : (⟨a.toArray⟩ : ByteArray) ++ ⟨b.toArray⟩ = ⟨(a ++ b).toArray⟩ := by
  apply ByteArray.ext
  simp [ByteArray.data_append]
theorem refL_step (can i : Nat) (b : ByteArray) (hb : wordAt i = b) (hne : refL can i ≠ []) (hs : (can &&& bitAt i != 0) = true) : ((⟨(refL can i).toArray⟩ : ByteArray) ++ ⟨#[32]⟩) ++ b = ⟨(refL can (i + 1)).toArray⟩ := by
  rw [refL, if_pos hs, if_neg hne, show (⟨#[32]⟩ : ByteArray) = ⟨([32] : List UInt8).toArray⟩ from rfl, app_arr, ← hb, show wordAt i = ⟨(wordL4 i).toArray⟩ from by rw [wordL4], app_arr]
theorem refL_first (can i : Nat) (b : ByteArray) (hb : wordAt i = b) (hne : refL can i = []) (hs : (can &&& bitAt i != 0) = true) : (⟨(refL can i).toArray⟩ : ByteArray) ++ b = ⟨(refL can (i + 1)).toArray⟩ := by
  rw [refL, if_pos hs, if_pos hne, ← hb, show wordAt i = ⟨(wordL4 i).toArray⟩ from by rw [wordL4], app_arr]
theorem refL_skip (can i : Nat) (hs : (can &&& bitAt i != 0) = false) : refL can (i + 1) = refL can i := by
  rw [refL, if_neg (by rw [hs]; decide)]

set_option maxHeartbeats 4000000 in
set_option maxRecDepth 100000 in
theorem refText_some (can : Nat) (h0 : 0 < can) (hc : can < 16) (w : World) : Calls Tryd.prog 13 #[.int .u8 (can : Int)] w fun e w' => e = .returned (.string ⟨(textL can).toArray⟩) ∧ Below w.heap.size w w' := by
  have t1 : decide ((15 : Int) < (can : Int)) = false := by simp; omega
  have t2 : ((can : Int) == 0) = false := (ez can).trans (by simp; omega)
  have RA := aside (refL_all can hc (by omega))
  go_enter Tryd.func13, Tryd.ntmps13
  go_wp2_with fail
  refine (words_any w).mono ?_
  rintro e w1 ⟨rfl, hw1⟩
  have k0 : w1.cell? ⟨w.heap.size, 0, none⟩ = some (.string bWrite) := by rw [hw1]; go_simp
  have k1 : w1.cell? ⟨w.heap.size, 1, none⟩ = some (.string bCut) := by rw [hw1]; go_simp
  have k2 : w1.cell? ⟨w.heap.size, 2, none⟩ = some (.string bHoles) := by rw [hw1]; go_simp
  have k3 : w1.cell? ⟨w.heap.size, 3, none⟩ = some (.string bSync) := by rw [hw1]; go_simp
  have B1 : Aside (Below w.heap.size w w1) := by rw [hw1]; exact below_al w _
  clear hw1 t1 t2
  go_wp2
  go_loop [3, 5, 6] (fun s3 s5 s6 => ∃ i : Nat, i ≤ 4 ∧ s3 = .string ⟨(refL can i).toArray⟩ ∧ s5 = .int .u8 ((2 ^ i : Nat) : Int) ∧ s6 = .int .i64 i) (fun _ _ s6 => 4 - (intOf s6).toNat)
  case atStart => exact ⟨0, by omega, rfl, rfl, rfl⟩
  case round =>
    obtain ⟨i, hi, rfl, rfl, rfl⟩ := hrel
    by_cases hlt : i < 4
    · have hand : bits .and .u8 (can : Int) ((2 ^ i : Nat) : Int) = ((can &&& 2 ^ i : Nat) : Int) := u8_and_nat can (2 ^ i) (by omega) (by
        have : i = 0 ∨ i = 1 ∨ i = 2 ∨ i = 3 := by omega
        rcases this with rfl | rfl | rfl | rfl <;> decide)
      have hbi : bitAt i = 2 ^ i := by
        have : i = 0 ∨ i = 1 ∨ i = 2 ∨ i = 3 := by omega
        rcases this with rfl | rfl | rfl | rfl <;> rfl
      have ST := aside (fun b hb hne hs => refL_step can i b hb hne hs)
      have FST := aside (fun b hb hne hs => refL_first can i b hb hne hs)
      have SK := aside (fun hs => refL_skip can i hs)
      have hbne : ((bits .and .u8 (can : Int) ((2 ^ i : Nat) : Int)) != 0) = (can &&& bitAt i != 0) := by
        rw [hand, hbi]
        rw [Bool.eq_iff_iff]; simp [bne_iff_ne]
      generalize hcb : (can &&& bitAt i != 0) = cb at *
      have HCB := aside hcb
      clear hand hbi hcb
      have hz : (refL can i = []) ∨ (refL can i ≠ []) := by by_cases h : refL can i = [] <;> simp [h]
      have HE : ((!(⟨(refL can i).toArray⟩ : ByteArray).toList.isEmpty) = true ∧ refL can i ≠ []) ∨ ((!(⟨(refL can i).toArray⟩ : ByteArray).toList.isEmpty) = false ∧ refL can i = []) := by
        rw [Lib.toList_data]
        rcases hz with h | h
        · exact .inr ⟨by simp [h], h⟩
        · exact .inl ⟨by simp [h], h⟩
      have hqs : (⟨(refL can i).toArray⟩ : ByteArray).size ≤ 60 := by
        have := refL_len can hc i (by omega)
        rw [Lib.size_eq]; simpa using this
      generalize hq : (⟨(refL can i).toArray⟩ : ByteArray) = q at *
      have hqs2 : (q ++ (⟨#[32]⟩ : ByteArray)).size ≤ 61 := by rw [ByteArray.size_append]; have : (⟨#[32]⟩ : ByteArray).size = 1 := rfl; omega
      have HQ := aside hq
      clear hq hz
      have h4 : i = 0 ∨ i = 1 ∨ i = 2 ∨ i = 3 := by omega
      rcases h4 with rfl | rfl | rfl | rfl
      · replace hbne : (bits .and .u8 (can : Int) 1 != 0) = cb := hbne
        cases cb
        · clear HE
          go_wp2
          go_round
          case rel => exact ⟨1, by omega, by rw [SK.out rfl, HQ.out], rfl, rfl⟩
          case measure => simp [intOf]
        · rcases HE with ⟨he, hne⟩ | ⟨he, hne⟩
          · exact absurd rfl hne
          · have HNE := aside hne
            clear hne
            go_wp2
            go_round
            case rel => exact ⟨1, by omega, congrArg Value.string (FST.out _ rfl HNE.out rfl), rfl, rfl⟩
            case measure => simp [intOf]
      · replace hbne : (bits .and .u8 (can : Int) 2 != 0) = cb := hbne
        cases cb
        · clear HE
          go_wp2
          go_round
          case rel => exact ⟨2, by omega, by rw [SK.out rfl, HQ.out], rfl, rfl⟩
          case measure => simp [intOf]
        · rcases HE with ⟨he, hne⟩ | ⟨he, hne⟩
          · have HNE := aside hne
            clear hne
            go_wp2
            go_round
            case rel => exact ⟨2, by omega, congrArg Value.string (ST.out _ rfl HNE.out rfl), rfl, rfl⟩
            case measure => simp [intOf]
          · have HNE := aside hne
            clear hne
            go_wp2
            go_round
            case rel => exact ⟨2, by omega, congrArg Value.string (FST.out _ rfl HNE.out rfl), rfl, rfl⟩
            case measure => simp [intOf]
      · replace hbne : (bits .and .u8 (can : Int) 4 != 0) = cb := hbne
        cases cb
        · clear HE
          go_wp2
          go_round
          case rel => exact ⟨3, by omega, by rw [SK.out rfl, HQ.out], rfl, rfl⟩
          case measure => simp [intOf]
        · rcases HE with ⟨he, hne⟩ | ⟨he, hne⟩
          · have HNE := aside hne
            clear hne
            go_wp2
            go_round
            case rel => exact ⟨3, by omega, congrArg Value.string (ST.out _ rfl HNE.out rfl), rfl, rfl⟩
            case measure => simp [intOf]
          · have HNE := aside hne
            clear hne
            go_wp2
            go_round
            case rel => exact ⟨3, by omega, congrArg Value.string (FST.out _ rfl HNE.out rfl), rfl, rfl⟩
            case measure => simp [intOf]
      · replace hbne : (bits .and .u8 (can : Int) 8 != 0) = cb := hbne
        cases cb
        · clear HE
          go_wp2
          go_round
          case rel => exact ⟨4, by omega, by rw [SK.out rfl, HQ.out], rfl, rfl⟩
          case measure => simp [intOf]
        · rcases HE with ⟨he, hne⟩ | ⟨he, hne⟩
          · have HNE := aside hne
            clear hne
            go_wp2
            go_round
            case rel => exact ⟨4, by omega, congrArg Value.string (ST.out _ rfl HNE.out rfl), rfl, rfl⟩
            case measure => simp [intOf]
          · have HNE := aside hne
            clear hne
            go_wp2
            go_round
            case rel => exact ⟨4, by omega, congrArg Value.string (FST.out _ rfl HNE.out rfl), rfl, rfl⟩
            case measure => simp [intOf]
    · obtain rfl : i = 4 := by omega
      go_wp2
      go_ret
      exact ⟨congrArg (fun x : List UInt8 => Ending.returned (.string ⟨x.toArray⟩)) RA.out, B1.out⟩

set_option maxHeartbeats 1000000 in
theorem refText_any (can : Nat) (hc : can < 256) (w : World) : Calls Tryd.prog 13 #[.int .u8 (can : Int)] w fun e w' => e = .returned (.string ⟨(textL can).toArray⟩) ∧ Below w.heap.size w w' := by
  by_cases h15 : 15 < can
  · rw [show textL can = [] from by rw [textL, if_pos h15]]
    have t : (15 : Int) < (can : Int) := by omega
    go_enter Tryd.func13, Tryd.ntmps13
    go_wp2
    go_ret
    exact ⟨rfl, Below.refl _ _⟩
  · by_cases h0 : can = 0
    · subst h0
      go_enter Tryd.func13, Tryd.ntmps13
      go_wp2
      go_ret
      exact ⟨rfl, Below.refl _ _⟩
    · exact refText_some can (by omega) (by omega) w
end Go.Proofs.YtniohiepnojjbaaDoor
