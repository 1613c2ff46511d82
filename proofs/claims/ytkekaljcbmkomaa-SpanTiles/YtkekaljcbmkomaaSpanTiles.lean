/-
  SpanTiles: stretches tile what is written: the walk.
-/
import Derived.Test.YtkekaljcbmkomaaTiles
namespace Go.Proofs.Ytkekaljcbmkomaa
open Go.RowKit
attribute [local simp] lcells_nil readB_length bcells_length

theorem NewB.zero {w : World} {B m k : Nat} {a : Option Addr} (h : NewB w B a (List.replicate m 0)) (hk : k < m) : a = some ⟨B, 0, none⟩ ∧ w.cell? ⟨B, k, none⟩ = some (.int .u8 0) := by
  rcases h with h | ⟨rfl, hh⟩
  · have := congrArg List.length h; simp at this; omega
  · exact ⟨rfl, by rw [cell_of_row w B k _ _ _ hh]; simp [bcells, hk]⟩

set_option maxHeartbeats 8000000 in
set_option maxRecDepth 100000 in
theorem spanTiles_walk (a0 : Option Addr) (l0 : List UInt8) (c0 : Nat) (am : Option Addr) (cm : Nat) (ms : List Mv) (w : World) (h0 : BsAt w a0 l0) (hlc : l0.length ≤ c0) (hc : c0 ≤ 4611686018427387904) (hm : Mvs w am ms) :
    Calls Try.prog 6 #[.slice a0 l0.length c0, .slice am ms.length cm] w fun e w' => e = .returned (.bool true) ∧ Below w.heap.size w w' := by
  have HG := aside (great_any a0 l0.length c0 am cm ms w hm (by omega))
  have HD := aside (made_any a0 l0 c0 am cm ms w h0 hlc hc hm)
  have HWK := aside (wakes_any w)
  clear hm h0
  go_enter Try.func6, Try.ntmps6
  go_wp2_with fail
  refine HG.out.mono ?_
  rintro e w' ⟨⟨g, rfl, hg⟩, rfl⟩
  cases g
  case true =>
    clear hg
    go_wp2_with fail
    refine HWK.out.mono ?_
    rintro e w1 ⟨rfl, hb⟩
    have HB := aside hb
    clear hb
    go_wp2
    go_ret
    exact ⟨rfl, HB.out⟩
  case false =>
    have hms : ms.length ≤ 300 := (hg rfl).1
    clear hg
    go_wp2_with fail
    refine HD.out.mono ?_
    rintro e w1 ⟨rfl, sz, lv, L, L0, -, hMid⟩
    have HR := aside hMid.rep
    have HB1 := aside hMid.below
    have hcl := hMid.cnt
    have HI := aside hMid.rep.inv
    have hszb := hMid.rep.inv.size
    have hheld := hMid.rep.inv.held
    clear HD HG HWK hMid
    go_wp2
    go_loopw [6, 7, 8, 9] (fun s6 s7 s8 s9 wr => ∃ k : Nat, k ≤ L.length ∧ s6 = .int .i64 ((endAt L k : Nat) : Int) ∧ s7 = .int .i64 (if k = 0 then -1 else ((endAt L k : Nat) : Int)) ∧ s8 = .int .i64 ((heldOf (L.take k) : Nat) : Int) ∧ s9 = .int .i64 k ∧ Aside (Rep wr w'.heap.size sz lv L) ∧ Aside (Below w'.heap.size w' wr)) (fun _ _ _ s9 _ => 1000 - (intOf s9).toNat)
    case atStart => exact ⟨0, Nat.zero_le _, rfl, rfl, rfl, rfl, HR, HB1⟩
    case round =>
      obtain ⟨k, hk, rfl, rfl, rfl, rfl, hR, hB⟩ := hrel
      have t1 : (k : Int) ≤ 2 * (ms.length : Int) + 2 := by omega
      have hesz := endAt_sz HI.out hk
      by_cases h1 : k < L.length
      · have hnx := next_at HI.out h1
        have hle := endAt_le HI.out h1
        have hfi := HI.out.fin _ (List.getElem_mem h1)
        have hne := HI.out.ne _ (List.getElem_mem h1)
        have hfo : L[k].fin = L[k].org + L[k].bs.length := rfl
        have hes := endAt_succ h1
        have hht := held_take h1
        have hhl := held_take_le L k
        have hzb := aside (fun p h2 h3 => zero_between HI.out h1 (p := p) h2 h3)
        obtain ⟨x0, hx0⟩ : ∃ x0, max (endAt L k) (L[k].org - 40) = x0 := ⟨_, rfl⟩
        obtain ⟨n0, hn0⟩ : ∃ n0, min 40 (L[k].org - endAt L k) = n0 := ⟨_, rfl⟩
        obtain ⟨m, hgm, hm⟩ := get_zeros (L := L) (sz := sz) (x := x0) (n := n0) (fun p h2 h3 => hzb.out p (by omega) (by omega))
        have GX := aside (fun W (hW : Below wr.heap.size wr W) => get_all w'.heap.size sz lv L x0 n0 W (hR.out.below hW) (by omega))
        rw [hgm, List.length_replicate] at GX
        have NX := aside (next_any w'.heap.size sz lv L ((endAt L k : Nat) : Int) wr hR.out (by omega))
        rw [Int.toNat_natCast, hnx] at NX
        have hlast : (if k = 0 then (-1 : Int) else ((endAt L k : Nat) : Int)) < (L[k].org : Int) := by split <;> omega
        have HES := aside hes
        have HHT := aside hht
        have hmx : max ((endAt L k : Nat) : Int) ((L[k].org : Int) - 40) = (x0 : Int) := by omega
        have hmn : min (40 : Int) ((L[k].org : Int) - ((endAt L k : Nat) : Int)) = (n0 : Int) := by omega
        have HMX := aside hmx
        have HMN := aside hmn
        generalize (if k = 0 then (-1 : Int) else ((endAt L k : Nat) : Int)) = last at *
        have hx0b : x0 ≤ L[k].org := by omega
        have hn0b : n0 ≤ 40 := by omega
        have q1 : L[k].org ≤ 1073741824 := by omega
        have q2 : L[k].fin ≤ 1073741824 := by omega
        have q3 : L[k].org < L[k].fin := by omega
        have q4 : heldOf (L.take k) ≤ 4194304 := by omega
        have q5 : ¬ (L[k].org = sz) := by omega
        have q6 : L[k].fin ≤ sz := hfi
        have q7 : endAt L k ≤ L[k].org := hle.1
        have q8 : L[k].fin - L[k].org = L[k].bs.length := by omega
        clear hzb hgm hnx hes hht hmx hmn hx0 hn0 hle hfi hne hfo hhl
        generalize L[k].org = from_ at *
        generalize L[k].fin = to_ at *
        generalize hea : endAt L k = at_ at *
        generalize heq : heldOf (L.take k) = sum_ at *
        generalize L[k].bs.length = len_ at *
        have e1 : ((from_ : Int) == (sz : Int)) = false := by simp; omega
        have e2 : decide ((to_ : Int) ≤ (from_ : Int)) = false := by simp; omega
        have e3 : decide ((from_ : Int) ≤ last) = false := by simp; omega
        have e4 : ¬ ((sz : Int) < (to_ : Int)) := by omega
        have Q8 := aside q8
        clear hea heq q8
        go_wp2_with fail
        refine NX.out.mono ?_
        rintro e w2 ⟨rfl, hb2⟩
        have B2 := aside hb2
        clear hb2
        go_wp2_with fail
        refine (size_any w'.heap.size sz lv L w2 (hR.out.below B2.out)).mono ?_
        rintro e w3 ⟨rfl, rfl⟩
        go_wp2_with fail
        refine (size_any w'.heap.size sz lv L w3 (hR.out.below B2.out)).mono ?_
        rintro e w4 ⟨rfl, rfl⟩
        go_wp2_with (first | ((with_reducible refine wpList_max2 _ rfl _ _ _ rfl (at_ : Int) ((from_ : Int) - 40) (x0 : Int) ?_ ?_ HMX.out ?_); rfl; rfl) | ((with_reducible refine wpList_min2 _ rfl _ _ _ rfl (40 : Int) ((from_ : Int) - (at_ : Int)) (n0 : Int) ?_ ?_ HMN.out ?_); rfl; rfl))
        refine (GX.out w4 B2.out).mono ?_
        rintro e w5 ⟨a5, c5, rfl, hc5, hn5, hb5⟩
        have N5 := aside hn5
        have B5 := aside (below_tr B2.out hb5)
        clear hn5 hb5
        go_wp2
        go_loop [15] (fun s15 => ∃ j : Nat, j ≤ m ∧ s15 = .int .i64 j) (fun s15 => m - (intOf s15).toNat)
        case atStart => exact ⟨0, Nat.zero_le _, rfl⟩
        case round =>
          obtain ⟨j, hj, rfl⟩ := hrel
          by_cases hjm : j < m
          · have tj : (j : Int) < (m : Int) := by omega
            obtain ⟨rfl, hce⟩ := N5.out.zero hjm
            go_wp2
            go_round
            case rel => exact ⟨j + 1, by omega, by go_num⟩
            case measure => simp [intOf]; omega
          · have tj : ¬ ((j : Int) < (m : Int)) := by omega
            go_wp2
            go_roundw
            case rel => exact ⟨k + 1, by omega, by rw [HES.out], by rw [if_neg (by omega), HES.out], by rw [HHT.out]; have := Q8.out; go_num, by go_num, hR.out.below B5.out, hB.out.trans (B5.out.mono hB.out.size)⟩
            case measure => simp [intOf]; omega
      · obtain rfl : k = L.length := by omega
        have NX := aside (next_any w'.heap.size sz lv L ((endAt L L.length : Nat) : Int) wr hR.out (by omega))
        rw [Int.toNat_natCast, next_end HI.out] at NX
        obtain ⟨m, hgm, hm⟩ := get_zeros (L := L) (sz := sz) (x := endAt L L.length) (n := 40) (fun p h2 h3 => zero_behind HI.out h2)
        have GX := aside (fun W (hW : Below wr.heap.size wr W) => get_all w'.heap.size sz lv L ((endAt L L.length : Nat) : Int) ((40 : Nat) : Int) W (hR.out.below hW) (by decide))
        rw [hgm, List.length_replicate] at GX
        clear hgm
        rw [List.take_length]
        generalize endAt L L.length = at_ at *
        generalize (if L.length = 0 then (-1 : Int) else (at_ : Int)) = last at *
        go_wp2_with fail
        refine NX.out.mono ?_
        rintro e w2 ⟨rfl, hb2⟩
        have B2 := aside hb2
        clear hb2
        go_wp2_with fail
        refine (size_any w'.heap.size sz lv L w2 (hR.out.below B2.out)).mono ?_
        rintro e w3 ⟨rfl, rfl⟩
        go_wp2_with fail
        refine (size_any w'.heap.size sz lv L w3 (hR.out.below B2.out)).mono ?_
        rintro e w4 ⟨rfl, rfl⟩
        go_wp2_with fail
        refine (GX.out w4 B2.out).mono ?_
        rintro e w5 ⟨a5, c5, rfl, hc5, hn5, hb5⟩
        have N5 := aside hn5
        have B5 := aside (below_tr B2.out hb5)
        clear hn5 hb5
        go_wp2
        go_loop [13] (fun s13 => ∃ j : Nat, j ≤ m ∧ s13 = .int .i64 j) (fun s13 => m - (intOf s13).toNat)
        case atStart => exact ⟨0, Nat.zero_le _, rfl⟩
        case round =>
          obtain ⟨j, hj, rfl⟩ := hrel
          by_cases hjm : j < m
          · have tj : (j : Int) < (m : Int) := by omega
            obtain ⟨rfl, hce⟩ := N5.out.zero hjm
            go_wp2
            go_round
            case rel => exact ⟨j + 1, by omega, by go_num⟩
            case measure => simp [intOf]; omega
          · have tj : ¬ ((j : Int) < (m : Int)) := by omega
            go_wp2_with fail
            refine (held_any w'.heap.size sz lv L w5 (hR.out.below B5.out)).mono ?_
            rintro e w6 ⟨rfl, rfl⟩
            go_wp2_with fail
            refine (wakes_any w6).mono ?_
            rintro e w7 ⟨rfl, hb7⟩
            have B7 := aside (hB.out.trans ((below_tr B5.out hb7).mono hB.out.size))
            clear hb7
            go_wp2
            go_ret
            exact ⟨rfl, B7.out⟩
end Go.Proofs.Ytkekaljcbmkomaa
