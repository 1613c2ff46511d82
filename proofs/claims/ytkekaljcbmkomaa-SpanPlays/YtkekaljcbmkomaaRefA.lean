/- The document's own answer for layer 1 in memory: its pieces, Next, and taken without memory. -/
import Derived.Test.YtkekaljcbmkomaaTwo
import Derived.Laws.AppendOwn
namespace Go.Proofs.Ytkekaljcbmkomaa
open Go.RowKit
attribute [local simp] lcells_nil readB_length bcells_length

/-- A piece as it lies in memory: its bytes lie anywhere, from an offset on. -/
structure RP where
  at_ : Nat
  blk : Nat
  off : Nat
  c : Nat
  bs : List UInt8
/-- .. without its memory. -/
def RP.pl (r : RP) : Piece := { org := r.at_, blk := 0, cap := 0, bs := r.bs }
def pls (R : List RP) : List Piece := R.map RP.pl

def RdP (w : World) (blk off : Nat) (R : List RP) : Prop := ∀ (j : Nat) (r : RP), R[j]? = some r → w.cell? ⟨blk, off + j * 2, none⟩ = some (.int .i64 r.at_) ∧ w.cell? ⟨blk, off + j * 2 + 1, none⟩ = some (.slice (some ⟨r.blk, r.off, none⟩) r.bs.length r.c)
/-- A list of pieces. -/
structure PsAt (w : World) (a : Option Addr) (R : List RP) : Prop where
  rd : R ≠ [] → ∃ blk off, a = some ⟨blk, off, none⟩ ∧ RdP w blk off R
  bs : ∀ r, r ∈ R → BsAt w (some ⟨r.blk, r.off, none⟩) r.bs
  cp : ∀ r, r ∈ R → 0 < r.bs.length ∧ r.bs.length ≤ r.c
  le : ∀ r, r ∈ R → r.at_ + r.bs.length ≤ 1073741824
  cnt : R.length ≤ 1073741824
theorem RdP.below {w w' : World} {blk off : Nat} {R : List RP} (h : RdP w blk off R) (hb : Below w.heap.size w w') : RdP w' blk off R := fun j m hj => by
  obtain ⟨h0, h1⟩ := h j m hj
  have hlt := World.block_lt_of_cell? w _ h0
  exact ⟨(hb.cell hlt).trans h0, (hb.cell (p := ⟨blk, off + j * 2 + 1, none⟩) hlt).trans h1⟩
theorem PsAt.below {w w' : World} {a : Option Addr} {R : List RP} (h : PsAt w a R) (hb : Below w.heap.size w w') : PsAt w' a R := by
  refine ⟨fun hne => ?_, fun m hm => (h.bs m hm).below hb, h.cp, h.le, h.cnt⟩
  obtain ⟨blk, off, rfl, hr⟩ := h.rd hne
  exact ⟨blk, off, rfl, hr.below hb⟩

/-- The cells of some pieces. -/
def rcells (R : List RP) : List Value := R.flatMap fun r => [.int .i64 r.at_, .slice (some ⟨r.blk, r.off, none⟩) r.bs.length r.c]
theorem rcells_length (R : List RP) : (rcells R).length = R.length * 2 := by
  induction R with
  | nil => rfl
  | cons r R ih =>
    have e : rcells (r :: R) = [.int .i64 (r.at_ : Int), .slice (some ⟨r.blk, r.off, none⟩) r.bs.length r.c] ++ rcells R := rfl
    rw [e, List.length_append, ih, List.length_cons]
    simp only [List.length_cons, List.length_nil]
    omega
theorem rcells_append (R T : List RP) : rcells (R ++ T) = rcells R ++ rcells T := by unfold rcells; rw [List.flatMap_append]
theorem rcells_get : ∀ (R : List RP) (j : Nat) (r : RP), R[j]? = some r → (rcells R)[j * 2]? = some (.int .i64 r.at_) ∧ (rcells R)[j * 2 + 1]? = some (.slice (some ⟨r.blk, r.off, none⟩) r.bs.length r.c)
  | [], j, r, h => by simp at h
  | q :: R, 0, r, h => by
    obtain rfl : q = r := by simpa using h
    exact ⟨rfl, rfl⟩
  | q :: R, j + 1, r, h => by
    have := rcells_get R j r (by simpa using h)
    have e : rcells (q :: R) = [.int .i64 (q.at_ : Int), .slice (some ⟨q.blk, q.off, none⟩) q.bs.length q.c] ++ rcells R := rfl
    rw [e, List.getElem?_append_right (by simp only [List.length_cons, List.length_nil]; omega), List.getElem?_append_right (by simp only [List.length_cons, List.length_nil]; omega)]
    simp only [List.length_cons, List.length_nil]
    rw [show (j + 1) * 2 - (0 + 1 + 1) = j * 2 by omega, show (j + 1) * 2 + 1 - (0 + 1 + 1) = j * 2 + 1 by omega]
    exact this
/-- A row of its own that holds these cells is such a list. -/
theorem psAt_of_row {w : World} {base : Nat} {v : Value} {R : List RP} (h : w.ownsRow base 59 2 v R.length (rcells R)) (hb : ∀ r, r ∈ R → BsAt w (some ⟨r.blk, r.off, none⟩) r.bs) (hc : ∀ r, r ∈ R → 0 < r.bs.length ∧ r.bs.length ≤ r.c) (hl : ∀ r, r ∈ R → r.at_ + r.bs.length ≤ 1073741824) (hn : R.length ≤ 1073741824) {a : Option Addr} {c : Nat} (hv : v = .slice a R.length c) (ha : R ≠ [] → ∃ g, a = some ⟨g, 0, none⟩) : PsAt w a R := by
  refine ⟨fun hne => ?_, hb, hc, hl, hn⟩
  obtain ⟨g, rfl⟩ := ha hne
  refine ⟨g, 0, rfl, fun j r hj => ?_⟩
  obtain ⟨h1, h2⟩ := rcells_get R j r hj
  subst hv
  have k1 := h.cells rfl (j * 2) _ h1
  have k2 := h.cells rfl (j * 2 + 1) _ h2
  have ea : ∀ k : Nat, Addr.add ⟨g, 0, none⟩ k = ⟨g, k, none⟩ := fun k => by
    unfold Addr.add
    split
    · rename_i hk; rw [hk]
    · simp only [Nat.zero_add]
  rw [ea] at k1 k2
  rw [Nat.zero_add]
  exact ⟨k1, k2⟩

/-- The object: its list and its size. -/
structure RefAt (w : World) (b N : Nat) (a : Option Addr) (c : Nat) (R : List RP) : Prop where
  list : w.cell? ⟨b, 0, none⟩ = some (.slice a R.length c)
  size : w.cell? ⟨b, 1, none⟩ = some (.int .i64 N)
  ps : PsAt w a R
theorem RefAt.below {w w' : World} {b N : Nat} {a : Option Addr} {c : Nat} {R : List RP} (h : RefAt w b N a c R) (hb : Below w.heap.size w w') : RefAt w' b N a c R :=
  ⟨(hb.cell (World.block_lt_of_cell? w _ h.list)).trans h.list, (hb.cell (World.block_lt_of_cell? w _ h.size)).trans h.size, h.ps.below hb⟩

theorem end_any (x n : Nat) (a : Option Addr) (c : Nat) (w : World) (h : x + n ≤ 4611686018427387904) :
    Calls Try.prog 43 #[.agg #[.int .i64 x, .slice a n c]] w fun e w' => e = .returned (.int .i64 ((x + n : Nat) : Int)) ∧ Below w.heap.size w w' := by
  have B := aside (below_al w (.cells #[.int .i64 x, .slice a n c] 59))
  go_enter Try.func43, Try.ntmps43
  go_wp2
  go_ret
  exact ⟨by go_num, B.out⟩

def heldR (R : List RP) : Nat := heldOf (pls R)
theorem heldR_take {R : List RP} {k : Nat} {r : RP} (h : R[k]? = some r) : heldR (R.take (k + 1)) = heldR (R.take k) + r.bs.length := by
  unfold heldR heldOf pls
  rw [List.take_add_one, h]
  simp [RP.pl]
theorem heldR_le {w : World} {a : Option Addr} {R : List RP} (h : PsAt w a R) (k : Nat) (hk : k ≤ R.length) : heldR (R.take k) ≤ k * 1073741824 := by
  induction k with
  | zero => simp [heldR, heldOf, pls]
  | succ k ih =>
    have hkm : R[k]? = some R[k] := List.getElem?_eq_getElem (by omega)
    rw [heldR_take hkm]
    have := h.le R[k] (List.getElem_mem (by omega))
    have := ih (by omega)
    omega

set_option maxHeartbeats 1000000 in
theorem heldRef_any (a : Option Addr) (c : Nat) (R : List RP) (w : World) (hR : PsAt w a R) :
    Calls Try.prog 44 #[.slice a R.length c] w fun e w' => e = .returned (.int .i64 (heldR R)) ∧ w' = w := by
  have HR := aside hR
  have hcnt := hR.cnt
  clear hR
  go_enter Try.func44, Try.ntmps44
  go_wp2
  go_loop [3, 4] (fun s3 s4 => ∃ k : Nat, k ≤ R.length ∧ s3 = .int .i64 ((heldR (R.take k) : Nat) : Int) ∧ s4 = .int .i64 k) (fun _ s4 => R.length - (intOf s4).toNat)
  case atStart => exact ⟨0, Nat.zero_le _, rfl, rfl⟩
  case round =>
    obtain ⟨k, hk, rfl, rfl⟩ := hrel
    by_cases h1 : k < R.length
    · have hkm : R[k]? = some R[k] := List.getElem?_eq_getElem h1
      have hLS := heldR_take hkm
      have hb := HR.out.le R[k] (List.getElem_mem h1)
      have hq1 := heldR_le HR.out k hk
      obtain ⟨blk, off, rfl, hrd⟩ := HR.out.rd (by intro h; simp [h] at h1)
      obtain ⟨r0, r1⟩ := hrd k _ hkm
      clear hrd
      generalize R[k] = m at *
      generalize heldR (R.take k) = q at *
      have t1 : (k : Int) < (R.length : Int) := by omega
      have q2 : q ≤ 1152921504606846976 := by omega
      have HLS := aside hLS
      clear hLS hkm hq1
      go_wp2
      go_round
      case rel => exact ⟨k + 1, by omega, by rw [HLS.out]; go_num, by go_num⟩
      case measure => simp [intOf]; omega
    · obtain rfl : k = R.length := by omega
      have t1 : ¬ ((R.length : Int) < (R.length : Int)) := by omega
      rw [List.take_length]
      go_wp2
      go_ret
      exact ⟨rfl, rfl⟩

theorem heldObj_any (b N : Nat) (a : Option Addr) (c : Nat) (R : List RP) (w : World) (hR : RefAt w b N a c R) :
    Calls Try.prog 34 #[.pointer (some ⟨b, 0, none⟩)] w fun e w' => e = .returned (.int .i64 (heldR R)) ∧ w' = w := by
  have HH := aside (heldRef_any a c R w hR.ps)
  have c0 := hR.list
  clear hR
  go_enter Try.func34, Try.ntmps34
  go_wp2_with fail
  refine HH.out.mono ?_
  rintro e w' ⟨rfl, rfl⟩
  go_wp2
  go_ret
  exact ⟨rfl, rfl⟩

theorem same_any (a1 a2 : Option Addr) (l1 l2 : List UInt8) (c1 c2 : Nat) (w : World) (h1 : BsAt w a1 l1) (h2 : BsAt w a2 l2) :
    Calls Try.prog 28 #[.slice a1 l1.length c1, .slice a2 l2.length c2] w fun e w' => e = .returned (.bool (l1 == l2)) ∧ w' = w := by
  have s1 := str_all w a1 l1 c1 h1
  have s2 := str_all w a2 l2 c2 h2
  clear h1 h2
  go_enter Try.func28, Try.ntmps28
  go_wp2
  go_ret
  exact ⟨rfl, rfl⟩

theorem count_any (n : Int) (w : World) : Calls Try.prog 31 #[.int .i64 n] w fun e w' => e = .returned (.int .i64 (max (-2147483648) (min n 2147483648))) ∧ w' = w := by
  go_enter Try.func31, Try.ntmps31
  by_cases h1 : n ≤ 2147483648
  · by_cases h2 : -2147483648 < n
    · have e : max (-2147483648) (min n 2147483648) = n := by omega
      rw [e]
      go_wp2
      all_goals go_ret
      all_goals exact ⟨by go_num, rfl⟩
    · have e : max (-2147483648) (min n 2147483648) = -2147483648 := by omega
      rw [e]
      go_wp2
      all_goals go_ret
      all_goals exact ⟨by go_num, rfl⟩
  · have e : max (-2147483648) (min n 2147483648) = 2147483648 := by omega
    rw [e]
    go_wp2
    all_goals go_ret
    all_goals exact ⟨by go_num, rfl⟩
end Go.Proofs.Ytkekaljcbmkomaa

namespace Go.Proofs.Ytkekaljcbmkomaa
open Go.RowKit

theorem nextOf_at {R : List RP} {k x N : Nat} {r : RP} (hk : R[k]? = some r) (hno : ∀ j q, j < k → R[j]? = some q → q.at_ + q.bs.length ≤ x) (hx : x < r.at_ + r.bs.length) : nextOf (pls R) N x = (max x r.at_, r.at_ + r.bs.length) := by
  unfold nextOf
  have : (pls R).find? (fun d => decide (x < d.fin)) = some r.pl := by
    rw [List.find?_eq_some_iff_getElem]
    refine ⟨decide_eq_true hx, k, ?_, ?_, ?_⟩
    · have := (List.getElem?_eq_some_iff.1 hk).1; simpa [pls] using this
    · obtain ⟨h1, h2⟩ := List.getElem?_eq_some_iff.1 hk
      simp [pls, h2]
    · intro j hj
      have hl := (List.getElem?_eq_some_iff.1 hk).1
      have := hno j (R[j]'(by omega)) hj (List.getElem?_eq_getElem _)
      simp [pls, Piece.fin, RP.pl]
      omega
  rw [this]
  rfl
theorem nextOf_none {R : List RP} {x N : Nat} (hno : ∀ (j : Nat) (q : RP), R[j]? = some q → q.at_ + q.bs.length ≤ x) : nextOf (pls R) N x = (N, N) := by
  unfold nextOf
  have : (pls R).find? (fun d => decide (x < d.fin)) = none := by
    rw [List.find?_eq_none]
    intro d hd
    obtain ⟨q, hq, rfl⟩ := List.mem_map.1 hd
    obtain ⟨j, hj⟩ := List.mem_iff_getElem?.1 hq
    have h2 : q.pl.fin ≤ x := hno j q hj
    simp only [decide_eq_true_eq, Nat.not_lt]
    exact h2
  rw [this]

set_option maxHeartbeats 2000000 in
theorem nextRef_any (b N : Nat) (a : Option Addr) (c : Nat) (R : List RP) (t : Int) (w : World) (hR : RefAt w b N a c R) (ht : t ≤ 9223372036854775807) :
    Calls Try.prog 33 #[.pointer (some ⟨b, 0, none⟩), .int .i64 t] w fun e w' => e = .returned (.tuple #[.int .i64 ((nextOf (pls R) N t.toNat).1 : Nat), .int .i64 ((nextOf (pls R) N t.toNat).2 : Nat)]) ∧ Below w.heap.size w w' := by
  obtain ⟨x, hx⟩ : ∃ x, x = t.toNat := ⟨_, rfl⟩
  rw [← hx]
  have hmx : max t 0 = (x : Int) := by omega
  have hxb : x ≤ 9223372036854775807 := by omega
  have HMX := aside hmx
  have HR := aside hR
  have hcnt := hR.ps.cnt
  clear hmx hx hR
  go_enter Try.func33, Try.ntmps33
  go_wp2_with ((with_reducible refine wpList_max2 _ rfl _ _ _ rfl t 0 (x : Int) ?_ ?_ HMX.out ?_); rfl; rfl)
  go_loopw [6] (fun s6 wr => ∃ k : Nat, k ≤ R.length ∧ s6 = .int .i64 k ∧ Aside (∀ (j : Nat) (q : RP), j < k → R[j]? = some q → q.at_ + q.bs.length ≤ x) ∧ Aside (Below w.heap.size w wr)) (fun s6 _ => R.length - (intOf s6).toNat)
  case atStart => exact ⟨0, Nat.zero_le _, rfl, fun j q hj => by omega, Below.refl _ _⟩
  case round =>
    obtain ⟨k, hk, rfl, hno, hB⟩ := hrel
    have HRr := aside (HR.out.below hB.out)
    have c0 := HRr.out.list
    have c1 := HRr.out.size
    by_cases h1 : k < R.length
    · have t1 : (k : Int) < (R.length : Int) := by omega
      have hkm : R[k]? = some R[k] := List.getElem?_eq_getElem h1
      have hb := HR.out.ps.le R[k] (List.getElem_mem h1)
      obtain ⟨blk, off, rfl, hrd⟩ := HRr.out.ps.rd (by intro h; simp [h] at h1)
      obtain ⟨r0, r1⟩ := hrd k _ hkm
      clear hrd
      have NA := aside (fun h => nextOf_at (N := N) hkm (fun j q h2 h3 => hno.out j q h2 h3) (x := x) h)
      have NS : Aside (R[k].at_ + R[k].bs.length ≤ x → ∀ (j : Nat) (q : RP), j < k + 1 → R[j]? = some q → q.at_ + q.bs.length ≤ x) := fun h j q h2 h3 => by
        by_cases h4 : j < k
        · exact hno.out j q h4 h3
        · obtain rfl : j = k := by omega
          rw [hkm] at h3
          cases h3
          exact h
      clear hkm
      generalize R[k] = r at *
      have EN := aside (fun W => end_any r.at_ r.bs.length (some ⟨r.blk, r.off, none⟩) r.c W (by omega))
      go_wp2_with fail
      refine (EN.out wr).mono ?_
      rintro e w1 ⟨rfl, hb1⟩
      have HB1 := aside (hB.out.trans (hb1.mono hB.out.size))
      have q0 : ∀ d os, (ext w1 d os).cell? ⟨b, 0, none⟩ = some (.slice (some ⟨blk, off, none⟩) R.length c) := fun d os => ext_cell ((hb1.cell (World.block_lt_of_cell? wr _ c0)).trans c0) d os
      have q1 : ∀ d os, (ext w1 d os).cell? ⟨blk, off + k * 2, none⟩ = some (.int .i64 r.at_) := fun d os => ext_cell ((hb1.cell (World.block_lt_of_cell? wr _ r0)).trans r0) d os
      have q2 : ∀ d os, (ext w1 d os).cell? ⟨blk, off + k * 2 + 1, none⟩ = some (.slice (some ⟨r.blk, r.off, none⟩) r.bs.length r.c) := fun d os => ext_cell ((hb1.cell (World.block_lt_of_cell? wr _ r1)).trans r1) d os
      clear hb1 c0 c1 r0 r1
      by_cases h2 : x < r.at_ + r.bs.length
      · have t2 : (x : Int) < ((r.at_ + r.bs.length : Nat) : Int) := by omega
        have HN := aside (NA.out h2)
        clear h2
        go_wp2_with fail
        refine region_ext (by kernel_rfl) (by kernel_rfl) ?_
        repeat (any_goals (first | go_big_quiet_step ((go_at_call 43; exact calls_ext (EN.out _))) | quiet_step ((go_at_call 43; exact calls_ext (EN.out _)))))
        refine wpQuiet_nil ?_
        intro w3 hb3
        have HB3 := aside (HB1.out.trans (hb3.mono HB1.out.size))
        clear hb3
        go_wp2
        all_goals
          go_ret2
          refine ⟨?_, HB3.out⟩
          rw [HN.out]
          exact ret_pair (by omega) (by omega)
      · have t2 : ¬ ((x : Int) < ((r.at_ + r.bs.length : Nat) : Int)) := by omega
        have HN := aside (NS.out (by omega))
        clear h2
        go_wp2
        go_round
        case rel => exact ⟨k + 1, by omega, by go_num, HN, HB1⟩
        case measure => simp [intOf]; omega
    · obtain rfl : k = R.length := by omega
      have t1 : ¬ ((R.length : Int) < (R.length : Int)) := by omega
      have q0 : ∀ d os, (ext wr d os).cell? ⟨b, 1, none⟩ = some (.int .i64 N) := fun d os => ext_cell c1 d os
      have HN := aside (nextOf_none (N := N) (x := x) (R := R) fun j q h => hno.out j q (List.getElem?_eq_some_iff.1 h).1 h)
      go_wp2
      refine region_ext (by kernel_rfl) (by kernel_rfl) ?_
      repeat (any_goals (first | go_big_quiet_step ((fail)) | quiet_step ((fail))))
      refine wpQuiet_nil ?_
      intro w3 hb3
      have HB3 := aside (hB.out.trans (hb3.mono hB.out.size))
      clear hb3
      go_wp2
      go_ret2
      rw [HN.out]
      exact ⟨rfl, HB3.out⟩
end Go.Proofs.Ytkekaljcbmkomaa

namespace Go.Proofs.Ytkekaljcbmkomaa

/-- What is left of a piece without the places from x up to y. -/
def cutP (x y : Nat) (d : Piece) : List Piece :=
  if d.fin ≤ x ∨ y ≤ d.org then [d] else (if d.org < x then [⟨d.org, d.blk, d.cap, d.bs.take (x - d.org)⟩] else []) ++ (if y < d.fin then [⟨y, d.blk, d.cap, d.bs.drop (y - d.org)⟩] else [])
def takenP (x y : Nat) (L : List Piece) : List Piece := L.flatMap (cutP x y)

theorem cutP_mem {x y : Nat} {d n : Piece} (hd : 0 < d.bs.length) (h : n ∈ cutP x y d) :
    d.org ≤ n.org ∧ n.fin ≤ d.fin ∧ 0 < n.bs.length ∧ (n.fin ≤ x ∨ y ≤ n.org) ∧ ∀ p, n.org ≤ p → p < n.fin → n.bs.getD (p - n.org) 0 = d.bs.getD (p - d.org) 0 := by
  unfold cutP at h
  split at h
  · rename_i h1
    rw [List.mem_singleton] at h
    subst h
    exact ⟨Nat.le_refl _, Nat.le_refl _, hd, h1, fun _ _ _ => rfl⟩
  · rename_i h1
    have hf : d.fin = d.org + d.bs.length := rfl
    rcases List.mem_append.1 h with h | h
    · split at h
      · rename_i h2
        rw [List.mem_singleton] at h
        subst h
        simp only [Piece.fin, List.length_take]
        refine ⟨Nat.le_refl _, by omega, by omega, .inl (by omega), fun p h3 h4 => ?_⟩
        simp only [List.getD_eq_getElem?_getD]
        rw [List.getElem?_take, if_pos (by omega)]
      · simp at h
    · split at h
      · rename_i h2
        rw [List.mem_singleton] at h
        subst h
        simp only [Piece.fin, List.length_drop]
        refine ⟨by omega, by omega, by omega, .inr (Nat.le_refl _), fun p h3 h4 => ?_⟩
        simp only [List.getD_eq_getElem?_getD]
        rw [List.getElem?_drop, show y - d.org + (p - y) = p - d.org by omega]
      · simp at h

theorem cutP_cover {x y : Nat} {d : Piece} {p : Nat} (h1 : d.org ≤ p) (h2 : p < d.fin) (h3 : ¬ (x ≤ p ∧ p < y)) : ∃ n, n ∈ cutP x y d ∧ n.org ≤ p ∧ p < n.fin := by
  have hf : d.fin = d.org + d.bs.length := rfl
  unfold cutP
  split
  · exact ⟨d, by simp, h1, h2⟩
  · rename_i h4
    by_cases h5 : p < x
    · refine ⟨⟨d.org, d.blk, d.cap, d.bs.take (x - d.org)⟩, List.mem_append_left _ (by rw [if_pos (by omega)]; exact List.mem_singleton_self _), h1, ?_⟩
      simp only [Piece.fin, List.length_take]
      omega
    · refine ⟨⟨y, d.blk, d.cap, d.bs.drop (y - d.org)⟩, List.mem_append_right _ (by rw [if_pos (by omega)]; exact List.mem_singleton_self _), by simp only; omega, ?_⟩
      simp only [Piece.fin, List.length_drop]
      omega

theorem cutP_sep {x y : Nat} (hxy : x < y) (d : Piece) : (cutP x y d).Pairwise (fun a b => a.fin < b.org) := by
  have hf : d.fin = d.org + d.bs.length := rfl
  unfold cutP
  split
  · simp
  · split <;> split <;> simp [Piece.fin] <;> omega

theorem cutP_held {x y : Nat} (hxy : x < y) (d : Piece) : heldOf (cutP x y d) + ovl x y d = d.bs.length := by
  have hf : d.fin = d.org + d.bs.length := rfl
  unfold cutP ovl
  split
  · simp [heldOf]; omega
  · split <;> split <;> simp [heldOf] <;> omega

theorem cutP_one {x y : Nat} {d : Piece} (h : y ≤ d.org) : cutP x y d = [d] := by unfold cutP; rw [if_pos (.inr h)]
theorem cutP_len (x y : Nat) (d : Piece) : (cutP x y d).length ≤ 1 ∨ ((cutP x y d).length = 2 ∧ y < d.fin) := by
  unfold cutP
  split
  · simp
  · split <;> split <;> simp_all

theorem takenP_id {x y : Nat} : ∀ {L : List Piece}, (∀ d, d ∈ L → y ≤ d.org) → takenP x y L = L
  | [], _ => rfl
  | d :: L, h => by
    unfold takenP
    rw [List.flatMap_cons, cutP_one (h d (by simp))]
    have := takenP_id (x := x) (y := y) (L := L) fun e he => h e (by simp [he])
    unfold takenP at this
    rw [this]; rfl

theorem takenP_len {x y : Nat} : ∀ {L : List Piece}, L.Pairwise (fun a b => a.fin < b.org) → (takenP x y L).length ≤ L.length + 1
  | [], _ => by simp [takenP]
  | d :: L, hs => by
    have hs' := List.pairwise_cons.1 hs
    have e : takenP x y (d :: L) = cutP x y d ++ takenP x y L := rfl
    rw [e, List.length_append, List.length_cons]
    rcases cutP_len x y d with h | ⟨h, h2⟩
    · have := takenP_len (x := x) (y := y) hs'.2
      omega
    · rw [takenP_id fun e he => by have := hs'.1 e he; omega]
      omega

theorem takenP_held {x y : Nat} (hxy : x < y) : ∀ (L : List Piece), heldOf (takenP x y L) + ovls x y L = heldOf L
  | [] => rfl
  | d :: L => by
    have e : takenP x y (d :: L) = cutP x y d ++ takenP x y L := rfl
    have h1 := cutP_held hxy d
    have h2 := takenP_held hxy L
    rw [e, heldOf_append, ovls_cons, heldOf_cons]
    omega

theorem taken_erased {L : List Piece} {x y : Nat} (hs : L.Pairwise (fun a b => a.fin < b.org)) (hne : ∀ d, d ∈ L → 0 < d.bs.length) (hxy : x < y) : Erased L (takenP x y L) x y := by
  have := erased_of (A := []) (M := L) (B := []) (N := takenP x y L) (x := x) (y := y) (by simpa using hs) (by simpa using hne) (by simp) (by simp) hxy ?_ ?_ ?_ ?_ (takenP_held hxy L) (takenP_len hs)
  · simpa using this
  · unfold takenP
    rw [List.pairwise_flatMap]
    refine ⟨fun d _ => cutP_sep hxy d, hs.imp_of_mem fun {a b} ha hb hab m hm n hn => ?_⟩
    have h1 := cutP_mem (hne a ha) hm
    have h2 := cutP_mem (hne b hb) hn
    omega
  · intro n hn
    obtain ⟨d, hd, hm⟩ := List.mem_flatMap.1 hn
    exact (cutP_mem (hne d hd) hm).2.2.1
  · intro n hn
    obtain ⟨d, hd, hm⟩ := List.mem_flatMap.1 hn
    obtain ⟨h1, h2, -, h3, h4⟩ := cutP_mem (hne d hd) hm
    exact ⟨d, hd, h1, h2, h3, h4⟩
  · intro d hd p h1 h2 h3
    obtain ⟨n, hn, h4⟩ := cutP_cover h1 h2 h3
    exact ⟨n, List.mem_flatMap.2 ⟨d, hd, hn⟩, h4⟩
end Go.Proofs.Ytkekaljcbmkomaa

namespace Go.Proofs.Ytkekaljcbmkomaa
open Go.RowKit

theorem info59 : (Try.prog.info? 59).map (fun i => (i.zero, i.size, i.bytes)) = some (some (.agg #[.int .i64 0, .slice none 0 0]), 2, 32) := by kernel_rfl

/-- What is left of a piece in memory: the same bytes where they lie. -/
def cutR (x y : Nat) (r : RP) : List RP :=
  if r.at_ + r.bs.length ≤ x ∨ y ≤ r.at_ then [r] else (if r.at_ < x then [⟨r.at_, r.blk, r.off, r.c, r.bs.take (x - r.at_)⟩] else []) ++ (if y < r.at_ + r.bs.length then [⟨y, r.blk, r.off + (y - r.at_), r.c - (y - r.at_), r.bs.drop (y - r.at_)⟩] else [])
def takenR (x y : Nat) (R : List RP) : List RP := R.flatMap (cutR x y)
theorem cutR_pls (x y : Nat) (r : RP) : pls (cutR x y r) = cutP x y r.pl := by
  unfold cutR cutP pls
  show List.map RP.pl _ = if r.at_ + r.bs.length ≤ x ∨ y ≤ r.at_ then _ else _
  split
  · rfl
  · rw [List.map_append]
    congr 1
    · show _ = if r.at_ < x then _ else _
      split <;> rfl
    · show _ = if y < r.at_ + r.bs.length then _ else _
      split <;> rfl
theorem takenR_pls (x y : Nat) (R : List RP) : pls (takenR x y R) = takenP x y (pls R) := by
  induction R with
  | nil => rfl
  | cons r R ih =>
    have e1 : takenR x y (r :: R) = cutR x y r ++ takenR x y R := rfl
    have e2 : takenP x y (pls (r :: R)) = cutP x y r.pl ++ takenP x y (pls R) := rfl
    have e3 : pls (cutR x y r ++ takenR x y R) = pls (cutR x y r) ++ pls (takenR x y R) := by unfold pls; rw [List.map_append]
    rw [e1, e2, e3, cutR_pls, ih]
theorem takenR_take {x y : Nat} {R : List RP} {k : Nat} {r : RP} (h : R[k]? = some r) : takenR x y (R.take (k + 1)) = takenR x y (R.take k) ++ cutR x y r := by
  unfold takenR
  rw [List.take_add_one, h, List.flatMap_append]
  simp
theorem cutR_len (x y : Nat) (r : RP) : (cutR x y r).length ≤ 2 := by
  unfold cutR
  split
  · simp
  · split <;> split <;> simp
theorem takenR_len (x y : Nat) : ∀ R : List RP, (takenR x y R).length ≤ 2 * R.length
  | [] => by simp [takenR]
  | r :: R => by
    have e1 : takenR x y (r :: R) = cutR x y r ++ takenR x y R := rfl
    have := cutR_len x y r
    have := takenR_len x y R
    rw [e1, List.length_append, List.length_cons]
    omega
theorem rcells_one (R : List RP) : ∀ u ∈ rcells R, u.oneCell' = true := by
  intro u hu
  obtain ⟨r, -, hr⟩ := List.mem_flatMap.1 hu
  simp only [List.mem_cons, List.not_mem_nil, or_false] at hr
  rcases hr with rfl | rfl <;> rfl

theorem new_cells (w : World) (l : List Value) (t : TypeId) (j : Nat) (u : Value) (h : l[j]? = some u) : (w.alloc (.cells l.toArray t)).cell? (Addr.add ⟨w.heap.size, 0, none⟩ j) = some u := by
  have ea : Addr.add ⟨w.heap.size, 0, none⟩ j = ⟨w.heap.size, j, none⟩ := by
    unfold Addr.add
    split
    · rename_i hk; rw [hk]
    · simp only [Nat.zero_add]
  rw [ea, cell_of_row _ _ _ _ _ _ (heap_alloc_new w _)]
  simpa using h

/-- What a round leaves: the row has grown by some pieces. -/
theorem taken_round {w W w2 : World} {v v' : Value} {n m : Nat} {T U : List RP} (hO : W.ownsRow w.heap.size 59 2 v n (rcells T)) (hB : Below w.heap.size w W) (ho : w2.ownsRow w.heap.size 59 2 v' (n + m) (rcells T ++ rcells U)) (hg : W.grownBy w2 v.ownBlock) (hn : n = T.length) (hm : m = U.length) :
    w2.ownsRow w.heap.size 59 2 v' (T ++ U).length (rcells (T ++ U)) ∧ Below w.heap.size w w2 :=
  ⟨by rw [List.length_append, ← hn, ← hm, rcells_append]; exact ho, hB.grown hg hB.size (fun k hk => (hO.lt k hk).1)⟩

theorem app_facts {w W : World} {v : Value} {T : List RP} (hO : W.ownsRow w.heap.size 59 2 v T.length (rcells T)) (hB : Below w.heap.size w W) (q : RP) :
    (W.alloc (.cells #[.int .i64 q.at_, .slice (some ⟨q.blk, q.off, none⟩) q.bs.length q.c] 59)).ownsRow w.heap.size 59 2 v T.length (rcells T) ∧ (∀ j u, (rcells [q])[j]? = some u → (W.alloc (.cells #[.int .i64 q.at_, .slice (some ⟨q.blk, q.off, none⟩) q.bs.length q.c] 59)).cell? (Addr.add ⟨W.heap.size, 0, none⟩ j) = some u) ∧ w.heap.size ≤ (W.alloc (.cells #[.int .i64 q.at_, .slice (some ⟨q.blk, q.off, none⟩) q.bs.length q.c] 59)).heap.size ∧
      ∀ v' w2, w2.ownsRow w.heap.size 59 2 v' (T.length + 1) (rcells T ++ rcells [q]) → (W.alloc (.cells #[.int .i64 q.at_, .slice (some ⟨q.blk, q.off, none⟩) q.bs.length q.c] 59)).grownBy w2 v.ownBlock → (w2.ownsRow w.heap.size 59 2 v' (T ++ [q]).length (rcells (T ++ [q])) ∧ Below w.heap.size w w2) ∧
        ∀ p u, W.cell? p = some u → some p.block ≠ v.ownBlock → w2.cell? p = some u := by
  have hal := below_al W (.cells #[.int .i64 q.at_, .slice (some ⟨q.blk, q.off, none⟩) q.bs.length q.c] 59)
  have hBa := hB.trans (hal.mono hB.size)
  exact ⟨row_below hO hal, new_cells W (rcells [q]) 59, hBa.size, fun v' w2 ho hg => ⟨taken_round (row_below hO hal) hBa ho hg rfl rfl, fun p u hp hne => hg.cell ((hal.cell (World.block_lt_of_cell? W _ hp)).trans hp) hne⟩⟩

theorem step_append_own {ops : Array Oper} {o : Oper} {a : Act} {w : World} {K : Act → World → Prop} {Q : Exit → Act → World → Prop} {E : Prop} (hgd : o.guard = none) (s x : Operand) (t : TypeId)
    (ho : o.op = .call { callee := .builtin .append, args := #[s, x], argTypes := #[t, t] })
    (base : Nat) (e : TypeId) (i : TypeInfo) (z : Value) (size bytes : Nat) (ht : Try.prog.underlying t = some (.slice e)) (hi : Try.prog.info? e = some i) (hz : i.zero = some z)
    (hsize : i.size = size) (hby : i.bytes = bytes) (hzs : z.cells.size = size) (hsz : 0 < size)
    (v : Value) (n : Nat) (xs : List Value) (hs : a.eval s = v) (hown : w.ownsRow base e size v n xs)
    (ad : Addr) (m c : Nat) (news : List Value) (hx : a.eval x = .slice (some ad) m c) (hl : news.length = m * size) (hnews : ∀ j u, news[j]? = some u → w.cell? (ad.add j) = some u) (h1 : ∀ u ∈ news, u.oneCell' = true)
    (h63 : n + m ≤ maxLen) (hbytes : (n + m) * bytes ≤ 140737488355328) (hbase : base ≤ w.heap.size)
    (h : ∀ v' w', w'.ownsRow base e size v' (n + m) (xs ++ news) → w.grownBy w' v.ownBlock → (v' = .slice none 0 0 ↔ v = .slice none 0 0 ∧ m = 0) → K (a.put o.dst v') w') :
    if Region.wanted o (yielded ops a.tmps) = true then Oper.wp Try.prog o a w K Q else E := by
  rw [if_pos (by simp [Region.wanted, hgd])]
  exact wp_append_own w s x t ho base e i z size bytes ht hi hz hsize hby hzs hsz v n xs hs hown ad m c news hx hl hnews h1 h63 hbytes hbase h
end Go.Proofs.Ytkekaljcbmkomaa
