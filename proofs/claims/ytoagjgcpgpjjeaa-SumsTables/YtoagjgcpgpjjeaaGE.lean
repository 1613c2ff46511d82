/- Merged: RefBase, RefPlain, RefRow, RefTaken, RefApp, RefLayP, RefObj, RefLayEnd, RefLay, RefCalls, RefGet, RefTwin, RefNext, Same, MovedBase, App1, Half, NewW. -/
import Derived.Test.YtoagjgcpgpjjeaaGD
import Derived.Laws.AppendOwn
import Derived.Deep.RegionHeld3
namespace Go.Proofs.Ytoagjgcpgpjjeaa
open Go.RowKit
attribute [local simp] lcells_nil readB_length bcells_length

/-- A piece as it lies in memory: its bytes lie anywhere, from an offset on. -/
structure RP where
  at_ : Nat
  blk : Nat
  off : Nat
  c : Nat
  bs : List UInt8
/-- .. without its memory. -/
def RP.pl (r : RP) : Piece := { org := r.at_, blk := 0, cap := 0, bs := r.bs }
def pls (R : List RP) : List Piece := R.map RP.pl

def RdP (w : World) (blk off : Nat) (R : List RP) : Prop := ∀ (j : Nat) (r : RP), R[j]? = some r → w.cell? ⟨blk, off + j * 2, none⟩ = some (.int .i64 r.at_) ∧ w.cell? ⟨blk, off + j * 2 + 1, none⟩ = some (.slice (some ⟨r.blk, r.off, none⟩) r.bs.length r.c)
/-- A list of pieces. -/
structure PsAt (w : World) (a : Option Addr) (R : List RP) : Prop where
  rd : R ≠ [] → ∃ blk off, a = some ⟨blk, off, none⟩ ∧ RdP w blk off R
  bs : ∀ r, r ∈ R → BsAt w (some ⟨r.blk, r.off, none⟩) r.bs
  cp : ∀ r, r ∈ R → 0 < r.bs.length ∧ r.bs.length ≤ r.c
  le : ∀ r, r ∈ R → r.at_ + r.bs.length ≤ 1073741824
  cnt : R.length ≤ 1073741824
theorem RdP.below {w w' : World} {blk off : Nat} {R : List RP} (h : RdP w blk off R) (hb : Below w.heap.size w w') : RdP w' blk off R := fun j m hj => by
  obtain ⟨h0, h1⟩ := h j m hj
  have hlt := World.block_lt_of_cell? w _ h0
  exact ⟨(hb.cell hlt).trans h0, (hb.cell (p := ⟨blk, off + j * 2 + 1, none⟩) hlt).trans h1⟩
theorem PsAt.below {w w' : World} {a : Option Addr} {R : List RP} (h : PsAt w a R) (hb : Below w.heap.size w w') : PsAt w' a R := by
  refine ⟨fun hne => ?_, fun m hm => (h.bs m hm).below hb, h.cp, h.le, h.cnt⟩
  obtain ⟨blk, off, rfl, hr⟩ := h.rd hne
  exact ⟨blk, off, rfl, hr.below hb⟩

/-- The cells of some pieces. -/
def rcells (R : List RP) : List Value := R.flatMap fun r => [.int .i64 r.at_, .slice (some ⟨r.blk, r.off, none⟩) r.bs.length r.c]
theorem rcells_length (R : List RP) : (rcells R).length = R.length * 2 := by
  induction R with
  | nil => rfl
  | cons r R ih =>
    have e : rcells (r :: R) = [.int .i64 (r.at_ : Int), .slice (some ⟨r.blk, r.off, none⟩) r.bs.length r.c] ++ rcells R := rfl
    rw [e, List.length_append, ih, List.length_cons]
    simp only [List.length_cons, List.length_nil]
    omega
theorem rcells_append (R T : List RP) : rcells (R ++ T) = rcells R ++ rcells T := by unfold rcells; rw [List.flatMap_append]
theorem rcells_get : ∀ (R : List RP) (j : Nat) (r : RP), R[j]? = some r → (rcells R)[j * 2]? = some (.int .i64 r.at_) ∧ (rcells R)[j * 2 + 1]? = some (.slice (some ⟨r.blk, r.off, none⟩) r.bs.length r.c)
  | [], j, r, h => by simp at h
  | q :: R, 0, r, h => by
    obtain rfl : q = r := by simpa using h
    exact ⟨rfl, rfl⟩
  | q :: R, j + 1, r, h => by
    have := rcells_get R j r (by simpa using h)
    have e : rcells (q :: R) = [.int .i64 (q.at_ : Int), .slice (some ⟨q.blk, q.off, none⟩) q.bs.length q.c] ++ rcells R := rfl
    rw [e, List.getElem?_append_right (by simp only [List.length_cons, List.length_nil]; omega), List.getElem?_append_right (by simp only [List.length_cons, List.length_nil]; omega)]
    simp only [List.length_cons, List.length_nil]
    rw [show (j + 1) * 2 - (0 + 1 + 1) = j * 2 by omega, show (j + 1) * 2 + 1 - (0 + 1 + 1) = j * 2 + 1 by omega]
    exact this
/-- A row of its own that holds these cells is such a list. -/
theorem psAt_of_row {w : World} {base : Nat} {v : Value} {R : List RP} (h : w.ownsRow base 123 2 v R.length (rcells R)) (hb : ∀ r, r ∈ R → BsAt w (some ⟨r.blk, r.off, none⟩) r.bs) (hc : ∀ r, r ∈ R → 0 < r.bs.length ∧ r.bs.length ≤ r.c) (hl : ∀ r, r ∈ R → r.at_ + r.bs.length ≤ 1073741824) (hn : R.length ≤ 1073741824) {a : Option Addr} {c : Nat} (hv : v = .slice a R.length c) (ha : R ≠ [] → ∃ g, a = some ⟨g, 0, none⟩) : PsAt w a R := by
  refine ⟨fun hne => ?_, hb, hc, hl, hn⟩
  obtain ⟨g, rfl⟩ := ha hne
  refine ⟨g, 0, rfl, fun j r hj => ?_⟩
  obtain ⟨h1, h2⟩ := rcells_get R j r hj
  subst hv
  have k1 := h.cells rfl (j * 2) _ h1
  have k2 := h.cells rfl (j * 2 + 1) _ h2
  have ea : ∀ k : Nat, Addr.add ⟨g, 0, none⟩ k = ⟨g, k, none⟩ := fun k => by
    unfold Addr.add
    split
    · rename_i hk; rw [hk]
    · simp only [Nat.zero_add]
  rw [ea] at k1 k2
  rw [Nat.zero_add]
  exact ⟨k1, k2⟩

/-- The object: its list and its size. -/
structure RefAt (w : World) (b N : Nat) (a : Option Addr) (c : Nat) (R : List RP) : Prop where
  list : w.cell? ⟨b, 0, none⟩ = some (.slice a R.length c)
  size : w.cell? ⟨b, 1, none⟩ = some (.int .i64 N)
  ps : PsAt w a R
theorem RefAt.below {w w' : World} {b N : Nat} {a : Option Addr} {c : Nat} {R : List RP} (h : RefAt w b N a c R) (hb : Below w.heap.size w w') : RefAt w' b N a c R :=
  ⟨(hb.cell (World.block_lt_of_cell? w _ h.list)).trans h.list, (hb.cell (World.block_lt_of_cell? w _ h.size)).trans h.size, h.ps.below hb⟩

theorem end_any (x n : Nat) (a : Option Addr) (c : Nat) (w : World) (h : x + n ≤ 4611686018427387904) :
    Calls Try.prog 59 #[.agg #[.int .i64 x, .slice a n c]] w fun e w' => e = .returned (.int .i64 ((x + n : Nat) : Int)) ∧ Below w.heap.size w w' := by
  have B := aside (below_al w (.cells #[.int .i64 x, .slice a n c] 123))
  go_enter Try.func59, Try.ntmps59
  go_wp2
  go_ret
  exact ⟨by go_num, B.out⟩

def heldR (R : List RP) : Nat := heldOf (pls R)
theorem heldR_take {R : List RP} {k : Nat} {r : RP} (h : R[k]? = some r) : heldR (R.take (k + 1)) = heldR (R.take k) + r.bs.length := by
  unfold heldR heldOf pls
  rw [List.take_add_one, h]
  simp [RP.pl]
theorem heldR_le {w : World} {a : Option Addr} {R : List RP} (h : PsAt w a R) (k : Nat) (hk : k ≤ R.length) : heldR (R.take k) ≤ k * 1073741824 := by
  induction k with
  | zero => simp [heldR, heldOf, pls]
  | succ k ih =>
    have hkm : R[k]? = some R[k] := List.getElem?_eq_getElem (by omega)
    rw [heldR_take hkm]
    have := h.le R[k] (List.getElem_mem (by omega))
    have := ih (by omega)
    omega

set_option maxHeartbeats 1000000 in
theorem heldRef_any (a : Option Addr) (c : Nat) (R : List RP) (w : World) (hR : PsAt w a R) :
    Calls Try.prog 45 #[.slice a R.length c] w fun e w' => e = .returned (.int .i64 (heldR R)) ∧ w' = w := by
  have HR := aside hR
  have hcnt := hR.cnt
  clear hR
  go_enter Try.func45, Try.ntmps45
  go_wp2
  go_loop [3, 4] (fun s3 s4 => ∃ k : Nat, k ≤ R.length ∧ s3 = .int .i64 ((heldR (R.take k) : Nat) : Int) ∧ s4 = .int .i64 k) (fun _ s4 => R.length - (intOf s4).toNat)
  case atStart => exact ⟨0, Nat.zero_le _, rfl, rfl⟩
  case round =>
    obtain ⟨k, hk, rfl, rfl⟩ := hrel
    by_cases h1 : k < R.length
    · have hkm : R[k]? = some R[k] := List.getElem?_eq_getElem h1
      have hLS := heldR_take hkm
      have hb := HR.out.le R[k] (List.getElem_mem h1)
      have hq1 := heldR_le HR.out k hk
      obtain ⟨blk, off, rfl, hrd⟩ := HR.out.rd (by intro h; simp [h] at h1)
      obtain ⟨r0, r1⟩ := hrd k _ hkm
      clear hrd
      generalize R[k] = m at *
      generalize heldR (R.take k) = q at *
      have t1 : (k : Int) < (R.length : Int) := by omega
      have q2 : q ≤ 1152921504606846976 := by omega
      have HLS := aside hLS
      clear hLS hkm hq1
      go_wp2
      go_round
      case rel => exact ⟨k + 1, by omega, by rw [HLS.out]; go_num, by go_num⟩
      case measure => simp [intOf]; omega
    · obtain rfl : k = R.length := by omega
      have t1 : ¬ ((R.length : Int) < (R.length : Int)) := by omega
      rw [List.take_length]
      go_wp2
      go_ret
      exact ⟨rfl, rfl⟩

theorem heldObj_any (b N : Nat) (a : Option Addr) (c : Nat) (R : List RP) (w : World) (hR : RefAt w b N a c R) :
    Calls Try.prog 52 #[.pointer (some ⟨b, 0, none⟩)] w fun e w' => e = .returned (.int .i64 (heldR R)) ∧ w' = w := by
  have HH := aside (heldRef_any a c R w hR.ps)
  have c0 := hR.list
  clear hR
  go_enter Try.func52, Try.ntmps52
  go_wp2_with fail
  refine HH.out.mono ?_
  rintro e w' ⟨rfl, rfl⟩
  go_wp2
  go_ret
  exact ⟨rfl, rfl⟩

theorem same_any (a1 a2 : Option Addr) (l1 l2 : List UInt8) (c1 c2 : Nat) (w : World) (h1 : BsAt w a1 l1) (h2 : BsAt w a2 l2) :
    Calls Try.prog 55 #[.slice a1 l1.length c1, .slice a2 l2.length c2] w fun e w' => e = .returned (.bool (l1 == l2)) ∧ w' = w := by
  have s1 := str_all w a1 l1 c1 h1
  have s2 := str_all w a2 l2 c2 h2
  clear h1 h2
  go_enter Try.func55, Try.ntmps55
  go_wp2
  go_ret
  exact ⟨rfl, rfl⟩


end Go.Proofs.Ytoagjgcpgpjjeaa

namespace Go.Proofs.Ytoagjgcpgpjjeaa

/-- What is left of a piece without the places from x up to y. -/
def cutP (x y : Nat) (d : Piece) : List Piece :=
  if d.fin ≤ x ∨ y ≤ d.org then [d] else (if d.org < x then [⟨d.org, d.blk, d.cap, d.bs.take (x - d.org)⟩] else []) ++ (if y < d.fin then [⟨y, d.blk, d.cap, d.bs.drop (y - d.org)⟩] else [])
def takenP (x y : Nat) (L : List Piece) : List Piece := L.flatMap (cutP x y)

theorem cutP_mem {x y : Nat} {d n : Piece} (hd : 0 < d.bs.length) (h : n ∈ cutP x y d) :
    d.org ≤ n.org ∧ n.fin ≤ d.fin ∧ 0 < n.bs.length ∧ (n.fin ≤ x ∨ y ≤ n.org) ∧ ∀ p, n.org ≤ p → p < n.fin → n.bs.getD (p - n.org) 0 = d.bs.getD (p - d.org) 0 := by
  unfold cutP at h
  split at h
  · rename_i h1
    rw [List.mem_singleton] at h
    subst h
    exact ⟨Nat.le_refl _, Nat.le_refl _, hd, h1, fun _ _ _ => rfl⟩
  · rename_i h1
    have hf : d.fin = d.org + d.bs.length := rfl
    rcases List.mem_append.1 h with h | h
    · split at h
      · rename_i h2
        rw [List.mem_singleton] at h
        subst h
        simp only [Piece.fin, List.length_take]
        refine ⟨Nat.le_refl _, by omega, by omega, .inl (by omega), fun p h3 h4 => ?_⟩
        simp only [List.getD_eq_getElem?_getD]
        rw [List.getElem?_take, if_pos (by omega)]
      · simp at h
    · split at h
      · rename_i h2
        rw [List.mem_singleton] at h
        subst h
        simp only [Piece.fin, List.length_drop]
        refine ⟨by omega, by omega, by omega, .inr (Nat.le_refl _), fun p h3 h4 => ?_⟩
        simp only [List.getD_eq_getElem?_getD]
        rw [List.getElem?_drop, show y - d.org + (p - y) = p - d.org by omega]
      · simp at h

theorem cutP_cover {x y : Nat} {d : Piece} {p : Nat} (h1 : d.org ≤ p) (h2 : p < d.fin) (h3 : ¬ (x ≤ p ∧ p < y)) : ∃ n, n ∈ cutP x y d ∧ n.org ≤ p ∧ p < n.fin := by
  have hf : d.fin = d.org + d.bs.length := rfl
  unfold cutP
  split
  · exact ⟨d, by simp, h1, h2⟩
  · rename_i h4
    by_cases h5 : p < x
    · refine ⟨⟨d.org, d.blk, d.cap, d.bs.take (x - d.org)⟩, List.mem_append_left _ (by rw [if_pos (by omega)]; exact List.mem_singleton_self _), h1, ?_⟩
      simp only [Piece.fin, List.length_take]
      omega
    · refine ⟨⟨y, d.blk, d.cap, d.bs.drop (y - d.org)⟩, List.mem_append_right _ (by rw [if_pos (by omega)]; exact List.mem_singleton_self _), by simp only; omega, ?_⟩
      simp only [Piece.fin, List.length_drop]
      omega

theorem cutP_sep {x y : Nat} (hxy : x < y) (d : Piece) : (cutP x y d).Pairwise (fun a b => a.fin < b.org) := by
  have hf : d.fin = d.org + d.bs.length := rfl
  unfold cutP
  split
  · simp
  · split <;> split <;> simp [Piece.fin] <;> omega

theorem cutP_held {x y : Nat} (hxy : x < y) (d : Piece) : heldOf (cutP x y d) + ovl x y d = d.bs.length := by
  have hf : d.fin = d.org + d.bs.length := rfl
  unfold cutP ovl
  split
  · simp [heldOf]; omega
  · split <;> split <;> simp [heldOf] <;> omega

theorem cutP_one {x y : Nat} {d : Piece} (h : y ≤ d.org) : cutP x y d = [d] := by unfold cutP; rw [if_pos (.inr h)]
theorem cutP_len (x y : Nat) (d : Piece) : (cutP x y d).length ≤ 1 ∨ ((cutP x y d).length = 2 ∧ y < d.fin) := by
  unfold cutP
  split
  · simp
  · split <;> split <;> simp_all

theorem takenP_id {x y : Nat} : ∀ {L : List Piece}, (∀ d, d ∈ L → y ≤ d.org) → takenP x y L = L
  | [], _ => rfl
  | d :: L, h => by
    unfold takenP
    rw [List.flatMap_cons, cutP_one (h d (by simp))]
    have := takenP_id (x := x) (y := y) (L := L) fun e he => h e (by simp [he])
    unfold takenP at this
    rw [this]; rfl

theorem takenP_len {x y : Nat} : ∀ {L : List Piece}, L.Pairwise (fun a b => a.fin < b.org) → (takenP x y L).length ≤ L.length + 1
  | [], _ => by simp [takenP]
  | d :: L, hs => by
    have hs' := List.pairwise_cons.1 hs
    have e : takenP x y (d :: L) = cutP x y d ++ takenP x y L := rfl
    rw [e, List.length_append, List.length_cons]
    rcases cutP_len x y d with h | ⟨h, h2⟩
    · have := takenP_len (x := x) (y := y) hs'.2
      omega
    · rw [takenP_id fun e he => by have := hs'.1 e he; omega]
      omega

theorem takenP_held {x y : Nat} (hxy : x < y) : ∀ (L : List Piece), heldOf (takenP x y L) + ovls x y L = heldOf L
  | [] => rfl
  | d :: L => by
    have e : takenP x y (d :: L) = cutP x y d ++ takenP x y L := rfl
    have h1 := cutP_held hxy d
    have h2 := takenP_held hxy L
    rw [e, heldOf_append, ovls_cons, heldOf_cons]
    omega

theorem taken_erased {L : List Piece} {x y : Nat} (hs : L.Pairwise (fun a b => a.fin < b.org)) (hne : ∀ d, d ∈ L → 0 < d.bs.length) (hxy : x < y) : Erased L (takenP x y L) x y := by
  have := erased_of (A := []) (M := L) (B := []) (N := takenP x y L) (x := x) (y := y) (by simpa using hs) (by simpa using hne) (by simp) (by simp) hxy ?_ ?_ ?_ ?_ (takenP_held hxy L) (takenP_len hs)
  · simpa using this
  · unfold takenP
    rw [List.pairwise_flatMap]
    refine ⟨fun d _ => cutP_sep hxy d, hs.imp_of_mem fun {a b} ha hb hab m hm n hn => ?_⟩
    have h1 := cutP_mem (hne a ha) hm
    have h2 := cutP_mem (hne b hb) hn
    omega
  · intro n hn
    obtain ⟨d, hd, hm⟩ := List.mem_flatMap.1 hn
    exact (cutP_mem (hne d hd) hm).2.2.1
  · intro n hn
    obtain ⟨d, hd, hm⟩ := List.mem_flatMap.1 hn
    obtain ⟨h1, h2, -, h3, h4⟩ := cutP_mem (hne d hd) hm
    exact ⟨d, hd, h1, h2, h3, h4⟩
  · intro d hd p h1 h2 h3
    obtain ⟨n, hn, h4⟩ := cutP_cover h1 h2 h3
    exact ⟨n, List.mem_flatMap.2 ⟨d, hd, hn⟩, h4⟩
end Go.Proofs.Ytoagjgcpgpjjeaa

namespace Go.Proofs.Ytoagjgcpgpjjeaa
open Go.RowKit

theorem info59 : (Try.prog.info? 123).map (fun i => (i.zero, i.size, i.bytes)) = some (some (.agg #[.int .i64 0, .slice none 0 0]), 2, 32) := by kernel_rfl

/-- What is left of a piece in memory: the same bytes where they lie. -/
def cutR (x y : Nat) (r : RP) : List RP :=
  if r.at_ + r.bs.length ≤ x ∨ y ≤ r.at_ then [r] else (if r.at_ < x then [⟨r.at_, r.blk, r.off, r.c, r.bs.take (x - r.at_)⟩] else []) ++ (if y < r.at_ + r.bs.length then [⟨y, r.blk, r.off + (y - r.at_), r.c - (y - r.at_), r.bs.drop (y - r.at_)⟩] else [])
def takenR (x y : Nat) (R : List RP) : List RP := R.flatMap (cutR x y)
theorem cutR_pls (x y : Nat) (r : RP) : pls (cutR x y r) = cutP x y r.pl := by
  unfold cutR cutP pls
  show List.map RP.pl _ = if r.at_ + r.bs.length ≤ x ∨ y ≤ r.at_ then _ else _
  split
  · rfl
  · rw [List.map_append]
    congr 1
    · show _ = if r.at_ < x then _ else _
      split <;> rfl
    · show _ = if y < r.at_ + r.bs.length then _ else _
      split <;> rfl
theorem takenR_pls (x y : Nat) (R : List RP) : pls (takenR x y R) = takenP x y (pls R) := by
  induction R with
  | nil => rfl
  | cons r R ih =>
    have e1 : takenR x y (r :: R) = cutR x y r ++ takenR x y R := rfl
    have e2 : takenP x y (pls (r :: R)) = cutP x y r.pl ++ takenP x y (pls R) := rfl
    have e3 : pls (cutR x y r ++ takenR x y R) = pls (cutR x y r) ++ pls (takenR x y R) := by unfold pls; rw [List.map_append]
    rw [e1, e2, e3, cutR_pls, ih]
theorem takenR_take {x y : Nat} {R : List RP} {k : Nat} {r : RP} (h : R[k]? = some r) : takenR x y (R.take (k + 1)) = takenR x y (R.take k) ++ cutR x y r := by
  unfold takenR
  rw [List.take_add_one, h, List.flatMap_append]
  simp
theorem cutR_len (x y : Nat) (r : RP) : (cutR x y r).length ≤ 2 := by
  unfold cutR
  split
  · simp
  · split <;> split <;> simp
theorem takenR_len (x y : Nat) : ∀ R : List RP, (takenR x y R).length ≤ 2 * R.length
  | [] => by simp [takenR]
  | r :: R => by
    have e1 : takenR x y (r :: R) = cutR x y r ++ takenR x y R := rfl
    have := cutR_len x y r
    have := takenR_len x y R
    rw [e1, List.length_append, List.length_cons]
    omega
theorem rcells_one (R : List RP) : ∀ u ∈ rcells R, u.oneCell' = true := by
  intro u hu
  obtain ⟨r, -, hr⟩ := List.mem_flatMap.1 hu
  simp only [List.mem_cons, List.not_mem_nil, or_false] at hr
  rcases hr with rfl | rfl <;> rfl

theorem new_cells (w : World) (l : List Value) (t : TypeId) (j : Nat) (u : Value) (h : l[j]? = some u) : (w.alloc (.cells l.toArray t)).cell? (Addr.add ⟨w.heap.size, 0, none⟩ j) = some u := by
  have ea : Addr.add ⟨w.heap.size, 0, none⟩ j = ⟨w.heap.size, j, none⟩ := by
    unfold Addr.add
    split
    · rename_i hk; rw [hk]
    · simp only [Nat.zero_add]
  rw [ea, cell_of_row _ _ _ _ _ _ (heap_alloc_new w _)]
  simpa using h

/-- What a round leaves: the row has grown by some pieces. -/
theorem taken_round {w W w2 : World} {v v' : Value} {n m : Nat} {T U : List RP} (hO : W.ownsRow w.heap.size 123 2 v n (rcells T)) (hB : Below w.heap.size w W) (ho : w2.ownsRow w.heap.size 123 2 v' (n + m) (rcells T ++ rcells U)) (hg : W.grownBy w2 v.ownBlock) (hn : n = T.length) (hm : m = U.length) :
    w2.ownsRow w.heap.size 123 2 v' (T ++ U).length (rcells (T ++ U)) ∧ Below w.heap.size w w2 :=
  ⟨by rw [List.length_append, ← hn, ← hm, rcells_append]; exact ho, hB.grown hg hB.size (fun k hk => (hO.lt k hk).1)⟩

theorem app_facts {w W : World} {v : Value} {T : List RP} (hO : W.ownsRow w.heap.size 123 2 v T.length (rcells T)) (hB : Below w.heap.size w W) (q : RP) :
    (W.alloc (.cells #[.int .i64 q.at_, .slice (some ⟨q.blk, q.off, none⟩) q.bs.length q.c] 123)).ownsRow w.heap.size 123 2 v T.length (rcells T) ∧ (∀ j u, (rcells [q])[j]? = some u → (W.alloc (.cells #[.int .i64 q.at_, .slice (some ⟨q.blk, q.off, none⟩) q.bs.length q.c] 123)).cell? (Addr.add ⟨W.heap.size, 0, none⟩ j) = some u) ∧ w.heap.size ≤ (W.alloc (.cells #[.int .i64 q.at_, .slice (some ⟨q.blk, q.off, none⟩) q.bs.length q.c] 123)).heap.size ∧
      ∀ v' w2, w2.ownsRow w.heap.size 123 2 v' (T.length + 1) (rcells T ++ rcells [q]) → (W.alloc (.cells #[.int .i64 q.at_, .slice (some ⟨q.blk, q.off, none⟩) q.bs.length q.c] 123)).grownBy w2 v.ownBlock → (w2.ownsRow w.heap.size 123 2 v' (T ++ [q]).length (rcells (T ++ [q])) ∧ Below w.heap.size w w2) ∧
        ∀ p u, W.cell? p = some u → some p.block ≠ v.ownBlock → w2.cell? p = some u := by
  have hal := below_al W (.cells #[.int .i64 q.at_, .slice (some ⟨q.blk, q.off, none⟩) q.bs.length q.c] 123)
  have hBa := hB.trans (hal.mono hB.size)
  exact ⟨row_below hO hal, new_cells W (rcells [q]) 123, hBa.size, fun v' w2 ho hg => ⟨taken_round (row_below hO hal) hBa ho hg rfl rfl, fun p u hp hne => hg.cell ((hal.cell (World.block_lt_of_cell? W _ hp)).trans hp) hne⟩⟩

theorem step_append_own {ops : Array Oper} {o : Oper} {a : Act} {w : World} {K : Act → World → Prop} {Q : Exit → Act → World → Prop} {E : Prop} (hgd : o.guard = none) (s x : Operand) (t : TypeId)
    (ho : o.op = .call { callee := .builtin .append, args := #[s, x], argTypes := #[t, t] })
    (base : Nat) (e : TypeId) (i : TypeInfo) (z : Value) (size bytes : Nat) (ht : Try.prog.underlying t = some (.slice e)) (hi : Try.prog.info? e = some i) (hz : i.zero = some z)
    (hsize : i.size = size) (hby : i.bytes = bytes) (hzs : z.cells.size = size) (hsz : 0 < size)
    (v : Value) (n : Nat) (xs : List Value) (hs : a.eval s = v) (hown : w.ownsRow base e size v n xs)
    (ad : Addr) (m c : Nat) (news : List Value) (hx : a.eval x = .slice (some ad) m c) (hl : news.length = m * size) (hnews : ∀ j u, news[j]? = some u → w.cell? (ad.add j) = some u) (h1 : ∀ u ∈ news, u.oneCell' = true)
    (h63 : n + m ≤ maxLen) (hbytes : (n + m) * bytes ≤ 140737488355328) (hbase : base ≤ w.heap.size)
    (h : ∀ v' w', w'.ownsRow base e size v' (n + m) (xs ++ news) → w.grownBy w' v.ownBlock → (v' = .slice none 0 0 ↔ v = .slice none 0 0 ∧ m = 0) → K (a.put o.dst v') w') :
    if Region.wanted o (yielded ops a.tmps) = true then Oper.wp Try.prog o a w K Q else E := by
  rw [if_pos (by simp [Region.wanted, hgd])]
  exact wp_append_own w s x t ho base e i z size bytes ht hi hz hsize hby hzs hsz v n xs hs hown ad m c news hx hl hnews h1 h63 hbytes hbase h
end Go.Proofs.Ytoagjgcpgpjjeaa

namespace Go.Proofs.Ytoagjgcpgpjjeaa
open Go.RowKit
set_option maxRecDepth 20000

theorem len_room (T : List RP) (q : RP) (h : T.length ≤ 8388608) : (T ++ [q]).length + 1 ≤ maxLen ∧ ((T ++ [q]).length + 1) * 32 ≤ 140737488355328 := by
  simp only [List.length_append, List.length_cons, List.length_nil]
  exact ⟨by unfold maxLen; omega, by omega⟩

set_option maxHeartbeats 4000000 in
theorem takenRef_walk (b N : Nat) (a : Option Addr) (c : Nat) (R : List RP) (x y : Nat) (w : World) (hR : RefAt w b N a c R) (hxb : x ≤ 1073741824) (hyb : y ≤ 1073741824) (hn : R.length ≤ 4194304) :
    Calls Try.prog 46 #[.pointer (some ⟨b, 0, none⟩), .int .i64 x, .int .i64 y] w fun e w' => ∃ v, e = .returned v ∧ w'.ownsRow w.heap.size 123 2 v (takenR x y R).length (rcells (takenR x y R)) ∧ Below w.heap.size w w' := by
  have HR := aside hR
  clear hR
  obtain ⟨i, hi, hz, hs, hb⟩ := info_parts info59
  have Hi := aside hi
  have Hz := aside hz
  have Hs := aside hs
  have Hb := aside hb
  clear hi hz hs hb
  go_enter Try.func46, Try.ntmps46
  go_wp2
  go_loopw [7, 8] (fun s7 s8 wr => ∃ k : Nat, k ≤ R.length ∧ s8 = .int .i64 k ∧ Aside (wr.ownsRow w.heap.size 123 2 s7 (takenR x y (R.take k)).length (rcells (takenR x y (R.take k)))) ∧ Aside (Below w.heap.size w wr)) (fun _ s8 _ => R.length - (intOf s8).toNat)
  case atStart => exact ⟨0, Nat.zero_le _, rfl, World.ownsRow_nil _ _ _ _, Below.refl _ _⟩
  case round =>
    obtain ⟨k, hk, rfl, hO, hB⟩ := hrel
    have HRr := aside (HR.out.below hB.out)
    have c0 := HRr.out.list
    by_cases h1 : k < R.length
    · have t1 : (k : Int) < (R.length : Int) := by omega
      have hkm : R[k]? = some R[k] := List.getElem?_eq_getElem h1
      have hb := HR.out.ps.le R[k] (List.getElem_mem h1)
      have hcp := HR.out.ps.cp R[k] (List.getElem_mem h1)
      obtain ⟨blk, off, rfl, hrd⟩ := HRr.out.ps.rd (by intro h; simp [h] at h1)
      obtain ⟨r0, r1⟩ := hrd k _ hkm
      clear hrd
      have TK := aside (takenR_take (x := x) (y := y) hkm)
      have TL := aside (takenR_len x y (R.take k))
      clear hkm
      generalize R[k] = r at *
      have EN := aside (fun W => end_any r.at_ r.bs.length (some ⟨r.blk, r.off, none⟩) r.c W (by omega))
      go_wp2_with fail
      refine (EN.out _).mono ?_
      rintro e w1 ⟨rfl, hb1⟩
      have al := below_al wr (.cells #[.int .i64 r.at_, .slice (some ⟨r.blk, r.off, none⟩) r.bs.length r.c] 123)
      have hw1 := below_tr al hb1
      have B1 := aside (hB.out.trans (hw1.mono hB.out.size))
      have O1 := aside (row_below hO.out hw1)
      have bx : w1.heap[wr.heap.size]? = some (.cells #[.int .i64 r.at_, .slice (some ⟨r.blk, r.off, none⟩) r.bs.length r.c] 123 (0, 0)) := (hb1.block _ (by simp)).trans (heap_alloc_new wr _)
      have p0 : w1.cell? ⟨wr.heap.size, 0, none⟩ = some (.int .i64 r.at_) := by rw [cell_of_row _ _ 0 _ _ _ bx]; rfl
      have p1 : w1.cell? ⟨wr.heap.size, 1, none⟩ = some (.slice (some ⟨r.blk, r.off, none⟩) r.bs.length r.c) := by rw [cell_of_row _ _ 1 _ _ _ bx]; rfl
      have hlen := TL.out
      rw [List.length_take] at hlen
      generalize htl : takenR x y (R.take k) = T at *
      have h63 : T.length + 1 ≤ maxLen := by unfold maxLen; omega
      have hby : (T.length + 1) * 32 ≤ 140737488355328 := by omega
      have H63 := aside h63
      have H64 := aside (show T.length ≤ 8388608 by omega)
      clear al hb1 hw1 bx h63 htl TL hlen c0 r0 r1
      by_cases h2 : r.at_ + r.bs.length ≤ x
      · have t2 : ((r.at_ + r.bs.length : Nat) : Int) ≤ (x : Int) := by omega
        have t3 : decide (((r.at_ + r.bs.length : Nat) : Int) ≤ (x : Int)) = true := by simp; omega
        have TE := aside (show takenR x y (R.take (k + 1)) = T ++ [r] by rw [TK.out]; unfold cutR; rw [if_pos (.inl h2)])
        obtain ⟨A1, A2, A3, A4⟩ := app_facts O1.out B1.out (r)
        have A1 := aside A1
        have A2 := aside A2
        have A3 := aside A3
        have A4 := aside A4
        clear TK
        go_wp2_with (at_builtin; refine wpList_append_own _ rfl _ _ 103 rfl w.heap.size 123 i (.agg #[.int .i64 0, .slice none 0 0]) 2 32 Try.underlying103 Hi.out Hz.out Hs.out Hb.out rfl (by decide) u7 T.length (rcells T) rfl A1.out ⟨w1.heap.size, 0, none⟩ 1 1 (rcells [r]) rfl rfl A2.out (rcells_one _) H63.out hby A3.out ?_; intro v' w2 ho2 hg2 hv2; have RD := aside (A4.out v' w2 ho2 hg2); clear ho2 hg2 hv2)
        go_roundw
        case rel => exact ⟨k + 1, by omega, by go_num, by rw [TE.out]; exact RD.out.1.1, RD.out.1.2⟩
        case measure => simp [intOf]; omega
      · have t2 : decide (((r.at_ + r.bs.length : Nat) : Int) ≤ (x : Int)) = false := by simp; omega
        by_cases h3 : y ≤ r.at_
        · have t4 : (y : Int) ≤ (r.at_ : Int) := by omega
          have t3 : decide ((y : Int) ≤ (r.at_ : Int)) = true := by simp; omega
          have TE := aside (show takenR x y (R.take (k + 1)) = T ++ [r] by rw [TK.out]; unfold cutR; rw [if_pos (.inr h3)])
          obtain ⟨A1, A2, A3, A4⟩ := app_facts O1.out B1.out (r)
          have A1 := aside A1
          have A2 := aside A2
          have A3 := aside A3
          have A4 := aside A4
          clear TK
          go_wp2_with (at_builtin; refine wpList_append_own _ rfl _ _ 103 rfl w.heap.size 123 i (.agg #[.int .i64 0, .slice none 0 0]) 2 32 Try.underlying103 Hi.out Hz.out Hs.out Hb.out rfl (by decide) u7 T.length (rcells T) rfl A1.out ⟨w1.heap.size, 0, none⟩ 1 1 (rcells [r]) rfl rfl A2.out (rcells_one _) H63.out hby A3.out ?_; intro v' w2 ho2 hg2 hv2; have RD := aside (A4.out v' w2 ho2 hg2); clear ho2 hg2 hv2)
          go_roundw
          case rel => exact ⟨k + 1, by omega, by go_num, by rw [TE.out]; exact RD.out.1.1, RD.out.1.2⟩
          case measure => simp [intOf]; omega
        · have t3 : decide ((y : Int) ≤ (r.at_ : Int)) = false := by simp; omega
          have t4 : ¬ ((y : Int) ≤ (r.at_ : Int)) := by omega
          have TE := aside (show takenR x y (R.take (k + 1)) = T ++ ((if r.at_ < x then [⟨r.at_, r.blk, r.off, r.c, r.bs.take (x - r.at_)⟩] else []) ++ (if y < r.at_ + r.bs.length then [⟨y, r.blk, r.off + (y - r.at_), r.c - (y - r.at_), r.bs.drop (y - r.at_)⟩] else [])) by rw [TK.out]; unfold cutR; rw [if_neg (by omega)])
          have NB := aside (fun g (hg : u7.ownBlock = some g) => (hO.out.lt g hg).2)
          clear TK
          by_cases h4 : r.at_ < x
          · have t5 : (r.at_ : Int) < (x : Int) := by omega
            obtain ⟨z1, hz1⟩ : ∃ z1 : Nat, (x : Int) - (r.at_ : Int) = (z1 : Int) := ⟨x - r.at_, by omega⟩
            have hq1 : x - r.at_ = z1 := by omega
            have hzl : z1 ≤ r.bs.length := by omega
            have hwz : IntKind.i64.wrap (z1 : Int) = (z1 : Int) := by rw [IntKind.wrap_i64]; omega
            have hzc : (z1 : Int) ≤ (r.c : Int) := by omega
            have hzd : z1 ≤ r.c := by omega
            rw [if_pos h4, hq1] at TE
            obtain ⟨A1, A2, A3, A4⟩ := app_facts (row_below O1.out (below_dr w1)) (B1.out.trans ((below_dr w1).mono B1.out.size)) ⟨r.at_, r.blk, r.off, r.c, r.bs.take z1⟩
            simp only [List.length_take, Nat.min_eq_left hzl] at A1 A2 A3 A4
            have A1 := aside A1
            have A2 := aside A2
            have A3 := aside A3
            have A4 := aside A4
            have NE : Aside (some wr.heap.size ≠ u7.ownBlock) := fun h => by have := NB.out _ h.symm; omega
            have h63 := (len_room T (⟨r.at_, r.blk, r.off, r.c, r.bs.take z1⟩ : RP) H64.out).1
            have hby2 := (len_room T (⟨r.at_, r.blk, r.off, r.c, r.bs.take z1⟩ : RP) H64.out).2
            have H632 := aside h63
            have HBY2 := aside hby2
            clear hq1 h63 hby2 HRr
            go_upto_region 9 with fail
            go_cut [7] (fun s7 wc => Aside (wc.ownsRow w.heap.size 123 2 s7 (T ++ [(⟨r.at_, r.blk, r.off, r.c, r.bs.take z1⟩ : RP)]).length (rcells (T ++ [(⟨r.at_, r.blk, r.off, r.c, r.bs.take z1⟩ : RP)])) ∧ Below w.heap.size w wc) ∧ wc.cell? ⟨wr.heap.size, 0, none⟩ = some (.int .i64 r.at_) ∧ wc.cell? ⟨wr.heap.size, 1, none⟩ = some (.slice (some ⟨r.blk, r.off, none⟩) r.bs.length r.c))
            case first =>
              have P0 := aside p0
              have P1 := aside p1
              go_region_law (refine step_append_own rfl _ _ 103 rfl w.heap.size 123 i (.agg #[.int .i64 0, .slice none 0 0]) 2 32 Try.underlying103 Hi.out Hz.out Hs.out Hb.out rfl (by decide) u7 T.length (rcells T) rfl A1.out ⟨w1.heap.size, 0, none⟩ 1 1 (rcells [⟨r.at_, r.blk, r.off, r.c, r.bs.take z1⟩]) rfl rfl A2.out (rcells_one _) H63.out hby A3.out ?_; intro v' w2 ho2 hg2 hv2; have RD := aside (A4.out v' w2 ho2 hg2); clear ho2 hg2 hv2)
              all_goals go_wp2_with fail
              all_goals go_meet
              all_goals exact ⟨RD.out.1, RD.out.2 _ _ P0.out NE.out, RD.out.2 _ _ P1.out NE.out⟩
            case rest =>
              obtain ⟨hrow, p0, p1⟩ := hcut
              by_cases h5 : y < r.at_ + r.bs.length
              · have t6 : (y : Int) < ((r.at_ + r.bs.length : Nat) : Int) := by omega
                rw [if_pos h5] at TE
                have hby3 := HBY2.out
                go_wp2_with fail
                refine (EN.out _).mono ?_
                rintro e w2 ⟨rfl, hb2⟩
                have B2 := aside (hrow.out.2.trans (hb2.mono hrow.out.2.size))
                have O2 := aside (row_below hrow.out.1 hb2)
                have s0 : w2.cell? ⟨wr.heap.size, 0, none⟩ = some (.int .i64 r.at_) := (hb2.cell (World.block_lt_of_cell? wc _ p0)).trans p0
                have s1 : w2.cell? ⟨wr.heap.size, 1, none⟩ = some (.slice (some ⟨r.blk, r.off, none⟩) r.bs.length r.c) := (hb2.cell (World.block_lt_of_cell? wc _ p1)).trans p1
                obtain ⟨z, hz⟩ : ∃ z : Nat, (y : Int) - (r.at_ : Int) = (z : Int) := ⟨y - r.at_, by omega⟩
                have hq : y - r.at_ = z := by omega
                rw [hq] at TE
                obtain ⟨A1, A2, A3, A4⟩ := app_facts O2.out B2.out ⟨y, r.blk, r.off + z, r.c - z, r.bs.drop z⟩
                simp only [List.length_drop] at A1 A2 A3 A4
                have A1 := aside A1
                have A2 := aside A2
                have A3 := aside A3
                have A4 := aside A4
                clear hb2 p0 p1 hq
                go_wp2_with (at_builtin; refine wpList_append_own _ rfl _ _ 103 rfl w.heap.size 123 i (.agg #[.int .i64 0, .slice none 0 0]) 2 32 Try.underlying103 Hi.out Hz.out Hs.out Hb.out rfl (by decide) u7 (T ++ [(⟨r.at_, r.blk, r.off, r.c, r.bs.take z1⟩ : RP)]).length (rcells (T ++ [(⟨r.at_, r.blk, r.off, r.c, r.bs.take z1⟩ : RP)])) rfl A1.out ⟨w2.heap.size, 0, none⟩ 1 1 (rcells [⟨y, r.blk, r.off + z, r.c - z, r.bs.drop z⟩]) rfl rfl A2.out (rcells_one _) H632.out hby3 A3.out ?_; intro v' w3 ho2 hg2 hv2; have RD := aside (A4.out v' w3 ho2 hg2); clear ho2 hg2 hv2)
                go_roundw
                case rel => exact ⟨k + 1, by omega, by go_num, by rw [TE.out, ← List.append_assoc]; exact RD.out.1.1, RD.out.1.2⟩
                case measure => simp [intOf]; omega
              · have t6 : ¬ ((y : Int) < ((r.at_ + r.bs.length : Nat) : Int)) := by omega
                rw [if_neg h5, List.append_nil] at TE
                go_wp2_with fail
                refine (EN.out _).mono ?_
                rintro e w2 ⟨rfl, hb2⟩
                have B2 := aside (hrow.out.2.trans (hb2.mono hrow.out.2.size))
                have O2 := aside (row_below hrow.out.1 hb2)
                clear hb2
                go_wp2
                go_roundw
                case rel => exact ⟨k + 1, by omega, by go_num, by rw [TE.out]; exact O2.out, B2⟩
                case measure => simp [intOf]; omega
          · have t5 : ¬ ((r.at_ : Int) < (x : Int)) := by omega
            rw [if_neg h4, List.nil_append] at TE
            by_cases h5 : y < r.at_ + r.bs.length
            · have t6 : (y : Int) < ((r.at_ + r.bs.length : Nat) : Int) := by omega
              rw [if_pos h5] at TE
              go_wp2_with fail
              refine (EN.out _).mono ?_
              rintro e w2 ⟨rfl, hb2⟩
              have B2 := aside (B1.out.trans (hb2.mono B1.out.size))
              have O2 := aside (row_below O1.out hb2)
              have s0 : w2.cell? ⟨wr.heap.size, 0, none⟩ = some (.int .i64 r.at_) := (hb2.cell (World.block_lt_of_cell? w1 _ p0)).trans p0
              have s1 : w2.cell? ⟨wr.heap.size, 1, none⟩ = some (.slice (some ⟨r.blk, r.off, none⟩) r.bs.length r.c) := (hb2.cell (World.block_lt_of_cell? w1 _ p1)).trans p1
              obtain ⟨z, hz⟩ : ∃ z : Nat, (y : Int) - (r.at_ : Int) = (z : Int) := ⟨y - r.at_, by omega⟩
              have hq : y - r.at_ = z := by omega
              rw [hq] at TE
              obtain ⟨A1, A2, A3, A4⟩ := app_facts O2.out B2.out ⟨y, r.blk, r.off + z, r.c - z, r.bs.drop z⟩
              simp only [List.length_drop] at A1 A2 A3 A4
              have A1 := aside A1
              have A2 := aside A2
              have A3 := aside A3
              have A4 := aside A4
              clear hb2 p0 p1 hq
              go_wp2_with (at_builtin; refine wpList_append_own _ rfl _ _ 103 rfl w.heap.size 123 i (.agg #[.int .i64 0, .slice none 0 0]) 2 32 Try.underlying103 Hi.out Hz.out Hs.out Hb.out rfl (by decide) u7 T.length (rcells T) rfl A1.out ⟨w2.heap.size, 0, none⟩ 1 1 (rcells [⟨y, r.blk, r.off + z, r.c - z, r.bs.drop z⟩]) rfl rfl A2.out (rcells_one _) H63.out hby A3.out ?_; intro v' w3 ho2 hg2 hv2; have RD := aside (A4.out v' w3 ho2 hg2); clear ho2 hg2 hv2)
              go_roundw
              case rel => exact ⟨k + 1, by omega, by go_num, by rw [TE.out]; exact RD.out.1.1, RD.out.1.2⟩
              case measure => simp [intOf]; omega
            · have t6 : ¬ ((y : Int) < ((r.at_ + r.bs.length : Nat) : Int)) := by omega
              rw [if_neg h5, List.append_nil] at TE
              go_wp2_with fail
              refine (EN.out _).mono ?_
              rintro e w2 ⟨rfl, hb2⟩
              have B2 := aside (B1.out.trans (hb2.mono B1.out.size))
              have O2 := aside (row_below O1.out hb2)
              clear hb2
              go_wp2
              go_roundw
              case rel => exact ⟨k + 1, by omega, by go_num, by rw [TE.out]; exact O2.out, B2⟩
              case measure => simp [intOf]; omega
    · obtain rfl : k = R.length := by omega
      have t1 : ¬ ((R.length : Int) < (R.length : Int)) := by omega
      rw [List.take_length] at hO
      go_wp2
      go_ret
      exact ⟨_, rfl, hO.out, hB.out⟩
end Go.Proofs.Ytoagjgcpgpjjeaa

namespace Go.Proofs.Ytoagjgcpgpjjeaa
open Go.RowKit
set_option maxRecDepth 20000
attribute [local simp] lcells_nil readB_length bcells_length

theorem run_append_zero {P : Program} (w : World) (t ty e : TypeId) (i : TypeInfo) (ht : P.underlying t = some (.slice e)) (hi : P.info? e = some i) (ba : Option Addr) (n cap : Nat) (hn : n ≤ cap) (xa : Option Addr) (c : Nat) :
    (Builtin.append_ #[t, t] ty #[.slice ba n cap, .slice xa 0 c]).run P w = .ok (.slice ba n cap) w := by
  cases xa <;> cases ba <;> simp [Builtin.append_, run_underlying ht, sizeOf, typeInfo, hi, Builtin.lenOf, hn, Builtin.firstCells, loadCells, loadCellsFrom, storeCells]

theorem own_slice {w : World} {base : Nat} {e : TypeId} {size : Nat} {v : Value} {n : Nat} {xs : List Value} (h : w.ownsRow base e size v n xs) : ∃ a cap, v = .slice a n cap ∧ n ≤ cap := by
  rcases h.2 with ⟨rfl, rfl⟩ | ⟨g, cap, cur, rfl, -, -, hnc, -⟩
  · exact ⟨none, 0, rfl, Nat.le_refl _⟩
  · exact ⟨_, cap, rfl, hnc⟩

/-- A source: nothing, or cells that can be read. -/
def SrcAt (w : World) (x : Value) (m : Nat) (news : List Value) : Prop := ∃ xa c, x = .slice xa m c ∧ (0 < m → ∃ ad, xa = some ad ∧ ∀ j u, news[j]? = some u → w.cell? (ad.add j) = some u)

theorem wpList_append_any {P : Program} (w : World) {ops : Array Oper} {rest : List Oper} {o : Oper} {a : Act} {Q : Exit → Act → World → Prop} (hgd : o.guard = none) (s x : Operand) (t : TypeId)
    (ho : o.op = .call { callee := .builtin .append, args := #[s, x], argTypes := #[t, t] }) (e : TypeId) (z : Value) (size bytes : Nat) (ht : P.underlying t = some (.slice e)) (hinfo : (P.info? e).map (fun i => (i.zero, i.size, i.bytes)) = some (some z, size, bytes))
    (hzs : z.cells.size = size) (hsz : 0 < size) (v : Value) (n : Nat) (xs : List Value) (hs : a.eval s = v) (hown : w.ownsRow 0 e size v n xs)
    (xv : Value) (m : Nat) (news : List Value) (hx : a.eval x = xv) (hl : news.length = m * size) (hnews : SrcAt w xv m news) (h1 : ∀ u ∈ news, u.oneCell' = true)
    (h63 : n + m ≤ maxLen) (hbytes : (n + m) * bytes ≤ 140737488355328)
    (h : ∀ v' w', w'.ownsRow 0 e size v' (n + m) (xs ++ news) → Upd (fun k => v.ownBlock = some k) w w' → (v'.ownBlock = v.ownBlock ∨ v'.ownBlock = some w.heap.size) → wpList P ops Q rest (a.put o.dst v') w') : wpList P ops Q (o :: rest) a w := by
  obtain ⟨xa, c, rfl, hsrc⟩ := hnews
  rcases Nat.eq_zero_or_pos m with rfl | hm
  · obtain rfl : news = [] := List.eq_nil_of_length_eq_zero (by rw [hl]; omega)
    obtain ⟨i, hi, -⟩ := info_parts hinfo
    obtain ⟨ba, cap, rfl, hnc⟩ := own_slice hown
    refine wpList_plain hgd fun K hK => ?_
    unfold Oper.wp execOp
    simp only [ho, resolve, invoke, builtin, Sem.run_bind, Sem.run_pure, Result.andThen_ok, List.map_toArray, List.map_cons, List.map_nil, hs, hx, run_append_zero w t o.type e i ht hi ba n cap hnc xa c]
    exact hK _ _ (h _ w (by simpa using hown) (Upd.refl _ _) (.inl rfl))
  · obtain ⟨ad, rfl, hc⟩ := hsrc hm
    refine wpList_append_where w hgd s x t ho e z size bytes ht hinfo hzs hsz v n xs hs hown ad m c news hx hl hc h1 h63 hbytes hm (fun v' w' g1 g2 g3 => h v' w' g1 (Upd.of_grown g2 fun k hk => hk) ?_)
    rcases g3 with ⟨g3, -⟩ | ⟨g3, -⟩
    · exact .inl g3
    · exact .inr g3

/-- Two rows and a row of bytes named by a variable, each in a block of its own. -/
structure Lays (W : World) (base ob : Nat) (v8 v9 vB : Value) (oat : Nat) (A C : List RP) (oL : List UInt8) : Prop where
  r8 : W.ownsRow 0 123 2 v8 A.length (rcells A)
  r9 : W.ownsRow 0 123 2 v9 C.length (rcells C)
  rB : W.ownsRow 0 5 1 vB oL.length (bcells oL)
  ow : W.heap[ob]? = some (.cells #[.int .i64 oat, vB] 123 (0, 0))
  g8 : ∀ k, v8.ownBlock = some k → base ≤ k ∧ k ≠ ob ∧ v9.ownBlock ≠ some k ∧ vB.ownBlock ≠ some k
  g9 : ∀ k, v9.ownBlock = some k → base ≤ k ∧ k ≠ ob ∧ vB.ownBlock ≠ some k
  gB : ∀ k, vB.ownBlock = some k → base ≤ k ∧ k ≠ ob

theorem Lays.below {W W' : World} {base ob oat : Nat} {v8 v9 vB : Value} {A C : List RP} {oL : List UInt8} (h : Lays W base ob v8 v9 vB oat A C oL) (hb : Below W.heap.size W W') : Lays W' base ob v8 v9 vB oat A C oL :=
  ⟨row_below h.r8 hb, row_below h.r9 hb, row_below h.rB hb, (hb.block _ (Array.getElem?_eq_some_iff.1 h.ow).1).trans h.ow, h.g8, h.g9, h.gB⟩

theorem own_lt {w : World} {e : TypeId} {size : Nat} {v : Value} {n : Nat} {xs : List Value} (h : w.ownsRow 0 e size v n xs) {k : Nat} (hk : v.ownBlock = some k) : k < w.heap.size := (h.lt k hk).2

theorem Lays.app8 {W W' : World} {base ob oat : Nat} {v8 v9 vB v' : Value} {A C A' : List RP} {oL : List UInt8} (h : Lays W base ob v8 v9 vB oat A C oL) (hw : base ≤ W.heap.size) (hr : W'.ownsRow 0 123 2 v' A'.length (rcells A')) (hu : Upd (fun k => v8.ownBlock = some k) W W') (hv : v'.ownBlock = v8.ownBlock ∨ v'.ownBlock = some W.heap.size) : Lays W' base ob v' v9 vB oat A' C oL := by
  have hob := (Array.getElem?_eq_some_iff.1 h.ow).1
  refine ⟨hr, hu.row h.r9 (fun k hk hk2 => (h.g8 k hk2).2.2.1 hk), hu.row h.rB (fun k hk hk2 => (h.g8 k hk2).2.2.2 hk), (hu.block _ hob (fun hk => (h.g8 ob hk).2.1 rfl)).trans h.ow, fun k hk => ?_, h.g9, h.gB⟩
  rcases hv with hv | hv
  · rw [hv] at hk; exact h.g8 k hk
  · rw [hv] at hk
    obtain rfl : W.heap.size = k := by simpa using hk
    exact ⟨hw, by omega, fun e => absurd (own_lt h.r9 e) (by omega), fun e => absurd (own_lt h.rB e) (by omega)⟩
theorem Lays.app9 {W W' : World} {base ob oat : Nat} {v8 v9 vB v' : Value} {A C C' : List RP} {oL : List UInt8} (h : Lays W base ob v8 v9 vB oat A C oL) (hw : base ≤ W.heap.size) (hr : W'.ownsRow 0 123 2 v' C'.length (rcells C')) (hu : Upd (fun k => v9.ownBlock = some k) W W') (hv : v'.ownBlock = v9.ownBlock ∨ v'.ownBlock = some W.heap.size) : Lays W' base ob v8 v' vB oat A C' oL := by
  have hob := (Array.getElem?_eq_some_iff.1 h.ow).1
  refine ⟨hu.row h.r8 (fun k hk hk2 => (h.g8 k hk).2.2.1 hk2), hr, hu.row h.rB (fun k hk hk2 => (h.g9 k hk2).2.2 hk), (hu.block _ hob (fun hk => (h.g9 ob hk).2.1 rfl)).trans h.ow, fun k hk => ?_, fun k hk => ?_, h.gB⟩
  · refine ⟨(h.g8 k hk).1, (h.g8 k hk).2.1, fun e => ?_, (h.g8 k hk).2.2.2⟩
    rcases hv with hv | hv
    · rw [hv] at e; exact (h.g8 k hk).2.2.1 e
    · rw [hv] at e
      obtain rfl : W.heap.size = k := by simpa using e
      exact absurd (own_lt h.r8 hk) (by omega)
  · rcases hv with hv | hv
    · rw [hv] at hk; exact h.g9 k hk
    · rw [hv] at hk
      obtain rfl : W.heap.size = k := by simpa using hk
      exact ⟨hw, by omega, fun e => absurd (own_lt h.rB e) (by omega)⟩
/-- The bytes grow, and the variable is set anew. -/
theorem Lays.appB {W W' : World} {base ob oat : Nat} {v8 v9 vB v' : Value} {A C : List RP} {oL oL' : List UInt8} (h : Lays W base ob v8 v9 vB oat A C oL) (hw : base ≤ W.heap.size) (hr : W'.ownsRow 0 5 1 v' oL'.length (bcells oL')) (hu : Upd (fun k => vB.ownBlock = some k) W W') (hv : v'.ownBlock = vB.ownBlock ∨ v'.ownBlock = some W.heap.size) :
    W'.heap[ob]? = some (.cells #[.int .i64 oat, vB] 123 (0, 0)) ∧ Lays (W'.setCell ⟨ob, 1, none⟩ v') base ob v8 v9 v' oat A C oL' := by
  have hob := (Array.getElem?_eq_some_iff.1 h.ow).1
  have ho := (hu.block _ hob (fun hk => (h.gB ob hk).2 rfl)).trans h.ow
  have hg : ∀ k, v'.ownBlock = some k → base ≤ k ∧ k ≠ ob ∧ v8.ownBlock ≠ some k ∧ v9.ownBlock ≠ some k := fun k hk => by
    rcases hv with hv | hv
    · rw [hv] at hk; exact ⟨(h.gB k hk).1, (h.gB k hk).2, fun e => (h.g8 k e).2.2.2 hk, fun e => (h.g9 k e).2.2 hk⟩
    · rw [hv] at hk
      obtain rfl : W.heap.size = k := by simpa using hk
      exact ⟨hw, by omega, fun e => absurd (own_lt h.r8 e) (by omega), fun e => absurd (own_lt h.r9 e) (by omega)⟩
  have u2 : Upd (fun k => k = ob) W' (W'.setCell ⟨ob, 1, none⟩ v') := Upd.setCell (F := fun k => k = ob) (p := ⟨ob, 1, none⟩) rfl _
  refine ⟨ho, u2.row (hu.row h.r8 (fun k hk hk2 => (h.g8 k hk).2.2.2 hk2)) (fun k hk => (h.g8 k hk).2.1), u2.row (hu.row h.r9 (fun k hk hk2 => (h.g9 k hk).2.2 hk2)) (fun k hk => (h.g9 k hk).2.1), u2.row hr (fun k hk => (hg k hk).2.1), ?_, fun k hk => ⟨(h.g8 k hk).1, (h.g8 k hk).2.1, (h.g8 k hk).2.2.1, fun e => (hg k e).2.2.1 hk⟩, fun k hk => ⟨(h.g9 k hk).1, (h.g9 k hk).2.1, fun e => (hg k e).2.2.2 hk⟩, fun k hk => ⟨(hg k hk).1, (hg k hk).2.1⟩⟩
  rw [setCell_eq_setRow W' ob 1 _ _ _ v' ho]
  exact setRow_heap W' ob _ _ _ _ ho
theorem Lays.at_ {W : World} {base ob oat n : Nat} {v8 v9 vB : Value} {A C : List RP} {oL : List UInt8} (h : Lays W base ob v8 v9 vB oat A C oL) : Lays (W.setCell ⟨ob, 0, none⟩ (.int .i64 n)) base ob v8 v9 vB n A C oL := by
  have u2 : Upd (fun k => k = ob) W (W.setCell ⟨ob, 0, none⟩ (.int .i64 n)) := Upd.setCell (F := fun k => k = ob) (p := ⟨ob, 0, none⟩) rfl _
  refine ⟨u2.row h.r8 (fun k hk => (h.g8 k hk).2.1), u2.row h.r9 (fun k hk => (h.g9 k hk).2.1), u2.row h.rB (fun k hk => (h.gB k hk).2), ?_, h.g8, h.g9, h.gB⟩
  rw [setCell_eq_setRow W ob 0 _ _ _ _ h.ow]
  exact setRow_heap W ob _ _ _ _ h.ow
theorem Lays.cells {W : World} {base ob oat : Nat} {v8 v9 vB : Value} {A C : List RP} {oL : List UInt8} (h : Lays W base ob v8 v9 vB oat A C oL) : W.cell? ⟨ob, 0, none⟩ = some (.int .i64 oat) ∧ W.cell? ⟨ob, 1, none⟩ = some vB ∧ W.frozen? ⟨ob, 0, none⟩ = false ∧ W.frozen? ⟨ob, 1, none⟩ = false :=
  ⟨by rw [cell_of_row W ob _ _ _ _ h.ow]; rfl, by rw [cell_of_row W ob _ _ _ _ h.ow]; rfl, frozen_of_row W ob 0 _ _ h.ow, frozen_of_row W ob 1 _ _ h.ow⟩
end Go.Proofs.Ytoagjgcpgpjjeaa

namespace Go.Proofs.Ytoagjgcpgpjjeaa

def ahP (x : Nat) (T : List Piece) : List Piece := T.filter fun d => decide (d.fin < x)
def lfP (x : Nat) (T : List Piece) : List Piece := T.filter fun d => decide (d.fin = x)
def rtP (x y : Nat) (T : List Piece) : List Piece := T.filter fun d => decide (x < d.fin ∧ d.org = y)
def bhP (x y : Nat) (T : List Piece) : List Piece := T.filter fun d => decide (x < d.fin ∧ d.org ≠ y)

theorem split4 {x y : Nat} (hxy : x < y) : ∀ {T : List Piece}, T.Pairwise (fun a b => a.fin < b.org) → (∀ d, d ∈ T → 0 < d.bs.length) → (∀ d, d ∈ T → d.fin ≤ x ∨ y ≤ d.org) →
    T = ahP x T ++ (lfP x T ++ rtP x y T) ++ bhP x y T ∧ (lfP x T).length ≤ 1 ∧ (rtP x y T).length ≤ 1
  | [], _, _, _ => ⟨rfl, by simp [lfP], by simp [rtP]⟩
  | d :: T, hs, hn, ho => by
    have hs' := List.pairwise_cons.1 hs
    have hd := hn d (by simp)
    have hod := ho d (by simp)
    have hf : d.fin = d.org + d.bs.length := rfl
    obtain ⟨ih, i1, i2⟩ := split4 hxy hs'.2 (fun e he => hn e (by simp [he])) (fun e he => ho e (by simp [he]))
    have hE : ∀ e, e ∈ T → d.fin < e.org ∧ e.org < e.fin := fun e he => ⟨hs'.1 e he, by have := hn e (by simp [he]); unfold Piece.fin; omega⟩
    by_cases h1 : d.fin < x
    · have e1 : ahP x (d :: T) = d :: ahP x T := by unfold ahP; rw [List.filter_cons_of_pos (by simpa using h1)]
      have e2 : lfP x (d :: T) = lfP x T := by unfold lfP; rw [List.filter_cons_of_neg (by simp; omega)]
      have e3 : rtP x y (d :: T) = rtP x y T := by unfold rtP; rw [List.filter_cons_of_neg (by simp; omega)]
      have e4 : bhP x y (d :: T) = bhP x y T := by unfold bhP; rw [List.filter_cons_of_neg (by simp; omega)]
      rw [e1, e2, e3, e4]
      exact ⟨by rw [List.cons_append, List.cons_append, ← ih], i1, i2⟩
    · have n1 : ahP x T = [] := by
        unfold ahP; rw [List.filter_eq_nil_iff]; intro e he; have := hE e he; simp; omega
      have n2 : lfP x T = [] := by
        unfold lfP; rw [List.filter_eq_nil_iff]; intro e he; have := hE e he; simp; omega
      have e1 : ahP x (d :: T) = [] := by unfold ahP; rw [List.filter_cons_of_neg (by simpa using h1)]; exact n1
      rw [n1, n2] at ih
      by_cases h2 : d.fin = x
      · have e2 : lfP x (d :: T) = [d] := by unfold lfP at n2 ⊢; rw [List.filter_cons_of_pos (by simpa using h2), n2]
        have e3 : rtP x y (d :: T) = rtP x y T := by unfold rtP; rw [List.filter_cons_of_neg (by simp; omega)]
        have e4 : bhP x y (d :: T) = bhP x y T := by unfold bhP; rw [List.filter_cons_of_neg (by simp; omega)]
        rw [e1, e2, e3, e4]
        refine ⟨?_, by simp, i2⟩
        simp only [List.nil_append] at ih ⊢
        rw [List.singleton_append, List.cons_append, ← ih]
      · have e2 : lfP x (d :: T) = [] := by unfold lfP at n2 ⊢; rw [List.filter_cons_of_neg (by simpa using h2)]; exact n2
        have n3 : rtP x y T = [] := by
          unfold rtP; rw [List.filter_eq_nil_iff]; intro e he; have := hE e he; simp; omega
        rw [n3] at ih
        simp only [List.nil_append] at ih
        by_cases h3 : d.org = y
        · have e3 : rtP x y (d :: T) = [d] := by unfold rtP at n3 ⊢; rw [List.filter_cons_of_pos (by simp; omega), n3]
          have e4 : bhP x y (d :: T) = bhP x y T := by unfold bhP; rw [List.filter_cons_of_neg (by simp; omega)]
          rw [e1, e2, e3, e4]
          refine ⟨?_, by simp, by simp⟩
          simp only [List.nil_append]
          rw [List.singleton_append, ← ih]
        · have e3 : rtP x y (d :: T) = [] := by unfold rtP at n3 ⊢; rw [List.filter_cons_of_neg (by simp; omega)]; exact n3
          have e4 : bhP x y (d :: T) = d :: bhP x y T := by unfold bhP; rw [List.filter_cons_of_pos (by simp; omega)]
          rw [e1, e2, e3, e4]
          refine ⟨?_, by simp, by simp⟩
          simp only [List.nil_append]
          rw [← ih]

theorem cut_outs {x y : Nat} (hxy : x < y) (d : Piece) : (ahP x (cutP x y d)).length + (bhP x y (cutP x y d)).length ≤ 1 := by
  have hf : d.fin = d.org + d.bs.length := rfl
  unfold cutP
  split
  · rename_i h
    unfold ahP bhP
    by_cases h1 : d.fin < x
    · rw [List.filter_cons_of_pos (by simpa using h1), List.filter_cons_of_neg (by simp; omega)]; simp
    · rw [List.filter_cons_of_neg (by simpa using h1)]
      have := List.length_filter_le (fun d => decide (x < d.fin ∧ d.org ≠ y)) [d]
      simp only [List.filter_nil, List.length_nil, List.length_cons] at this ⊢
      omega
  · rename_i h
    have z1 : ∀ (b : Bool), (ahP x ((if d.org < x then [(⟨d.org, d.blk, d.cap, d.bs.take (x - d.org)⟩ : Piece)] else []) ++ (if y < d.fin then [⟨y, d.blk, d.cap, d.bs.drop (y - d.org)⟩] else []))) = [] := fun _ => by
      unfold ahP; rw [List.filter_eq_nil_iff]
      intro e he
      rcases List.mem_append.1 he with he | he
      · split at he
        · rw [List.mem_singleton] at he; subst he; simp [Piece.fin]; omega
        · simp at he
      · split at he
        · rw [List.mem_singleton] at he; subst he; simp [Piece.fin]; omega
        · simp at he
    have z2 : (bhP x y ((if d.org < x then [(⟨d.org, d.blk, d.cap, d.bs.take (x - d.org)⟩ : Piece)] else []) ++ (if y < d.fin then [⟨y, d.blk, d.cap, d.bs.drop (y - d.org)⟩] else []))) = [] := by
      unfold bhP; rw [List.filter_eq_nil_iff]
      intro e he
      rcases List.mem_append.1 he with he | he
      · split at he
        · rw [List.mem_singleton] at he; subst he; simp [Piece.fin]; omega
        · simp at he
      · split at he
        · rw [List.mem_singleton] at he; subst he; simp
        · simp at he
    rw [z1 true, z2]; simp
theorem taken_outs {x y : Nat} (hxy : x < y) : ∀ L : List Piece, (ahP x (takenP x y L)).length + (bhP x y (takenP x y L)).length ≤ L.length
  | [] => by simp [takenP, ahP, bhP]
  | d :: L => by
    have e : takenP x y (d :: L) = cutP x y d ++ takenP x y L := rfl
    have a1 : ∀ (A B : List Piece), ahP x (A ++ B) = ahP x A ++ ahP x B := fun A B => by unfold ahP; rw [List.filter_append]
    have a2 : ∀ (A B : List Piece), bhP x y (A ++ B) = bhP x y A ++ bhP x y B := fun A B => by unfold bhP; rw [List.filter_append]
    have := cut_outs hxy d
    have := taken_outs hxy L
    rw [e, a1, a2, List.length_append, List.length_append, List.length_cons]
    omega

theorem getD_three (A l C : List UInt8) (i : Nat) : (A ++ l ++ C).getD i 0 = if i < A.length then A.getD i 0 else if i < A.length + l.length then l.getD (i - A.length) 0 else C.getD (i - A.length - l.length) 0 := by
  simp only [List.getD_eq_getElem?_getD]
  split
  · rename_i h
    rw [List.getElem?_append_left (by rw [List.length_append]; omega), List.getElem?_append_left h]
  · rename_i h
    split
    · rename_i h2
      rw [List.getElem?_append_left (by rw [List.length_append]; omega), List.getElem?_append_right (by omega)]
    · rename_i h2
      rw [List.getElem?_append_right (by rw [List.length_append]; omega), List.length_append, Nat.sub_add_eq]

/-- What lies behind the bytes where nothing of T is in their place. -/
theorem lay_laid {L : List Piece} {x : Nat} {l : List UInt8} (hs : L.Pairwise (fun a b => a.fin < b.org)) (hne : ∀ d, d ∈ L → 0 < d.bs.length) (hl : 0 < l.length) (n : Piece)
    (hno : n.org = ((lfP x (takenP x (x + l.length) L)).getLast?.map fun d => d.org).getD x)
    (hnb : n.bs = (lfP x (takenP x (x + l.length) L)).flatMap (fun d => d.bs) ++ l ++ ((rtP x (x + l.length) (takenP x (x + l.length) L)).getLast?.map fun d => d.bs).getD []) :
    Laid L (ahP x (takenP x (x + l.length) L) ++ [n] ++ bhP x (x + l.length) (takenP x (x + l.length) L)) x l := by
  have hE := taken_erased (x := x) (y := x + l.length) hs hne (by omega)
  have hcn := taken_outs (x := x) (y := x + l.length) (by omega) L
  generalize takenP x (x + l.length) L = T at *
  have ho : ∀ d, d ∈ T → d.fin ≤ x ∨ x + l.length ≤ d.org := fun d hd => by
    obtain ⟨e, -, -, -, h⟩ := hE.inn d hd
    exact h (by omega)
  obtain ⟨hT, q1, q2⟩ := split4 (by omega) hE.sep hE.ne ho
  have hsT := hE.sep
  have hnT := hE.ne
  rw [hT] at hsT hnT
  have hlfm : ∀ d, d ∈ lfP x T → d ∈ T ∧ d.fin = x := fun d hd => by
    unfold lfP at hd; rw [List.mem_filter] at hd; exact ⟨hd.1, by simpa using hd.2⟩
  have hrtm : ∀ d, d ∈ rtP x (x + l.length) T → d ∈ T ∧ x < d.fin ∧ d.org = x + l.length := fun d hd => by
    unfold rtP at hd; rw [List.mem_filter] at hd; exact ⟨hd.1, by simpa using hd.2⟩
  have hbhm : ∀ d, d ∈ bhP x (x + l.length) T → d ∈ T ∧ x < d.fin ∧ d.org ≠ x + l.length := fun d hd => by
    unfold bhP at hd; rw [List.mem_filter] at hd; exact ⟨hd.1, by simpa using hd.2⟩
  have key : Laid (ahP x T ++ (lfP x T ++ rtP x (x + l.length) T) ++ bhP x (x + l.length) T) (ahP x T ++ [n] ++ bhP x (x + l.length) T) x l := by
    obtain ⟨F, hF, hFl⟩ : ∃ F, lfP x T = F ∧ F.length ≤ 1 := ⟨_, rfl, q1⟩
    obtain ⟨G, hG, hGl⟩ : ∃ G, rtP x (x + l.length) T = G ∧ G.length ≤ 1 := ⟨_, rfl, q2⟩
    rw [hF] at hno hnb hlfm hsT hnT ⊢
    rw [hG] at hnb hrtm hsT hnT ⊢
    have hA : ∀ d, d ∈ ahP x T → d.fin < x := fun d hd => by
      unfold ahP at hd; rw [List.mem_filter] at hd; simpa using hd.2
    have hB : ∀ d, d ∈ bhP x (x + l.length) T → x + l.length < d.org := fun d hd => by
      obtain ⟨h1, h2, h3⟩ := hbhm d hd
      have := ho d h1
      omega
    rcases F with _ | ⟨f, F⟩
    · rcases G with _ | ⟨g, G⟩
      · simp only [List.getLast?_nil, Option.map_none, Option.getD_none, List.flatMap_nil, List.nil_append, List.append_nil] at hno hnb hsT hnT ⊢
        have hlen : n.bs.length = l.length := by rw [hnb]
        rw [show ahP x T ++ bhP x (x + l.length) T = ahP x T ++ [] ++ bhP x (x + l.length) T by simp]
        refine laid_of (M := []) (by simpa using hsT) (by simpa using hnT) hA hB hl ⟨by omega, .inl hno⟩ ⟨by unfold Piece.fin; omega, .inl (by unfold Piece.fin; omega)⟩ (by simp) (fun p h1 h2 => .inl (by unfold Piece.fin at h2; omega)) (fun p h1 h2 => ?_) (by simp [heldOf, ovls]; omega)
        rw [if_pos (by unfold Piece.fin at h2; omega), hnb, hno]
      · obtain rfl : G = [] := by simpa using hGl
        obtain ⟨-, g2, g3⟩ := hrtm g (by simp)
        have gn := hnT g (by simp)
        have gf : g.fin = g.org + g.bs.length := rfl
        have nf : n.fin = n.org + n.bs.length := rfl
        simp only [List.getLast?_nil, List.getLast?_singleton, Option.map_none, Option.getD_none, Option.map_some, Option.getD_some, List.flatMap_nil, List.nil_append] at hno hnb hsT hnT ⊢
        have hlen : n.bs.length = l.length + g.bs.length := by rw [hnb, List.length_append]
        refine laid_of (M := [g]) hsT hnT hA hB hl ⟨by omega, .inl hno⟩ ⟨by omega, .inr ⟨g, by simp, by omega⟩⟩ (fun d hd => ?_) (fun p h1 h2 => ?_) (fun p h1 h2 => ?_) ?_
        · rw [List.mem_singleton] at hd; subst hd; omega
        · by_cases h3 : p < x + l.length
          · exact .inl (by omega)
          · exact .inr ⟨g, by simp, by omega, by omega⟩
        · rw [hnb, show l ++ g.bs = [] ++ l ++ g.bs from rfl, getD_three]
          simp only [List.length_nil, Nat.not_lt_zero, if_false, Nat.zero_add, Nat.sub_zero]
          by_cases h3 : p < x + l.length
          · rw [if_pos (by omega), if_pos (by omega), hno]
          · rw [if_neg (by omega), if_neg (by omega)]
            unfold byteAt
            rw [if_pos (by omega), hno, show p - x - l.length = p - g.org by omega]
        · simp [heldOf, ovls, ovl]; omega
    · obtain rfl : F = [] := by simpa using hFl
      obtain ⟨-, f2⟩ := hlfm f (by simp)
      have fn := hnT f (by simp)
      have ff : f.fin = f.org + f.bs.length := rfl
      have nf : n.fin = n.org + n.bs.length := rfl
      rcases G with _ | ⟨g, G⟩
      · simp only [List.getLast?_nil, List.getLast?_singleton, Option.map_none, Option.getD_none, Option.map_some, Option.getD_some, List.flatMap_cons, List.flatMap_nil, List.append_nil] at hno hnb hsT hnT ⊢
        have hlen : n.bs.length = f.bs.length + l.length := by rw [hnb, List.length_append]
        refine laid_of (M := [f]) hsT hnT hA hB hl ⟨by omega, .inr ⟨f, by simp, hno⟩⟩ ⟨by omega, .inl (by omega)⟩ (fun d hd => ?_) (fun p h1 h2 => ?_) (fun p h1 h2 => ?_) ?_
        · rw [List.mem_singleton] at hd; subst hd; omega
        · by_cases h3 : p < x
          · exact .inr ⟨f, by simp, by omega, by omega⟩
          · exact .inl (by omega)
        · rw [hnb, show f.bs ++ l = f.bs ++ l ++ [] by simp, getD_three]
          by_cases h3 : p < x
          · rw [if_pos (by omega), if_neg (by omega)]
            unfold byteAt
            rw [if_pos (by omega), hno]
          · rw [if_neg (by omega), if_pos (by omega), if_pos (by omega), show p - n.org - f.bs.length = p - x by omega]
        · simp [heldOf, ovls, ovl]; omega
      · obtain rfl : G = [] := by simpa using hGl
        obtain ⟨-, g2, g3⟩ := hrtm g (by simp)
        have gn := hnT g (by simp)
        have gf : g.fin = g.org + g.bs.length := rfl
        simp only [List.getLast?_singleton, Option.map_some, Option.getD_some, List.flatMap_cons, List.flatMap_nil, List.append_nil, List.singleton_append] at hno hnb hsT hnT ⊢
        have hlen : n.bs.length = f.bs.length + l.length + g.bs.length := by rw [hnb, List.length_append, List.length_append]
        refine laid_of (M := [f, g]) hsT hnT hA hB hl ⟨by omega, .inr ⟨f, by simp, hno⟩⟩ ⟨by omega, .inr ⟨g, by simp, by omega⟩⟩ (fun d hd => ?_) (fun p h1 h2 => ?_) (fun p h1 h2 => ?_) ?_
        · simp only [List.mem_cons, List.not_mem_nil, or_false] at hd
          rcases hd with rfl | rfl <;> omega
        · by_cases h3 : p < x
          · exact .inr ⟨f, by simp, by omega, by omega⟩
          · by_cases h4 : p < x + l.length
            · exact .inl (by omega)
            · exact .inr ⟨g, by simp, by omega, by omega⟩
        · rw [hnb, getD_three]
          by_cases h3 : p < x
          · rw [if_pos (by omega), if_neg (by omega)]
            unfold byteAt
            rw [if_pos (by omega), hno]
          · by_cases h4 : p < x + l.length
            · rw [if_neg (by omega), if_pos (by omega), if_pos (by omega), show p - n.org - f.bs.length = p - x by omega]
            · rw [if_neg (by omega), if_neg (by omega), if_neg (by omega)]
              unfold byteAt
              rw [if_neg (by omega)]
              unfold byteAt
              rw [if_pos (by omega), show p - n.org - f.bs.length - l.length = p - g.org by omega]
        · simp [heldOf, ovls, ovl]; omega
  rw [← hT] at key
  have hz : ovls x (x + l.length) T = 0 := ovls_zero fun d hd => by have := ho d hd; unfold ovl; omega
  refine ⟨key.sep, key.ne, fun m hm => ?_, ?_, fun p => ?_, fun p => ?_, ?_⟩
  · rcases key.fin m hm with h | ⟨d, hd, h⟩
    · exact .inl h
    · obtain ⟨e, he, -, h2, -⟩ := hE.inn d hd
      exact .inr ⟨e, he, by omega⟩
  · have h1 := key.held
    have h2 := hE.held
    rw [hz] at h1
    omega
  · rw [key.byte, hE.byte]
    split <;> rfl
  · rw [key.has, hE.has]
    by_cases hp : x ≤ p ∧ p < x + l.length <;> simp [hp]
  · simp only [List.length_append, List.length_cons, List.length_nil]
    omega
end Go.Proofs.Ytoagjgcpgpjjeaa

namespace Go.Proofs.Ytoagjgcpgpjjeaa
open Go.RowKit
set_option maxRecDepth 20000
attribute [local simp] lcells_nil readB_length bcells_length

structure RObj (w : World) (b N : Nat) (a : Option Addr) (c : Nat) (R : List RP) : Prop where
  obj : w.heap[b]? = some (.cells #[.slice a R.length c, .int .i64 N] 105 (0, 0))
  ps : PsAt w a R
  nb : ∀ r, r ∈ R → r.blk ≠ b
  na : ∀ ad, a = some ad → ad.block ≠ b
theorem RObj.ref {w : World} {b N : Nat} {a : Option Addr} {c : Nat} {R : List RP} (h : RObj w b N a c R) : RefAt w b N a c R :=
  ⟨by rw [cell_of_row w b _ _ _ _ h.obj]; rfl, by rw [cell_of_row w b _ _ _ _ h.obj]; rfl, h.ps⟩
theorem RObj.below {w w' : World} {b N : Nat} {a : Option Addr} {c : Nat} {R : List RP} (h : RObj w b N a c R) (hb : Below w.heap.size w w') : RObj w' b N a c R :=
  ⟨(hb.block _ (Array.getElem?_eq_some_iff.1 h.obj).1).trans h.obj, h.ps.below hb, h.nb, h.na⟩

/-- The blocks that the object reaches. -/
def RFoot (b : Nat) (a : Option Addr) (R : List RP) (k : Nat) : Prop := k = b ∨ (R ≠ [] ∧ ∃ ad, a = some ad ∧ ad.block = k) ∨ ∃ r, r ∈ R ∧ r.blk = k

theorem BsAt.upd {w w' : World} {F : Nat → Prop} {ad : Addr} {l : List UInt8} (h : BsAt w (some ad) l) (hu : Upd F w w') (hn : ¬ F ad.block) : BsAt w' (some ad) l := fun hl => by
  obtain ⟨ad', e, hc⟩ := h hl
  cases e
  refine ⟨ad, rfl, fun j v hj => ?_⟩
  have h1 := hc j v hj
  have hb := World.block_lt_of_cell? w _ h1
  have eb : (ad.add j).block = ad.block := by unfold Addr.add; split <;> rfl
  rw [World.cell?_of_block (hu.block _ hb (by rw [eb]; exact hn))]
  exact h1
theorem PsAt.upd {w w' : World} {F : Nat → Prop} {a : Option Addr} {R : List RP} (h : PsAt w a R) (hu : Upd F w w') (h1 : R ≠ [] → ∀ ad, a = some ad → ¬ F ad.block) (h2 : ∀ r, r ∈ R → ¬ F r.blk) : PsAt w' a R := by
  refine ⟨fun hne => ?_, fun r hr => (h.bs r hr).upd hu (h2 r hr), h.cp, h.le, h.cnt⟩
  obtain ⟨blk, off, rfl, hrd⟩ := h.rd hne
  refine ⟨blk, off, rfl, fun j r hj => ?_⟩
  obtain ⟨k0, k1⟩ := hrd j r hj
  have hb := World.block_lt_of_cell? w _ k0
  have hn := h1 hne _ rfl
  exact ⟨by rw [World.cell?_of_block (hu.block blk hb hn)]; exact k0, by rw [World.cell?_of_block (hu.block blk hb hn)]; exact k1⟩
theorem RObj.upd {w w' : World} {F : Nat → Prop} {b N : Nat} {a : Option Addr} {c : Nat} {R : List RP} (h : RObj w b N a c R) (hu : Upd F w w') (hF : ∀ k, RFoot b a R k → ¬ F k) : RObj w' b N a c R :=
  ⟨(hu.block b (Array.getElem?_eq_some_iff.1 h.obj).1 (hF b (.inl rfl))).trans h.obj, h.ps.upd hu (fun hne ad e => hF _ (.inr (.inl ⟨hne, ad, e, rfl⟩))) (fun r hr => hF _ (.inr (.inr ⟨r, hr, rfl⟩))), h.nb, h.na⟩

/-- What a piece tells of its bytes. -/
structure PcOk (w : World) (r : RP) : Prop where
  bs : BsAt w (some ⟨r.blk, r.off, none⟩) r.bs
  ne : 0 < r.bs.length
  cp : r.bs.length ≤ r.c
  le : r.at_ + r.bs.length ≤ 1073741824
theorem PsAt.ok {w : World} {a : Option Addr} {R : List RP} (h : PsAt w a R) {r : RP} (hr : r ∈ R) : PcOk w r := ⟨h.bs r hr, (h.cp r hr).1, (h.cp r hr).2, h.le r hr⟩
theorem PcOk.below {w w' : World} {r : RP} (h : PcOk w r) (hb : Below w.heap.size w w') : PcOk w' r := ⟨h.bs.below hb, h.ne, h.cp, h.le⟩

theorem bs_take {w : World} {blk off : Nat} {l : List UInt8} (z : Nat) (h : BsAt w (some ⟨blk, off, none⟩) l) : BsAt w (some ⟨blk, off, none⟩) (l.take z) := fun hne => by
  have hl : l ≠ [] := fun e => hne (by rw [e]; simp)
  obtain ⟨ad, e, hc⟩ := h hl
  refine ⟨ad, e, fun j v hj => hc j v ?_⟩
  have e2 : bcells (l.take z) = (bcells l).take z := by simp [bcells, List.map_take]
  rw [e2, List.getElem?_take] at hj
  split at hj
  · exact hj
  · cases hj
theorem bs_drop {w : World} {blk off : Nat} {l : List UInt8} (z : Nat) (h : BsAt w (some ⟨blk, off, none⟩) l) : BsAt w (some ⟨blk, off + z, none⟩) (l.drop z) := fun hne => by
  have hl : l ≠ [] := fun e => hne (by rw [e]; simp)
  obtain ⟨ad, e, hc⟩ := h hl
  cases e
  refine ⟨_, rfl, fun j v hj => ?_⟩
  have e2 : bcells (l.drop z) = (bcells l).drop z := by simp [bcells, List.map_drop]
  rw [e2, List.getElem?_drop] at hj
  have := hc _ v hj
  rw [Addr.add_lit] at this ⊢
  rw [Nat.add_assoc]
  exact this
theorem cutR_ok {w : World} {x y : Nat} {r q : RP} (h : PcOk w r) (hy : y ≤ 1073741824) (hq : q ∈ cutR x y r) : PcOk w q ∧ q.blk = r.blk := by
  have hne := h.ne
  have hcp := h.cp
  have hle := h.le
  unfold cutR at hq
  split at hq
  · rw [List.mem_singleton] at hq; subst hq; exact ⟨h, rfl⟩
  · rename_i h1
    rcases List.mem_append.1 hq with hq | hq
    · split at hq
      · rename_i h2
        rw [List.mem_singleton] at hq; subst hq
        exact ⟨⟨bs_take _ h.bs, by simp only [List.length_take]; omega, by simp only [List.length_take]; omega, by simp only [List.length_take]; omega⟩, rfl⟩
      · simp at hq
    · split at hq
      · rename_i h2
        rw [List.mem_singleton] at hq; subst hq
        exact ⟨⟨bs_drop _ h.bs, by simp only [List.length_drop]; omega, by simp only [List.length_drop]; omega, by simp only [List.length_drop]; omega⟩, rfl⟩
      · simp at hq
theorem takenR_ok {w : World} {x y : Nat} {R : List RP} (h : ∀ r, r ∈ R → PcOk w r) (hy : y ≤ 1073741824) {q : RP} (hq : q ∈ takenR x y R) : PcOk w q ∧ ∃ r, r ∈ R ∧ q.blk = r.blk := by
  obtain ⟨r, hr, hm⟩ := List.mem_flatMap.1 hq
  obtain ⟨h1, h2⟩ := cutR_ok (h r hr) hy hm
  exact ⟨h1, r, hr, h2⟩

/-- A list as taken answers it: a row of its own. -/
theorem ps_row {w : World} {base : Nat} {v : Value} {R : List RP} (h : w.ownsRow base 123 2 v R.length (rcells R)) (hk : ∀ r, r ∈ R → PcOk w r) (hn : R.length ≤ 1073741824) : ∃ a c, v = .slice a R.length c ∧ PsAt w a R ∧ ∀ ad, a = some ad → base ≤ ad.block := by
  rcases h.2 with ⟨e, hz⟩ | ⟨g, cap, cur, e, hbg, -⟩
  · obtain rfl : R = [] := List.eq_nil_of_length_eq_zero hz
    exact ⟨none, 0, e, ⟨fun hne => absurd rfl hne, by simp, by simp, by simp, by simp⟩, by simp⟩
  · exact ⟨some ⟨g, 0, none⟩, cap, e, psAt_of_row h (fun r hr => (hk r hr).bs) (fun r hr => ⟨(hk r hr).ne, (hk r hr).cp⟩) (fun r hr => (hk r hr).le) hn e (fun _ => ⟨g, rfl⟩), fun ad ha => by cases ha; exact hbg⟩

theorem pc_lt {W : World} {r : RP} (h : PcOk W r) : r.blk < W.heap.size := by
  obtain ⟨ad, e, hc⟩ := h.bs (List.length_pos_iff.1 h.ne)
  cases e
  have hl : 0 < (bcells r.bs).length := by rw [bcells_length]; exact h.ne
  have := World.block_lt_of_cell? W _ (hc 0 _ (List.getElem?_eq_getElem hl))
  rwa [Addr.add_lit] at this
theorem RObj.lt {w : World} {b N : Nat} {a : Option Addr} {c : Nat} {R : List RP} (h : RObj w b N a c R) {k : Nat} (hk : RFoot b a R k) : k < w.heap.size := by
  rcases hk with rfl | ⟨hne, ad, ha, rfl⟩ | ⟨r, hr, rfl⟩
  · exact (Array.getElem?_eq_some_iff.1 h.obj).1
  · obtain ⟨blk, off, e, hrd⟩ := h.ps.rd hne
    rw [ha] at e
    cases e
    cases R with
    | nil => exact absurd rfl hne
    | cons r R => exact World.block_lt_of_cell? w _ (hrd 0 r rfl).1
  · exact pc_lt (h.ps.ok hr)

/-! ### The parts of a list beside the bytes that are laid -/
def ahR (x : Nat) (T : List RP) : List RP := T.filter fun r => decide (r.at_ + r.bs.length < x)
def lfR (x : Nat) (T : List RP) : List RP := T.filter fun r => decide (r.at_ + r.bs.length = x)
def rtR (x y : Nat) (T : List RP) : List RP := T.filter fun r => decide (x < r.at_ + r.bs.length ∧ r.at_ = y)
def bhR (x y : Nat) (T : List RP) : List RP := T.filter fun r => decide (x < r.at_ + r.bs.length ∧ r.at_ ≠ y)
theorem ahR_pls (x : Nat) (T : List RP) : pls (ahR x T) = ahP x (pls T) := by unfold pls ahR ahP; rw [List.filter_map]; rfl
theorem lfR_pls (x : Nat) (T : List RP) : pls (lfR x T) = lfP x (pls T) := by unfold pls lfR lfP; rw [List.filter_map]; rfl
theorem rtR_pls (x y : Nat) (T : List RP) : pls (rtR x y T) = rtP x y (pls T) := by unfold pls rtR rtP; rw [List.filter_map]; rfl
theorem bhR_pls (x y : Nat) (T : List RP) : pls (bhR x y T) = bhP x y (pls T) := by unfold pls bhR bhP; rw [List.filter_map]; rfl

def lastV : Option RP → Value
  | none => .slice none 0 0
  | some r => .slice (some ⟨r.blk, r.off, none⟩) r.bs.length r.c
def oatR (x : Nat) (T : List RP) : Nat := ((lfR x T).getLast?.map fun r => r.at_).getD x
def olR (x : Nat) (T : List RP) : List UInt8 := (lfR x T).flatMap fun r => r.bs

theorem take_snoc {T : List RP} {k : Nat} {r : RP} (h : T[k]? = some r) : T.take (k + 1) = T.take k ++ [r] := by rw [List.take_add_one, h]; rfl
theorem parts_ah {x y : Nat} {T : List RP} {r : RP} (h : r.at_ + r.bs.length < x) : ahR x (T ++ [r]) = ahR x T ++ [r] ∧ lfR x (T ++ [r]) = lfR x T ∧ rtR x y (T ++ [r]) = rtR x y T ∧ bhR x y (T ++ [r]) = bhR x y T := by
  unfold ahR lfR rtR bhR
  simp only [List.filter_append]
  refine ⟨?_, ?_, ?_, ?_⟩
  · rw [List.filter_cons_of_pos (by simpa using h)]; rfl
  all_goals (rw [List.filter_cons_of_neg (by simp; omega)]; simp)
theorem parts_lf {x y : Nat} {T : List RP} {r : RP} (h : r.at_ + r.bs.length = x) : ahR x (T ++ [r]) = ahR x T ∧ lfR x (T ++ [r]) = lfR x T ++ [r] ∧ rtR x y (T ++ [r]) = rtR x y T ∧ bhR x y (T ++ [r]) = bhR x y T := by
  unfold ahR lfR rtR bhR
  simp only [List.filter_append]
  refine ⟨?_, ?_, ?_, ?_⟩
  · rw [List.filter_cons_of_neg (by simp; omega)]; simp
  · rw [List.filter_cons_of_pos (by simpa using h)]; rfl
  all_goals (rw [List.filter_cons_of_neg (by simp; omega)]; simp)
theorem parts_rt {x y : Nat} {T : List RP} {r : RP} (h : x < r.at_ + r.bs.length) (h2 : r.at_ = y) : ahR x (T ++ [r]) = ahR x T ∧ lfR x (T ++ [r]) = lfR x T ∧ rtR x y (T ++ [r]) = rtR x y T ++ [r] ∧ bhR x y (T ++ [r]) = bhR x y T := by
  unfold ahR lfR rtR bhR
  simp only [List.filter_append]
  refine ⟨?_, ?_, ?_, ?_⟩
  · rw [List.filter_cons_of_neg (by simp; omega)]; simp
  · rw [List.filter_cons_of_neg (by simp; omega)]; simp
  · rw [List.filter_cons_of_pos (by simp; omega)]; rfl
  · rw [List.filter_cons_of_neg (by simp; omega)]; simp
theorem parts_bh {x y : Nat} {T : List RP} {r : RP} (h : x < r.at_ + r.bs.length) (h2 : r.at_ ≠ y) : ahR x (T ++ [r]) = ahR x T ∧ lfR x (T ++ [r]) = lfR x T ∧ rtR x y (T ++ [r]) = rtR x y T ∧ bhR x y (T ++ [r]) = bhR x y T ++ [r] := by
  unfold ahR lfR rtR bhR
  simp only [List.filter_append]
  refine ⟨?_, ?_, ?_, ?_⟩
  · rw [List.filter_cons_of_neg (by simp; omega)]; simp
  · rw [List.filter_cons_of_neg (by simp; omega)]; simp
  · rw [List.filter_cons_of_neg (by simp; omega)]; simp
  · rw [List.filter_cons_of_pos (by simp; omega)]; rfl
theorem oatR_lf {x : Nat} {T T' : List RP} {r : RP} (h : lfR x T' = lfR x T ++ [r]) : oatR x T' = r.at_ ∧ olR x T' = olR x T ++ r.bs := by
  unfold oatR olR
  rw [h]
  simp
theorem oatR_id {x : Nat} {T T' : List RP} (h : lfR x T' = lfR x T) : oatR x T' = oatR x T ∧ olR x T' = olR x T := by
  unfold oatR olR
  rw [h]
  exact ⟨rfl, rfl⟩
end Go.Proofs.Ytoagjgcpgpjjeaa

namespace Go.Proofs.Ytoagjgcpgpjjeaa
open Go.RowKit
set_option maxRecDepth 20000
attribute [local simp] lcells_nil readB_length bcells_length

theorem olR_len (x : Nat) : ∀ T : List RP, (olR x T).length ≤ heldR T
  | [] => by simp [olR, lfR]
  | r :: T => by
    have ih := olR_len x T
    have e : heldR (r :: T) = r.bs.length + heldR T := by unfold heldR pls; rw [List.map_cons, heldOf_cons]; rfl
    unfold olR lfR at ih ⊢
    rw [e]
    by_cases h : r.at_ + r.bs.length = x
    · rw [List.filter_cons_of_pos (by simpa using h), List.flatMap_cons, List.length_append]; omega
    · rw [List.filter_cons_of_neg (by simpa using h)]; omega
theorem heldR_take_le (T : List RP) (k : Nat) : heldR (T.take k) ≤ heldR T := by
  have : heldR T = heldR (T.take k) + heldR (T.drop k) := by
    unfold heldR pls
    rw [← heldOf_append, ← List.map_append, List.take_append_drop]
  omega
theorem heldR_taken {x y : Nat} (h : x < y) (R : List RP) : heldR (takenR x y R) ≤ heldR R := by
  unfold heldR
  rw [takenR_pls]
  have := takenP_held h (pls R)
  omega
theorem filter_len (f : RP → Bool) (T : List RP) : (T.filter f).length ≤ T.length := List.length_filter_le _ _

theorem src_one {W : World} (q : RP) : SrcAt (W.alloc (.cells #[.int .i64 q.at_, .slice (some ⟨q.blk, q.off, none⟩) q.bs.length q.c] 123)) (.slice (some ⟨W.heap.size, 0, none⟩) 1 1) 1 (rcells [q]) :=
  ⟨_, _, rfl, fun _ => ⟨_, rfl, fun j u hj => new_cells W (rcells [q]) 123 j u hj⟩⟩

/-- The room that the rows ask for. -/
theorem room_row {n m : Nat} (h : n + m ≤ 33554432) : n + m ≤ maxLen ∧ (n + m) * 32 ≤ 140737488355328 := ⟨by unfold maxLen; omega, by omega⟩
theorem room_bytes {n m : Nat} (h : n + m ≤ 33554432) : n + m ≤ maxLen ∧ (n + m) * 1 ≤ 140737488355328 := ⟨by unfold maxLen; omega, by omega⟩

def lastB : Option RP → List UInt8
  | none => []
  | some r => r.bs
theorem src_last {W : World} (o : Option RP) (h : ∀ r, o = some r → BsAt W (some ⟨r.blk, r.off, none⟩) r.bs) : SrcAt W (lastV o) (lastB o).length (bcells (lastB o)) := by
  cases o with
  | none => exact ⟨none, 0, rfl, fun h => absurd h (by simp [lastB])⟩
  | some r => exact ⟨_, _, rfl, fun hp => h r rfl (List.length_pos_iff.1 hp)⟩
theorem src_own {W : World} {e : TypeId} {s : Nat} {v : Value} {n : Nat} {xs : List Value} (h : W.ownsRow 0 e s v n xs) : SrcAt W v n xs := by
  rcases h.2 with ⟨rfl, rfl⟩ | ⟨g, cap, cur, rfl, -⟩
  · exact ⟨none, 0, rfl, fun h => absurd h (by omega)⟩
  · exact ⟨_, _, rfl, fun _ => ⟨_, rfl, fun j u hj => h.cells rfl j u hj⟩⟩
theorem bs_own {W : World} {g n cap : Nat} {l : List UInt8} (h : W.ownsRow 0 5 1 (.slice (some ⟨g, 0, none⟩) n cap) n (bcells l)) : BsAt W (some ⟨g, 0, none⟩) l := fun _ => ⟨_, rfl, fun j u hj => h.cells rfl j u hj⟩

/-- The end of lay: the object, its list and its bytes. -/
theorem lay_done {w w1 w5 w7 : World} {b N : Nat} {a : Option Addr} {c : Nat} {R : List RP} {x : Nat} {l : List UInt8} {T : List RP} {ob : Nat} {v8 v9 : Value} {g cap : Nat} {va : Option Addr} {vn vc : Nat} {q : RP}
    (hR : RObj w b N a c R) (hsep : (pls R).Pairwise (fun a b => a.fin < b.org)) (h0 : 0 < l.length) (hxl : x + l.length ≤ 1073741824) (hTl : T.length ≤ 8388608)
    (hT : T = takenR x (x + l.length) R) (hTk : ∀ r, r ∈ T → PcOk w1 r ∧ ∃ q, q ∈ R ∧ r.blk = q.blk) (hb1 : Below w.heap.size w w1)
    (hq : q = ⟨oatR x T, g, 0, cap, olR x T ++ l ++ lastB (rtR x (x + l.length) T).getLast?⟩) (hqc : q.bs.length ≤ cap)
    (hL : Lays w5 w1.heap.size ob v8 v9 (.slice (some ⟨g, 0, none⟩) q.bs.length cap) (oatR x T) (ahR x T ++ [q]) (bhR x (x + l.length) T) q.bs) (hB5 : Below w1.heap.size w1 w5)
    (hu7 : Upd (fun k => v8.ownBlock = some k) (w5.setCell ⟨b, 0, none⟩ v8) w7) (hv7 : (Value.slice va vn vc).ownBlock = v8.ownBlock ∨ (Value.slice va vn vc).ownBlock = some (w5.setCell ⟨b, 0, none⟩ v8).heap.size)
    (hvn : vn = (ahR x T ++ [q] ++ bhR x (x + l.length) T).length)
    (hr7 : w7.ownsRow 0 123 2 (.slice va vn vc) vn (rcells (ahR x T ++ [q] ++ bhR x (x + l.length) T))) :
    w7.heap[b]? = some (.cells #[v8, .int .i64 N] 105 (0, 0)) ∧ ∃ a' c' R', RObj (w7.setCell ⟨b, 0, none⟩ (.slice va vn vc)) b N a' c' R' ∧ Laid (pls R) (pls R') x l ∧ (∀ k, RFoot b a' R' k → RFoot b a R k ∨ w.heap.size ≤ k) ∧ Upd (fun k => k = b) w (w7.setCell ⟨b, 0, none⟩ (.slice va vn vc)) := by
  have hbw : b < w.heap.size := (Array.getElem?_eq_some_iff.1 hR.obj).1
  have hs1 := hb1.size
  have hs5 := hB5.size
  have hb5 : w5.heap[b]? = some (.cells #[.slice a R.length c, .int .i64 N] 105 (0, 0)) := (hB5.block b (by omega)).trans ((hb1.block b hbw).trans hR.obj)
  have e6 : (w5.setCell ⟨b, 0, none⟩ v8).heap[b]? = some (.cells #[v8, .int .i64 N] 105 (0, 0)) := by
    rw [setCell_eq_setRow w5 b 0 _ _ _ v8 hb5]; exact setRow_heap w5 b _ _ _ _ hb5
  have nb8 : ¬ v8.ownBlock = some b := fun h => by have := (hL.g8 b h).1; omega
  have e7 : w7.heap[b]? = some (.cells #[v8, .int .i64 N] 105 (0, 0)) := (hu7.block b (by simp; omega) nb8).trans e6
  refine ⟨e7, ?_⟩
  obtain ⟨w8, hw8⟩ : ∃ w8, w8 = w7.setCell ⟨b, 0, none⟩ (.slice va vn vc) := ⟨_, rfl⟩
  have e8 : w8.heap[b]? = some (.cells #[.slice va vn vc, .int .i64 N] 105 (0, 0)) := by
    rw [hw8, setCell_eq_setRow w7 b 0 _ _ _ _ e7]; exact setRow_heap w7 b _ _ _ _ e7
  rw [← hw8]
  have u6 : Upd (fun k => k = b) w5 (w5.setCell ⟨b, 0, none⟩ v8) := Upd.setCell (F := fun k => k = b) (p := ⟨b, 0, none⟩) rfl _
  have u8 : Upd (fun k => k = b) w7 w8 := by rw [hw8]; exact Upd.setCell (F := fun k => k = b) (p := ⟨b, 0, none⟩) rfl _
  have s6 : (w5.setCell ⟨b, 0, none⟩ v8).heap.size = w5.heap.size := by simp
  have U1 : Upd (fun k => k = b) w1 w8 := by
    refine ⟨?_, ?_, ?_, ?_, fun k hk hn => ?_⟩
    · rw [u8.os, hu7.os, u6.os, hB5.os]
    · rw [u8.tape, hu7.tape, u6.tape, hB5.tape]
    · rw [u8.output, hu7.output, u6.output, hB5.output]
    · have := u8.size; have := hu7.size; omega
    · rw [u8.block k (by have := hu7.size; omega) hn, hu7.block k (by omega) (fun h => by have := (hL.g8 k h).1; omega), u6.block k (by omega) hn, hB5.block k hk]
  have UW : Upd (fun k => k = b) w w8 := (Upd.of_below hb1).trans U1 (fun _ _ h => h)
  have hTp : pls T = takenP x (x + l.length) (pls R) := by rw [hT, takenR_pls]
  have hne : ∀ d, d ∈ pls R → 0 < d.bs.length := fun d hd => by
    obtain ⟨r, hr, rfl⟩ := List.mem_map.1 hd
    exact (hR.ps.cp r hr).1
  have hLaid : Laid (pls R) (pls (ahR x T ++ [q] ++ bhR x (x + l.length) T)) x l := by
    have e1 : pls (ahR x T ++ [q] ++ bhR x (x + l.length) T) = ahP x (takenP x (x + l.length) (pls R)) ++ [q.pl] ++ bhP x (x + l.length) (takenP x (x + l.length) (pls R)) := by
      rw [← hTp, ← ahR_pls, ← bhR_pls]
      unfold pls
      rw [List.map_append, List.map_append]; rfl
    rw [e1]
    refine lay_laid hsep hne h0 q.pl ?_ ?_
    · rw [← hTp, ← lfR_pls]
      show q.at_ = _
      rw [hq]
      unfold oatR pls
      rw [List.getLast?_map, Option.map_map]; rfl
    · rw [← hTp, ← lfR_pls, ← rtR_pls]
      show q.bs = _
      rw [hq]
      unfold olR pls
      rw [List.flatMap_map, List.getLast?_map, Option.map_map]
      cases (rtR x (x + l.length) T).getLast? <;> rfl
  have hqp : 0 < q.bs.length := by rw [hq]; simp only [List.length_append]; omega
  have hqB8 : w8.ownsRow 0 5 1 (.slice (some ⟨g, 0, none⟩) q.bs.length cap) q.bs.length (bcells q.bs) := by
    have h1 := hL.rB
    have hgB := fun k hk => hL.gB k hk
    refine u8.row (hu7.row (u6.row h1 (fun k hk e => ?_)) (fun k hk e => ?_)) (fun k hk e => ?_)
    · have := (hgB k hk).1; omega
    · exact (hL.g8 k e).2.2.2 hk
    · have := (hgB k hk).1; omega
  have hgw : w1.heap.size ≤ g := (hL.gB g rfl).1
  have hok : ∀ r, r ∈ ahR x T ++ [q] ++ bhR x (x + l.length) T → PcOk w8 r ∧ r.blk ≠ b ∧ (RFoot b a R r.blk ∨ w.heap.size ≤ r.blk) := fun r hr => by
    have hTr : r ∈ T → PcOk w8 r ∧ r.blk ≠ b ∧ (RFoot b a R r.blk ∨ w.heap.size ≤ r.blk) := fun hm => by
      obtain ⟨h1, s, hs, h2⟩ := hTk r hm
      have hnb : r.blk ≠ b := by rw [h2]; exact hR.nb s hs
      exact ⟨⟨h1.bs.upd U1 hnb, h1.ne, h1.cp, h1.le⟩, hnb, .inl (.inr (.inr ⟨s, hs, h2.symm⟩))⟩
    simp only [List.mem_append, List.mem_singleton] at hr
    rcases hr with (hr | rfl) | hr
    · exact hTr (List.mem_filter.1 hr).1
    · refine ⟨⟨?_, hqp, ?_, ?_⟩, ?_, .inr ?_⟩
      · have := bs_own hqB8; rw [hq]; rw [hq] at this; exact this
      · rw [hq]; rw [hq] at hqc; exact hqc
      · have h1 := hLaid.fin r.pl (by unfold pls; rw [List.map_append, List.map_append]; simp)
        have e1 : r.pl.fin = r.at_ + r.bs.length := rfl
        rcases h1 with h1 | ⟨d, hd, h1⟩
        · omega
        · obtain ⟨s, hs, rfl⟩ := List.mem_map.1 hd
          have h2 := hR.ps.le s hs
          have e2 : s.pl.fin = s.at_ + s.bs.length := rfl
          omega
      · rw [hq]; show g ≠ b; omega
      · rw [hq]; show w.heap.size ≤ g; omega
    · exact hTr (List.mem_filter.1 hr).1
  have hr8 : w8.ownsRow 0 123 2 (.slice va vn vc) vn (rcells (ahR x T ++ [q] ++ bhR x (x + l.length) T)) := u8.row hr7 (fun k hk e => by
    subst e
    rcases hv7 with hv | hv
    · rw [hv] at hk; exact nb8 hk
    · rw [hv] at hk; have : (w5.setCell ⟨k, 0, none⟩ v8).heap.size = k := by simpa using hk
      omega)
  have hlen : (ahR x T ++ [q] ++ bhR x (x + l.length) T).length ≤ 1073741824 := by
    have h1 : (ahR x T).length ≤ T.length := List.length_filter_le _ _
    have h2 : (bhR x (x + l.length) T).length ≤ T.length := List.length_filter_le _ _
    simp only [List.length_append, List.length_cons, List.length_nil]
    omega
  subst hvn
  obtain ⟨a', c', e, hps, hba⟩ := ps_row hr8 (fun r hr => (hok r hr).1) hlen
  have hva : ∀ ad, a' = some ad → w1.heap.size ≤ ad.block := fun ad ha => by
    have hk : (Value.slice va (ahR x T ++ [q] ++ bhR x (x + l.length) T).length vc).ownBlock = some ad.block := by
      rw [e, ha]; rcases hr8.2 with ⟨h1, h2⟩ | ⟨g', cap', cur', h1, -⟩
      · simp at h2
      · rw [e, ha] at h1
        injection h1 with h1
        injection h1 with h1
        rw [h1]; rfl
    rcases hv7 with hv | hv
    · rw [hv] at hk; exact (hL.g8 _ hk).1
    · rw [hv] at hk; have : w5.heap.size = ad.block := by simpa using hk
      omega
  refine ⟨a', c', _, ⟨by rw [e8, e], hps, fun r hr => (hok r hr).2.1, fun ad ha => by have := hva ad ha; omega⟩, hLaid, fun k hk => ?_, UW⟩
  rcases hk with rfl | ⟨-, ad, ha, rfl⟩ | ⟨r, hr, rfl⟩
  · exact .inl (.inl rfl)
  · exact .inr (by have := hva ad ha; omega)
  · exact (hok r hr).2.2

end Go.Proofs.Ytoagjgcpgpjjeaa

namespace Go.Proofs.Ytoagjgcpgpjjeaa
open Go.RowKit
set_option maxRecDepth 20000
attribute [local simp] lcells_nil readB_length bcells_length

set_option maxHeartbeats 4000000 in
theorem layRef_walk (b N : Nat) (a : Option Addr) (c : Nat) (R : List RP) (x : Nat) (ba : Option Addr) (l : List UInt8) (bc : Nat) (w : World) (hR : RObj w b N a c R) (hn : R.length ≤ 4194304) (hsep : (pls R).Pairwise (fun a b => a.fin < b.org)) (hh : heldR R ≤ 4194304) (hbs : BsAt w ba l) (h0 : 0 < l.length) (hl : l.length ≤ 4194304) (hxl : x + l.length ≤ 1073741824) :
    Calls Try.prog 42 #[.pointer (some ⟨b, 0, none⟩), .int .i64 x, .slice ba l.length bc] w fun e w' => e = .returned (.tuple #[]) ∧ ∃ a' c' R', RObj w' b N a' c' R' ∧ Laid (pls R) (pls R') x l ∧ (∀ k, RFoot b a' R' k → RFoot b a R k ∨ w.heap.size ≤ k) ∧ Upd (fun k => k = b) w w' := by
  have T1 := takenRef_walk b N a c R x (x + l.length) w hR.ref (by omega) (by omega) hn
  rw [Int.natCast_add] at T1
  have HT1 := aside T1
  have hlz : ¬ ((l.length : Int) = 0) := by omega
  have hlz2 : ¬ (l.length = 0) := by omega
  have HR := aside hR
  have HBS := aside hbs
  clear T1 hR hbs
  go_enter Try.func42, Try.ntmps42
  go_wp2_with fail
  refine HT1.out.mono ?_
  rintro e w1 ⟨v6, rfl, hrow, hb1⟩
  obtain ⟨T, hT⟩ : ∃ T, T = takenR x (x + l.length) R := ⟨_, rfl⟩
  rw [← hT] at hrow
  have hTl : T.length ≤ 8388608 := by have := takenR_len x (x + l.length) R; rw [← hT] at this; omega
  have hTh : heldR T ≤ 4194304 := by have := heldR_taken (x := x) (y := x + l.length) (by omega) R; rw [← hT] at this; omega
  have hTk : ∀ r, r ∈ T → PcOk w1 r ∧ ∃ q, q ∈ R ∧ r.blk = q.blk := fun r hr => by
    obtain ⟨h1, h2⟩ := takenR_ok (x := x) (y := x + l.length) (fun q hq => HR.out.ps.ok hq) (by omega) (hT ▸ hr)
    exact ⟨h1.below hb1, h2⟩
  obtain ⟨aT, cT, rfl, hps, haT⟩ := ps_row hrow (fun r hr => (hTk r hr).1) (by omega)
  have HTE := aside hT
  have HPS := aside hps
  have HTK := aside hTk
  have HAT := aside haT
  have HB1 := aside hb1
  have hsz1 := hb1.size
  clear hT hrow hTk hps haT hb1
  go_wp2_with fail
  go_loopw [8, 9, 10, 11] (fun s8 s9 s10 s11 wr => ∃ (k : Nat) (vB : Value), k ≤ T.length ∧ s11 = .int .i64 k ∧ s10 = lastV (rtR x (x + l.length) (T.take k)).getLast? ∧ Aside (Lays wr w1.heap.size w1.heap.size s8 s9 vB (oatR x (T.take k)) (ahR x (T.take k)) (bhR x (x + l.length) (T.take k)) (olR x (T.take k))) ∧ Aside (Below w1.heap.size w1 wr)) (fun _ _ _ s11 _ => T.length - (intOf s11).toNat)
  case atStart =>
    refine ⟨0, .slice none 0 0, Nat.zero_le _, rfl, rfl, ?_, below_al w1 _⟩
    exact ⟨World.ownsRow_nil _ _ _ _, World.ownsRow_nil _ _ _ _, World.ownsRow_nil _ _ _ _, heap_alloc_new w1 _, by simp [Value.ownBlock], by simp [Value.ownBlock], by simp [Value.ownBlock]⟩
  case round =>
    obtain ⟨k, vB, hk, rfl, rfl, hLy, hB⟩ := hrel
    have HPr := aside (HPS.out.below hB.out)
    have hLO := aside hLy.out.ow
    by_cases h1 : k < T.length
    · have t1 : (k : Int) < (T.length : Int) := by omega
      have hkm : T[k]? = some T[k] := List.getElem?_eq_getElem h1
      have hrk := HTK.out T[k] (List.getElem_mem h1)
      obtain ⟨blk, off, rfl, hrd⟩ := HPr.out.rd (by intro h; simp [h] at h1)
      obtain ⟨r0, r1⟩ := hrd k _ hkm
      clear hrd
      have TS := aside (take_snoc hkm)
      have hol := Nat.le_trans (olR_len x (T.take k)) (heldR_take_le T k)
      have hal : (ahR x (T.take k)).length ≤ k := Nat.le_trans (filter_len _ _) (by simp; omega)
      have hbl : (bhR x (x + l.length) (T.take k)).length ≤ k := Nat.le_trans (filter_len _ _) (by simp; omega)
      have hbt : T[k].bs.length ≤ 4194304 := by have := heldR_take hkm; have := heldR_take_le T (k + 1); omega
      clear hkm
      generalize T[k] = r at *
      have hle := hrk.1.le
      have hne := hrk.1.ne
      have HRK := aside hrk
      clear hrk
      have EN := aside (fun W => end_any r.at_ r.bs.length (some ⟨r.blk, r.off, none⟩) r.c W (by omega))
      go_wp2_with fail
      refine (EN.out _).mono ?_
      rintro e w2 ⟨rfl, hb2⟩
      have al := below_al wr (.cells #[.int .i64 r.at_, .slice (some ⟨r.blk, r.off, none⟩) r.bs.length r.c] 123)
      have hw2 := below_tr al hb2
      have bx : w2.heap[wr.heap.size]? = some (.cells #[.int .i64 r.at_, .slice (some ⟨r.blk, r.off, none⟩) r.bs.length r.c] 123 (0, 0)) := (hb2.block _ (by simp)).trans (heap_alloc_new wr _)
      have BX := aside bx
      have p0 : w2.cell? ⟨wr.heap.size, 0, none⟩ = some (.int .i64 r.at_) := by rw [cell_of_row _ _ 0 _ _ _ bx]; rfl
      have p1 : w2.cell? ⟨wr.heap.size, 1, none⟩ = some (.slice (some ⟨r.blk, r.off, none⟩) r.bs.length r.c) := by rw [cell_of_row _ _ 1 _ _ _ bx]; rfl
      have LY := aside (hLy.out.below hw2)
      have B2 := aside (hB.out.trans (hw2.mono hB.out.size))
      have hs2 := B2.out.size
      have wrs := hw2.size
      clear al hb2 hw2 bx r0 r1 hLy
      by_cases c1 : r.at_ + r.bs.length < x
      · have t2 : ((r.at_ + r.bs.length : Nat) : Int) < (x : Int) := by omega
        obtain ⟨e1, e2, e3, e4⟩ := parts_ah (x := x) (y := x + l.length) (T := T.take k) c1
        rw [← TS.out] at e1 e2 e3 e4
        have E := aside (And.intro e1 (And.intro e2 (And.intro e3 e4)))
        have RM := aside (room_row (n := (ahR x (T.take k)).length) (m := 1) (by omega))
        have L8 := aside ((LY.out.below (below_al w2 (.cells #[.int .i64 r.at_, .slice (some ⟨r.blk, r.off, none⟩) r.bs.length r.c] 123))).r8)
        clear e1 e2 e3 e4
        go_wp2_with (at_builtin; refine wpList_append_any _ rfl _ _ 103 rfl 123 (.agg #[.int .i64 0, .slice none 0 0]) 2 32 Try.underlying103 info59 rfl (by decide) u8 _ (rcells (ahR x (T.take k))) rfl L8.out _ 1 (rcells [r]) rfl rfl (src_one r) (rcells_one _) RM.out.1 RM.out.2 ?_; intro v' w4 ho hu hv)
        have LZ := LY.out.below (below_al w2 (.cells #[.int .i64 r.at_, .slice (some ⟨r.blk, r.off, none⟩) r.bs.length r.c] 123))
        have B3 := hB
        have R8 := aside (LZ.app8 (A' := ahR x (T.take k) ++ [r]) (by simp; omega) (by rw [List.length_append, rcells_append]; exact ho) hu hv)
        have B4 : Aside (Below w1.heap.size w1 w4) := (B2.out.trans ((below_al w2 _).mono hs2)).trans (hu.below (by simp; omega) (fun q hq => (LZ.g8 q hq).1))
        clear ho hu hv LZ B3
        go_roundw
        case rel =>
          refine ⟨k + 1, vB, by omega, by go_num, by rw [E.out.2.2.1], ?_, B4⟩
          rw [E.out.1, E.out.2.2.2, (oatR_id E.out.2.1).1, (oatR_id E.out.2.1).2]
          exact R8
        case measure => simp [intOf]; omega
      · have t2 : ¬ (((r.at_ + r.bs.length : Nat) : Int) < (x : Int)) := by omega
        go_wp2_with fail
        refine (EN.out _).mono ?_
        rintro e w3 ⟨rfl, hb3⟩
        have p0' : w3.cell? ⟨wr.heap.size, 0, none⟩ = some (.int .i64 r.at_) := (hb3.cell (World.block_lt_of_cell? w2 _ p0)).trans p0
        have p1' : w3.cell? ⟨wr.heap.size, 1, none⟩ = some (.slice (some ⟨r.blk, r.off, none⟩) r.bs.length r.c) := (hb3.cell (World.block_lt_of_cell? w2 _ p1)).trans p1
        have LY3 := aside (LY.out.below hb3)
        have B3 := aside (B2.out.trans (hb3.mono hs2))
        have hs3 := B3.out.size
        have hpo : wr.heap.size ≠ w1.heap.size := by have := (Array.getElem?_eq_some_iff.1 hLO.out).1; omega
        clear hb3 p0 p1 LY B2
        by_cases c2 : r.at_ + r.bs.length = x
        · have t3 : ((r.at_ + r.bs.length : Nat) : Int) = (x : Int) := by omega
          obtain ⟨e1, e2, e3, e4⟩ := parts_lf (x := x) (y := x + l.length) (T := T.take k) c2
          rw [← TS.out] at e1 e2 e3 e4
          have E := aside (And.intro e1 (And.intro e2 (And.intro e3 e4)))
          clear e1 e2 e3 e4
          have LA := aside (LY3.out.at_ (n := r.at_))
          obtain ⟨q0, q1, f0, f1⟩ := LY3.out.cells
          obtain ⟨s0, s1, g0, g1⟩ := LA.out.cells
          have U3 : Upd (fun k => k = w1.heap.size) w3 (w3.setCell ⟨w1.heap.size, 0, none⟩ (.int .i64 r.at_)) := Upd.setCell (F := fun k => k = w1.heap.size) (p := ⟨w1.heap.size, 0, none⟩) rfl _
          have p2 : (w3.setCell ⟨w1.heap.size, 0, none⟩ (.int .i64 r.at_)).cell? ⟨wr.heap.size, 1, none⟩ = some (.slice (some ⟨r.blk, r.off, none⟩) r.bs.length r.c) := by
            rw [World.cell?_of_block (U3.block _ (World.block_lt_of_cell? w3 _ p1') hpo)]; exact p1'
          have BA : Aside (Below w1.heap.size w1 (w3.setCell ⟨w1.heap.size, 0, none⟩ (.int .i64 r.at_))) := B3.out.trans (U3.below hs3 (fun q hq => by omega))
          have SR : Aside (SrcAt (w3.setCell ⟨w1.heap.size, 0, none⟩ (.int .i64 r.at_)) (.slice (some ⟨r.blk, r.off, none⟩) r.bs.length r.c) r.bs.length (bcells r.bs)) := ⟨_, _, rfl, fun _ => (HRK.out.1.bs.below BA.out) (List.length_pos_iff.1 hne)⟩
          have RM := aside (room_bytes (n := (olR x (T.take k)).length) (m := r.bs.length) (by omega))
          have hll := aside (show (bcells r.bs).length = r.bs.length * 1 by simp)
          have hbsz : w1.heap.size ≤ (w3.setCell ⟨w1.heap.size, 0, none⟩ (.int .i64 r.at_)).heap.size := by simp; omega
          have LB := aside LA.out.rB
          clear U3 hs3
          go_upto_region 15 with fail
          generalize w3.setCell ⟨w1.heap.size, 0, none⟩ (.int .i64 r.at_) = wA at *
          go_wp2_with (first
            | (at_builtin; refine wpList_append_any _ rfl _ _ 22 rfl 5 (.int .u8 0) 1 1 Try.underlying22 info5 rfl (by decide) vB _ (bcells (olR x (T.take k))) rfl LB.out _ r.bs.length (bcells r.bs) rfl hll.out SR.out (bcells_one _) RM.out.1 RM.out.2 ?_; intro v' w4 ho hu hv; obtain ⟨ga, gc, rfl, -⟩ := own_slice ho; obtain ⟨ob4, LC⟩ := LA.out.appB (oL' := olR x (T.take k) ++ r.bs) hbsz (by rw [List.length_append, show bcells (olR x (T.take k) ++ r.bs) = bcells (olR x (T.take k)) ++ bcells r.bs by simp [bcells]]; exact ho) hu hv; have z1 : w4.cell? ⟨w1.heap.size, 1, none⟩ = some vB := (by rw [cell_of_row w4 _ _ _ _ _ ob4]; rfl); have z2 : w4.frozen? ⟨w1.heap.size, 1, none⟩ = false := frozen_of_row w4 _ 1 _ _ ob4; have LC := aside LC; have BU : Aside (Below w1.heap.size w1 (w4.setCell ⟨w1.heap.size, 1, none⟩ (.slice ga ((olR x (T.take k)).length + r.bs.length) gc))) := ((BA.out.trans (hu.below hbsz (fun q hq => (LA.out.gB q hq).1))).trans ((Upd.setCell (F := fun k => k = w1.heap.size) (p := ⟨w1.heap.size, 1, none⟩) (w := w4) rfl _).below (Nat.le_trans hbsz hu.size) (fun q hq => by omega))); clear ho hu hv ob4))
          go_roundw
          case rel =>
            refine ⟨k + 1, .slice ga ((olR x (T.take k)).length + r.bs.length) gc, by omega, by go_num, by rw [E.out.2.2.1], ?_, BU⟩
            rw [E.out.1, E.out.2.2.2, (oatR_lf E.out.2.1).1, (oatR_lf E.out.2.1).2]
            exact LC
          case measure => simp [intOf]; omega
        · have t3 : ¬ (((r.at_ + r.bs.length : Nat) : Int) = (x : Int)) := by omega
          by_cases c3 : r.at_ = x + l.length
          · have t4 : (r.at_ : Int) = (x : Int) + (l.length : Int) := by omega
            obtain ⟨e1, e2, e3, e4⟩ := parts_rt (x := x) (y := x + l.length) (T := T.take k) (r := r) (by omega) c3
            rw [← TS.out] at e1 e2 e3 e4
            have E := aside (And.intro e1 (And.intro e2 (And.intro e3 e4)))
            clear e1 e2 e3 e4
            have hE3 := aside (show lastV (rtR x (x + l.length) (T.take (k + 1))).getLast? = .slice (some ⟨r.blk, r.off, none⟩) r.bs.length r.c by rw [E.out.2.2.1]; simp [lastV])
            go_wp2_with fail
            go_roundw
            case rel =>
              refine ⟨k + 1, vB, by omega, by go_num, by rw [hE3.out], ?_, B3⟩
              rw [E.out.1, E.out.2.2.2, (oatR_id E.out.2.1).1, (oatR_id E.out.2.1).2]
              exact LY3
            case measure => simp [intOf]; omega
          · have t4 : ¬ ((r.at_ : Int) = (x : Int) + (l.length : Int)) := by omega
            obtain ⟨e1, e2, e3, e4⟩ := parts_bh (x := x) (y := x + l.length) (T := T.take k) (r := r) (by omega) c3
            rw [← TS.out] at e1 e2 e3 e4
            have E := aside (And.intro e1 (And.intro e2 (And.intro e3 e4)))
            have RM := aside (room_row (n := (bhR x (x + l.length) (T.take k)).length) (m := 1) (by omega))
            have L9 := aside ((LY3.out.below (below_al w3 (.cells #[.int .i64 r.at_, .slice (some ⟨r.blk, r.off, none⟩) r.bs.length r.c] 123))).r9)
            clear e1 e2 e3 e4
            go_wp2_with (at_builtin; refine wpList_append_any _ rfl _ _ 103 rfl 123 (.agg #[.int .i64 0, .slice none 0 0]) 2 32 Try.underlying103 info59 rfl (by decide) u9 _ (rcells (bhR x (x + l.length) (T.take k))) rfl L9.out _ 1 (rcells [r]) rfl rfl (src_one r) (rcells_one _) RM.out.1 RM.out.2 ?_; intro v' w4 ho hu hv)
            have LZ := LY3.out.below (below_al w3 (.cells #[.int .i64 r.at_, .slice (some ⟨r.blk, r.off, none⟩) r.bs.length r.c] 123))
            have R9 := aside (LZ.app9 (C' := bhR x (x + l.length) (T.take k) ++ [r]) (by simp; omega) (by rw [List.length_append, rcells_append]; exact ho) hu hv)
            have B4 : Aside (Below w1.heap.size w1 w4) := (B3.out.trans ((below_al w3 _).mono hs3)).trans (hu.below (by simp; omega) (fun q hq => (LZ.g9 q hq).1))
            clear ho hu hv LZ
            go_roundw
            case rel =>
              refine ⟨k + 1, vB, by omega, by go_num, by rw [E.out.2.2.1], ?_, B4⟩
              rw [E.out.1, E.out.2.2.2, (oatR_id E.out.2.1).1, (oatR_id E.out.2.1).2]
              exact R9
            case measure => simp [intOf]; omega
    · obtain rfl : k = T.length := by omega
      have t1 : ¬ ((T.length : Int) < (T.length : Int)) := by omega
      rw [List.take_length] at hLy
      rw [List.take_length]
      have hs := hB.out.size
      have hol := olR_len x T
      have hal : (ahR x T).length ≤ T.length := filter_len _ _
      have hbl : (bhR x (x + l.length) T).length ≤ T.length := filter_len _ _
      obtain ⟨o, ho'⟩ : ∃ o, o = (rtR x (x + l.length) T).getLast? := ⟨_, rfl⟩
      have hom : ∀ r, o = some r → r ∈ T := fun r hr => by
        have : r ∈ rtR x (x + l.length) T := List.mem_of_getLast? (by rw [← ho', hr])
        exact (List.mem_filter.1 this).1
      have hlb : (lastB o).length ≤ 4194304 := by
        cases o with
        | none => simp [lastB]
        | some r =>
          obtain ⟨j, hj⟩ := List.mem_iff_getElem?.1 (hom r rfl)
          have := heldR_take hj
          have := heldR_take_le T (j + 1)
          show r.bs.length ≤ 4194304
          omega
      rw [← ho']
      have HO := aside ho'
      have HOM := aside hom
      clear ho' hom
      obtain ⟨q0, q1, f0, f1⟩ := hLy.out.cells
      have SR : Aside (SrcAt wr (.slice ba l.length bc) l.length (bcells l)) := ⟨_, _, rfl, fun hp => (HBS.out.below (HB1.out.trans (hB.out.mono hsz1))) (List.length_pos_iff.1 hp)⟩
      have RM := aside (room_bytes (n := (olR x T).length) (m := l.length) (by omega))
      have hll := aside (show (bcells l).length = l.length * 1 by simp)
      have LB := aside hLy.out.rB
      go_wp2_with (at_builtin; refine wpList_append_any _ rfl _ _ 22 rfl 5 (.int .u8 0) 1 1 Try.underlying22 info5 rfl (by decide) vB _ (bcells (olR x T)) rfl LB.out _ l.length (bcells l) rfl hll.out SR.out (bcells_one _) RM.out.1 RM.out.2 ?_)
      intro v' w4 ho hu hv
      obtain ⟨ga, gc, rfl, -⟩ := own_slice ho
      obtain ⟨ob4, LC⟩ := hLy.out.appB (oL' := olR x T ++ l) hs (by rw [List.length_append, show bcells (olR x T ++ l) = bcells (olR x T) ++ bcells l by simp [bcells]]; exact ho) hu hv
      have z1 : w4.cell? ⟨w1.heap.size, 1, none⟩ = some vB := by rw [cell_of_row w4 _ _ _ _ _ ob4]; rfl
      have z2 : w4.frozen? ⟨w1.heap.size, 1, none⟩ = false := frozen_of_row w4 _ 1 _ _ ob4
      have BC : Aside (Below w1.heap.size w1 (w4.setCell ⟨w1.heap.size, 1, none⟩ (.slice ga ((olR x T).length + l.length) gc))) := (hB.out.trans (hu.below hs (fun q hq => (hLy.out.gB q hq).1))).trans ((Upd.setCell (F := fun k => k = w1.heap.size) (p := ⟨w1.heap.size, 1, none⟩) (w := w4) rfl _).below (Nat.le_trans hs hu.size) (fun q hq => by omega))
      have LC := aside LC
      obtain ⟨-, y1, -, -⟩ := LC.out.cells
      have SR2 := aside (src_last (W := w4.setCell ⟨w1.heap.size, 1, none⟩ (.slice ga ((olR x T).length + l.length) gc)) o (fun r hr => (HTK.out r (HOM.out r hr)).1.bs.below BC.out))
      have RM2 := aside (room_bytes (n := (olR x T ++ l).length) (m := (lastB o).length) (by rw [List.length_append]; omega))
      have hll2 := aside (show (bcells (lastB o)).length = (lastB o).length * 1 by simp)
      have LB2 := aside LC.out.rB
      have hs4 := BC.out.size
      clear ho hu hv ob4 q0 q1 f0 f1 SR RM hll LB hLy hB hLO
      go_wp2_with (at_builtin; refine wpList_append_any _ rfl _ _ 22 rfl 5 (.int .u8 0) 1 1 Try.underlying22 info5 rfl (by decide) _ _ (bcells (olR x T ++ l)) rfl LB2.out _ (lastB o).length (bcells (lastB o)) rfl hll2.out SR2.out (bcells_one _) RM2.out.1 RM2.out.2 ?_)
      intro v' w5 ho hu hv
      rcases ho.2 with ⟨-, hz⟩ | ⟨g, cap, cur, rfl, -, -, hnc, -⟩
      · omega
      obtain ⟨q, hq⟩ : ∃ q : RP, q = ⟨oatR x T, g, 0, cap, olR x T ++ l ++ lastB o⟩ := ⟨_, rfl⟩
      have hqb : olR x T ++ l ++ lastB o = q.bs := by rw [hq]
      have hql : (olR x T).length + l.length + (lastB o).length = q.bs.length := by rw [← hqb, List.length_append, List.length_append]
      rw [hql] at ho hv hnc ⊢
      rw [show bcells (olR x T ++ l) ++ bcells (lastB o) = bcells q.bs by rw [← hqb]; simp [bcells]] at ho
      obtain ⟨ob5, LD⟩ := LC.out.appB (oL' := q.bs) hs4 ho hu (hv.imp id (fun h => h.trans (by simp)))
      have z3 : w5.cell? ⟨w1.heap.size, 1, none⟩ = some (.slice ga ((olR x T).length + l.length) gc) := by rw [cell_of_row w5 _ _ _ _ _ ob5]; rfl
      have z4 : w5.frozen? ⟨w1.heap.size, 1, none⟩ = false := frozen_of_row w5 _ 1 _ _ ob5
      have BD : Aside (Below w1.heap.size w1 (w5.setCell ⟨w1.heap.size, 1, none⟩ (.slice (some ⟨g, 0, none⟩) q.bs.length cap))) := (BC.out.trans (hu.below hs4 (fun q hq => (LC.out.gB q hq).1))).trans ((Upd.setCell (F := fun k => k = w1.heap.size) (p := ⟨w1.heap.size, 1, none⟩) (w := w5) rfl _).below (Nat.le_trans hs4 hu.size) (fun q hq => by omega))
      have LD := aside LD
      have HQ := aside hq
      clear ho hu hv ob5 y1 z1 z2 SR2 RM2 hll2 LB2 LC BC hs4 hqb hql hq cur
      have hs5 := BD.out.size
      obtain ⟨W6, hW6⟩ : ∃ W6, W6 = w5.setCell ⟨w1.heap.size, 1, none⟩ (.slice (some ⟨g, 0, none⟩) q.bs.length cap) := ⟨_, rfl⟩
      rw [← hW6] at LD BD hs5
      obtain ⟨y0, y1, -, -⟩ := LD.out.cells
      have hbw : b < w.heap.size := (Array.getElem?_eq_some_iff.1 HR.out.obj).1
      have RM := aside (room_row (n := (ahR x T).length) (m := 1) (by omega))
      have al := below_al W6 (.cells #[.int .i64 (oatR x T), .slice (some ⟨g, 0, none⟩) q.bs.length cap] 123)
      have LE := aside (LD.out.below al)
      have L8 := aside LE.out.r8
      have BE := aside (BD.out.trans (al.mono hs5))
      have SQ : Aside (SrcAt (W6.alloc (.cells #[.int .i64 (oatR x T), .slice (some ⟨g, 0, none⟩) q.bs.length cap] 123)) (.slice (some ⟨W6.heap.size, 0, none⟩) 1 1) 1 (rcells [q])) := by
        have := src_one (W := W6) q
        rw [HQ.out] at this ⊢
        exact this
      have HOB : Aside (∀ V, Below w1.heap.size w1 V → V.heap[b]? = some (.cells #[.slice a R.length c, .int .i64 N] 105 (0, 0))) := fun V hV => (hV.block b (by omega)).trans ((HB1.out.block b hbw).trans HR.out.obj)
      clear al LD BD
      go_upto_region 20 with fail
      rw [← hW6]
      clear hW6 z3 z4
      go_wp2_with (at_builtin; refine wpList_append_any _ rfl _ _ 103 rfl 123 (.agg #[.int .i64 0, .slice none 0 0]) 2 32 Try.underlying103 info59 rfl (by decide) u8 _ (rcells (ahR x T)) rfl L8.out _ 1 (rcells [q]) rfl rfl SQ.out (rcells_one _) RM.out.1 RM.out.2 ?_)
      intro v' w7 ho hu hv
      obtain ⟨ha, hc, rfl, -⟩ := own_slice ho
      have hsE := BE.out.size
      have LF := LE.out.app8 (A' := ahR x T ++ [q]) hsE (by rw [List.length_append, rcells_append]; exact ho) hu (hv.imp id (fun h => h.trans (by simp)))
      have BF := BE.out.trans (hu.below hsE (fun k hk => (LE.out.g8 k hk).1))
      have ob7 := HOB.out w7 BF
      have c7 : w7.cell? ⟨b, 0, none⟩ = some (.slice a R.length c) := by rw [cell_of_row w7 _ _ _ _ _ ob7]; rfl
      have f7 : w7.frozen? ⟨b, 0, none⟩ = false := frozen_of_row w7 _ 0 _ _ ob7
      have u8' : Upd (fun k => k = b) w7 (w7.setCell ⟨b, 0, none⟩ (.slice ha ((ahR x T).length + 1) hc)) := Upd.setCell (F := fun k => k = b) (p := ⟨b, 0, none⟩) rfl _
      have r8' := u8'.row LF.r8 (fun k hk e => by have := (LF.g8 k hk).1; omega)
      have r9' := u8'.row LF.r9 (fun k hk e => by have := (LF.g9 k hk).1; omega)
      have c8 : (w7.setCell ⟨b, 0, none⟩ (.slice ha ((ahR x T).length + 1) hc)).cell? ⟨b, 0, none⟩ = some (.slice ha ((ahR x T).length + 1) hc) := by
        rw [setCell_eq_setRow w7 b 0 _ _ _ _ ob7, cell_of_row _ _ _ _ _ _ (setRow_heap w7 b _ _ _ _ ob7)]; rfl
      have SC := aside (src_own r9')
      have RM9 := aside (room_row (n := (ahR x T ++ [q]).length) (m := (bhR x (x + l.length) T).length) (by simp only [List.length_append, List.length_cons, List.length_nil]; omega))
      have R8 := aside r8'
      have LF := aside LF
      have BF := aside BF
      have hrl := aside (rcells_length (bhR x (x + l.length) T))
      clear ho hu hv ob7 u8' r8' r9' RM L8 SQ LE BE y0 y1
      go_wp2_with (at_builtin; refine wpList_append_any _ rfl _ _ 103 rfl 123 (.agg #[.int .i64 0, .slice none 0 0]) 2 32 Try.underlying103 info59 rfl (by decide) _ _ (rcells (ahR x T ++ [q])) rfl R8.out _ (bhR x (x + l.length) T).length (rcells (bhR x (x + l.length) T)) rfl hrl.out SC.out (rcells_one _) RM9.out.1 RM9.out.2 ?_)
      intro v' w9 ho hu hv
      obtain ⟨ka, kc, rfl, -⟩ := own_slice ho
      have DN := lay_done (q := q) HR.out hsep h0 hxl hTl HTE.out HTK.out HB1.out (by rw [HQ.out, HO.out]) hnc LF.out BF.out hu (hv.imp id (fun h => h.trans (by simp))) (by simp only [List.length_append, List.length_cons, List.length_nil]) (by rw [rcells_append]; exact ho)
      have ob9 := DN.1
      have c9 : w9.cell? ⟨b, 0, none⟩ = some (.slice ha ((ahR x T).length + 1) hc) := by rw [cell_of_row w9 _ _ _ _ _ ob9]; rfl
      have f9 : w9.frozen? ⟨b, 0, none⟩ = false := frozen_of_row w9 _ 0 _ _ ob9
      have DN := aside DN.2
      clear ho hu hv ob9 c7 f7 c8
      go_wp2_with fail
      go_end0
      exact ⟨rfl, DN.out⟩
end Go.Proofs.Ytoagjgcpgpjjeaa

namespace Go.Proofs.Ytoagjgcpgpjjeaa
open Go.RowKit
set_option maxRecDepth 20000
attribute [local simp] lcells_nil readB_length bcells_length

structure RRep (w : World) (b N : Nat) (a : Option Addr) (c : Nat) (R : List RP) : Prop where
  obj : RObj w b N a c R
  inv : Inv N (pls R)
theorem pls_length (R : List RP) : (pls R).length = R.length := by simp [pls]
theorem RRep.len {w : World} {b N : Nat} {a : Option Addr} {c : Nat} {R : List RP} (h : RRep w b N a c R) : R.length ≤ 4194304 := by rw [← pls_length]; exact h.inv.len
/-- Of what a call leaves: its blocks are old ones of the object, or new. -/
def RGrew (b : Nat) (a : Option Addr) (R : List RP) (w : World) (a' : Option Addr) (R' : List RP) : Prop := ∀ k, RFoot b a' R' k → RFoot b a R k ∨ w.heap.size ≤ k
theorem RGrew.refl (b : Nat) (a : Option Addr) (R : List RP) (w : World) : RGrew b a R w a R := fun _ h => .inl h

theorem RObj.cells {w : World} {b N : Nat} {a : Option Addr} {c : Nat} {R : List RP} (h : RObj w b N a c R) : w.cell? ⟨b, 0, none⟩ = some (.slice a R.length c) ∧ w.cell? ⟨b, 1, none⟩ = some (.int .i64 N) ∧ w.frozen? ⟨b, 0, none⟩ = false ∧ w.frozen? ⟨b, 1, none⟩ = false :=
  ⟨by rw [cell_of_row w b _ _ _ _ h.obj]; rfl, by rw [cell_of_row w b _ _ _ _ h.obj]; rfl, frozen_of_row w b 0 _ _ h.obj, frozen_of_row w b 1 _ _ h.obj⟩

theorem Upd.row' {F : Nat → Prop} {w w' : World} {base : Nat} {e : TypeId} {s : Nat} {v : Value} {n : Nat} {xs : List Value} (h : Upd F w w') (hr : w.ownsRow base e s v n xs) (hn : ∀ k, v.ownBlock = some k → ¬ F k) : w'.ownsRow base e s v n xs := by
  refine ⟨hr.1, ?_⟩
  rcases hr.2 with h2 | ⟨g, cap, cur, rfl, hg, hh, r⟩
  · exact .inl h2
  · exact .inr ⟨g, cap, cur, rfl, hg, (h.block g (Array.getElem?_eq_some_iff.1 hh).1 (hn g rfl)).trans hh, r⟩

theorem robj_list {w w1 : World} {b N : Nat} {a : Option Addr} {c : Nat} {R T : List RP} {v : Value} (hR : RObj w b N a c R) (hb1 : Below w.heap.size w w1) (hrow : w1.ownsRow w.heap.size 123 2 v T.length (rcells T)) (hTk : ∀ r, r ∈ T → PcOk w r ∧ ∃ q, q ∈ R ∧ r.blk = q.blk) (hl : T.length ≤ 1073741824) :
    ∃ a' c', v = .slice a' T.length c' ∧ RObj (w1.setCell ⟨b, 0, none⟩ v) b N a' c' T ∧ RGrew b a R w a' T ∧ Upd (fun k => k = b) w (w1.setCell ⟨b, 0, none⟩ v) := by
  have hbw : b < w.heap.size := (Array.getElem?_eq_some_iff.1 hR.obj).1
  have hob := (hb1.block b hbw).trans hR.obj
  have u : Upd (fun k => k = b) w1 (w1.setCell ⟨b, 0, none⟩ v) := Upd.setCell (F := fun k => k = b) (p := ⟨b, 0, none⟩) rfl _
  have hU : Upd (fun k => k = b) w (w1.setCell ⟨b, 0, none⟩ v) := (Upd.of_below hb1).trans u (fun _ _ h => h)
  have hnb : ∀ r, r ∈ T → r.blk ≠ b := fun r hr => by
    obtain ⟨-, q, hq, e⟩ := hTk r hr
    rw [e]; exact hR.nb q hq
  have hrow2 : (w1.setCell ⟨b, 0, none⟩ v).ownsRow w.heap.size 123 2 v T.length (rcells T) := u.row' hrow (fun k hk e => by have := (hrow.lt k hk).1; omega)
  obtain ⟨a', c', e, hps, hba⟩ := ps_row hrow2 (fun r hr => ⟨(hTk r hr).1.bs.upd hU (hnb r hr), (hTk r hr).1.ne, (hTk r hr).1.cp, (hTk r hr).1.le⟩) hl
  refine ⟨a', c', e, ⟨?_, hps, hnb, fun ad ha => by have := hba ad ha; omega⟩, fun k hk => ?_, hU⟩
  · rw [setCell_eq_setRow w1 b 0 _ _ _ v hob, setRow_heap w1 b _ _ _ _ hob, e]; rfl
  · rcases hk with rfl | ⟨-, ad, ha, rfl⟩ | ⟨r, hr, rfl⟩
    · exact .inl (.inl rfl)
    · exact .inr (hba ad ha)
    · obtain ⟨-, q, hq, e2⟩ := hTk r hr
      exact .inl (.inr (.inr ⟨q, hq, e2.symm⟩))
theorem robj_size {w : World} {b N : Nat} {a : Option Addr} {c : Nat} {R : List RP} (hR : RObj w b N a c R) (M : Nat) : RObj (w.setCell ⟨b, 1, none⟩ (.int .i64 M)) b M a c R ∧ Upd (fun k => k = b) w (w.setCell ⟨b, 1, none⟩ (.int .i64 M)) := by
  have u : Upd (fun k => k = b) w (w.setCell ⟨b, 1, none⟩ (.int .i64 M)) := Upd.setCell (F := fun k => k = b) (p := ⟨b, 1, none⟩) rfl _
  refine ⟨⟨?_, hR.ps.upd u (fun _ => hR.na) hR.nb, hR.nb, hR.na⟩, u⟩
  rw [setCell_eq_setRow w b 1 _ _ _ _ hR.obj, setRow_heap w b _ _ _ _ hR.obj]; rfl

/-- A fact that no walk opens. -/
def BoolIs (p : Prop) : Prop := p

theorem held_taken {x y : Nat} (h : x < y) (R : List RP) : heldR (takenR x y R) = heldOf (pls R) - ovls x y (pls R) := by
  unfold heldR
  rw [takenR_pls]
  have := takenP_held h (pls R)
  omega

theorem inv_laid {N x : Nat} {L L' : List Piece} {l : List UInt8} (h : Inv N L) (hL : Laid L L' x l) (hx : x + l.length ≤ 1073741824) (hh : heldOf L - ovls x (x + l.length) L + l.length ≤ 4194304) : Inv (max N (x + l.length)) L' := by
  refine ⟨hL.sep, hL.ne, fun d hd => ?_, by have := h.size; omega, by have := hL.held; omega⟩
  rcases hL.fin d hd with h1 | ⟨e, he, h1⟩
  · omega
  · have := h.fin e he; omega
theorem inv_erased {N M x y : Nat} {L L' : List Piece} (h : Inv N L) (hE : Erased L L' x y) (hM : M ≤ 1073741824) (hf : ∀ d, d ∈ L' → d.fin ≤ M) : Inv M L' :=
  ⟨hE.sep, hE.ne, hf, hM, by have := hE.held; have := h.held; omega⟩

set_option maxHeartbeats 1000000 in
theorem putRef_all (b N : Nat) (a : Option Addr) (c : Nat) (R : List RP) (x : Int) (ba : Option Addr) (l : List UInt8) (bc : Nat) (w : World) (hR : RRep w b N a c R) (hbs : BsAt w ba l) (hx : x ≤ 9223372036854775807) (hl : l.length ≤ 4611686018427387904) :
    Calls Try.prog 23 #[.pointer (some ⟨b, 0, none⟩), .int .i64 x, .slice ba l.length bc] w fun e w' => ∃ r N' a' c' R', e = .returned (.int .i64 r) ∧ PutR N (pls R) x l r N' (pls R') ∧ RRep w' b N' a' c' R' ∧ RGrew b a R w a' R' ∧ Upd (fun k => k = b) w w' := by
  by_cases h0 : x < 0
  · go_enter Try.func23, Try.ntmps23
    go_wp2
    go_ret
    exact ⟨2, N, a, c, R, rfl, .inl ⟨h0, rfl, rfl, rfl⟩, hR, RGrew.refl _ _ _ _, Upd.refl _ _⟩
  by_cases hn : l = []
  · subst hn
    have Q1 : Calls Try.prog 23 #[.pointer (some ⟨b, 0, none⟩), .int .i64 x, .slice ba ([] : List UInt8).length bc] w fun e w' => e = .returned (.int .i64 0) ∧ w' = w := by
      clear hR hbs
      go_enter Try.func23, Try.ntmps23
      go_wp2
      go_ret
      exact ⟨rfl, rfl⟩
    refine Q1.mono ?_
    rintro e w' ⟨rfl, rfl⟩
    exact ⟨0, N, a, c, R, rfl, .inr (.inl ⟨by omega, rfl, rfl, rfl, rfl⟩), hR, RGrew.refl _ _ _ _, Upd.refl _ _⟩
  have hpos : 0 < l.length := List.length_pos_iff.2 hn
  have hz : ¬ ((l.length : Int) = 0) := by omega
  have hz2 : ¬ (l.length = 0) := by omega
  by_cases hf : 1073741824 < x + l.length
  · have t1 : 1073741824 - (l.length : Int) < x := by omega
    have Q1 : Calls Try.prog 23 #[.pointer (some ⟨b, 0, none⟩), .int .i64 x, .slice ba l.length bc] w fun e w' => e = .returned (.int .i64 3) ∧ w' = w := by
      clear hR hbs hn
      go_enter Try.func23, Try.ntmps23
      go_wp2
      go_ret
      exact ⟨rfl, rfl⟩
    refine Q1.mono ?_
    rintro e w' ⟨rfl, rfl⟩
    exact ⟨3, N, a, c, R, rfl, .inr (.inr (.inl ⟨by omega, hn, .inl hf, rfl, rfl, rfl⟩)), hR, RGrew.refl _ _ _ _, Upd.refl _ _⟩
  obtain ⟨y, rfl⟩ : ∃ y : Nat, x = y := ⟨x.toNat, by omega⟩
  have t1 : ¬ (1073741824 - (l.length : Int) < (y : Int)) := by omega
  have hlen := hR.len
  have hhd := hR.inv.held
  have T1 := takenRef_walk b N a c R y (y + l.length) w hR.obj.ref (by omega) (by omega) hlen
  rw [Int.natCast_add] at T1
  have HT1 := aside T1
  have hTh := held_taken (x := y) (y := y + l.length) (by omega) R
  have hTl := takenR_len y (y + l.length) R
  have hTk : ∀ r, r ∈ takenR y (y + l.length) R → PcOk w r ∧ ∃ q, q ∈ R ∧ r.blk = q.blk := fun r hr => takenR_ok (fun q hq => hR.obj.ps.ok hq) (by omega) hr
  generalize takenR y (y + l.length) R = T at *
  have HTK := aside hTk
  have HR := aside hR
  have HBS := aside hbs
  have hov : ovls y (y + l.length) (pls R) ≤ heldOf (pls R) := by have := takenP_held (x := y) (y := y + l.length) (by omega) (pls R); omega
  have HTH := aside hTh
  have HOV := aside hov
  clear T1 hR hbs hTk hTh hov
  go_enter Try.func23, Try.ntmps23
  go_wp2_with fail
  refine HT1.out.mono ?_
  rintro e w1 ⟨v, rfl, hrow, hb1⟩
  obtain ⟨aT, cT, rfl, hps, -⟩ := ps_row hrow (fun r hr => (HTK.out r hr).1.below hb1) (by omega)
  have HB1 := aside hb1
  have HH := aside (heldRef_any aT cT T w1 hps)
  clear hrow hb1 hps
  go_wp2_with fail
  refine HH.out.mono ?_
  rintro e w2 ⟨rfl, rfl⟩
  rw [HTH.out]
  obtain ⟨hd, hhde⟩ : ∃ hd : Nat, hd = heldOf (pls R) - ovls y (y + l.length) (pls R) := ⟨_, rfl⟩
  rw [← hhde]
  have hdb : hd ≤ 4194304 := by omega
  have HDE := aside hhde
  clear hhde
  by_cases hh : 4194304 < hd + l.length
  · have t2 : (4194304 : Int) < (hd : Int) + (l.length : Int) := by omega
    go_wp2_with fail
    go_ret
    refine ⟨3, N, a, c, R, rfl, .inr (.inr (.inl ⟨by omega, hn, .inr ?_, rfl, rfl, rfl⟩)), ⟨HR.out.obj.below HB1.out, HR.out.inv⟩, RGrew.refl _ _ _ _, Upd.of_below HB1.out⟩
    have := HDE.out
    rw [Int.toNat_natCast]
    omega
  · have t2 : ¬ ((4194304 : Int) < (hd : Int) + (l.length : Int)) := by omega
    have LY := aside (layRef_walk b N a c R y ba l bc w2 (HR.out.obj.below HB1.out) hlen HR.out.inv.sep hhd (HBS.out.below HB1.out) hpos (by omega) (by omega))
    go_wp2_with fail
    refine LY.out.mono ?_
    rintro e w3 ⟨rfl, a', c', R', hR', hL, hG, hu⟩
    obtain ⟨-, c1, -, f1⟩ := hR'.cells
    have hmx : max (N : Int) ((y : Int) + (l.length : Int)) = ((max N (y + l.length) : Nat) : Int) := by omega
    have HMX := aside hmx
    have RS := aside (robj_size hR' (max N (y + l.length)))
    have HL := aside hL
    have HG := aside hG
    have HU := aside hu
    clear hmx hR' hL hG hu
    go_wp2_with ((with_reducible refine wpList_max2 _ rfl _ _ _ rfl (N : Int) ((y : Int) + (l.length : Int)) ((max N (y + l.length) : Nat) : Int) ?_ ?_ HMX.out ?_); rfl; rfl)
    go_ret
    have hcond : heldOf (pls R) - ovls y (y + l.length) (pls R) + l.length ≤ 4194304 := by have := HDE.out; omega
    refine ⟨0, max N (y + l.length), a', c', R', rfl, .inr (.inr (.inr ⟨by omega, hn, by omega, by rw [Int.toNat_natCast]; exact hcond, rfl, by rw [Int.toNat_natCast], by rw [Int.toNat_natCast]; exact HL.out⟩)), ⟨RS.out.1, inv_laid HR.out.inv HL.out (by omega) hcond⟩, fun k hk => ?_, ((Upd.of_below HB1.out).trans HU.out (fun _ _ h => h)).trans RS.out.2 (fun _ _ h => h)⟩
    rcases HG.out k hk with h | h
    · exact .inl h
    · exact .inr (Nat.le_trans HB1.out.size h)

set_option maxHeartbeats 1000000 in
theorem cutRef_all (b N : Nat) (a : Option Addr) (c : Nat) (R : List RP) (x : Int) (w : World) (hR : RRep w b N a c R) :
    Calls Try.prog 25 #[.pointer (some ⟨b, 0, none⟩), .int .i64 x] w fun e w' => ∃ r N' a' c' R', e = .returned (.int .i64 r) ∧ CutR N (pls R) x r N' (pls R') ∧ RRep w' b N' a' c' R' ∧ RGrew b a R w a' R' ∧ Upd (fun k => k = b) w w' := by
  by_cases h0 : x < 0
  · have Q1 : Calls Try.prog 25 #[.pointer (some ⟨b, 0, none⟩), .int .i64 x] w fun e w' => e = .returned (.int .i64 2) ∧ w' = w := by
      clear hR
      go_enter Try.func25, Try.ntmps25
      go_wp2
      go_ret
      exact ⟨rfl, rfl⟩
    refine Q1.mono ?_
    rintro e w' ⟨rfl, rfl⟩
    exact ⟨2, N, a, c, R, rfl, .inl ⟨h0, rfl, rfl, rfl⟩, hR, RGrew.refl _ _ _ _, Upd.refl _ _⟩
  by_cases h1 : 1073741824 < x
  · have Q1 : Calls Try.prog 25 #[.pointer (some ⟨b, 0, none⟩), .int .i64 x] w fun e w' => e = .returned (.int .i64 3) ∧ w' = w := by
      clear hR
      go_enter Try.func25, Try.ntmps25
      go_wp2
      go_ret
      exact ⟨rfl, rfl⟩
    refine Q1.mono ?_
    rintro e w' ⟨rfl, rfl⟩
    exact ⟨3, N, a, c, R, rfl, .inr (.inl ⟨h1, rfl, rfl, rfl⟩), hR, RGrew.refl _ _ _ _, Upd.refl _ _⟩
  obtain ⟨y, rfl⟩ : ∃ y : Nat, x = y := ⟨x.toNat, by omega⟩
  have hN := hR.inv.size
  obtain ⟨c0, c1, f0, f1⟩ := hR.obj.cells
  have key : Calls Try.prog 25 #[.pointer (some ⟨b, 0, none⟩), .int .i64 (y : Int)] w fun e w' => e = .returned (.int .i64 0) ∧ BoolIs (∃ a' c' R', RObj w' b y a' c' R' ∧ Erased (pls R) (pls R') y N ∧ RGrew b a R w a' R' ∧ Upd (fun k => k = b) w w') := by
    by_cases h2 : y < N
    · have t1 : (y : Int) < (N : Int) := by omega
      have hlen := hR.len
      have T1 := aside (takenRef_walk b N a c R y N w hR.obj.ref (by omega) (by omega) hlen)
      have hTl := takenR_len y N R
      have hTp := takenR_pls y N R
      have hTk : ∀ r, r ∈ takenR y N R → PcOk w r ∧ ∃ q, q ∈ R ∧ r.blk = q.blk := fun r hr => takenR_ok (fun q hq => hR.obj.ps.ok hq) (by omega) hr
      have hE := taken_erased (x := y) (y := N) hR.inv.sep hR.inv.ne h2
      rw [← hTp] at hE
      generalize takenR y N R = T at *
      have HTK := aside hTk
      have HR := aside hR
      have HE := aside hE
      clear hR hTk hTp hE
      go_enter Try.func25, Try.ntmps25
      go_wp2_with fail
      refine T1.out.mono ?_
      rintro e w1 ⟨v, rfl, hrow, hb1⟩
      obtain ⟨a', c', rfl, hO, hG, hU⟩ := robj_list HR.out.obj hb1 hrow HTK.out (by omega)
      have ho1 := HR.out.obj.below hb1
      obtain ⟨d0, -, g0, -⟩ := ho1.cells
      obtain ⟨-, e1, -, g1⟩ := hO.cells
      have RS := aside (robj_size hO y)
      have HG := aside hG
      have HU := aside hU
      clear hrow hb1 ho1 hO hG hU
      go_wp2_with fail
      go_ret
      exact ⟨rfl, a', c', T, RS.out.1, HE.out, HG.out, HU.out.trans RS.out.2 (fun _ _ h => h)⟩
    · have t1 : ¬ ((y : Int) < (N : Int)) := by omega
      have RS := aside (robj_size hR.obj y)
      have HE := aside (erased_none hR.inv (x := y) (y := N) (by omega))
      clear hR
      go_enter Try.func25, Try.ntmps25
      go_wp2_with fail
      go_ret
      exact ⟨rfl, a, c, R, RS.out.1, HE.out, RGrew.refl _ _ _ _, RS.out.2⟩
  refine key.mono ?_
  rintro e w' ⟨rfl, a', c', R', h1, h2, h3, h4⟩
  refine ⟨0, y, a', c', R', rfl, .inr (.inr ⟨by omega, by omega, rfl, by omega, by rw [Int.toNat_natCast]; exact h2⟩), ⟨h1, inv_erased hR.inv h2 (by omega) fun d hd => ?_⟩, h3, h4⟩
  obtain ⟨e, he, k1, k2, k3⟩ := h2.inn d hd
  have k4 := hR.inv.fin e he
  have k5 := h2.ne d hd
  have k6 : d.fin = d.org + d.bs.length := rfl
  omega

set_option maxHeartbeats 1000000 in
theorem punchRef_all (b N : Nat) (a : Option Addr) (c : Nat) (R : List RP) (x n : Int) (w : World) (hR : RRep w b N a c R) :
    Calls Try.prog 27 #[.pointer (some ⟨b, 0, none⟩), .int .i64 x, .int .i64 n] w fun e w' => ∃ r N' a' c' R', e = .returned (.int .i64 r) ∧ PunchR N (pls R) x n r N' (pls R') ∧ RRep w' b N' a' c' R' ∧ RGrew b a R w a' R' ∧ Upd (fun k => k = b) w w' := by
  by_cases h0 : x < 0 ∨ n < 0
  · have Q1 : Calls Try.prog 27 #[.pointer (some ⟨b, 0, none⟩), .int .i64 x, .int .i64 n] w fun e w' => e = .returned (.int .i64 2) ∧ w' = w := by
      clear hR
      by_cases h1 : x < 0
      · have d1 : decide (x < 0) = true := by simpa using h1
        go_enter Try.func27, Try.ntmps27
        go_wp2
        go_ret
        exact ⟨rfl, rfl⟩
      · have d1 : decide (x < 0) = false := by simpa using h1
        have d2 : decide (n < 0) = true := by simp; omega
        go_enter Try.func27, Try.ntmps27
        go_wp2
        go_ret
        exact ⟨rfl, rfl⟩
    refine Q1.mono ?_
    rintro e w' ⟨rfl, rfl⟩
    exact ⟨2, N, a, c, R, rfl, .inl ⟨h0, rfl, rfl, rfl⟩, hR, RGrew.refl _ _ _ _, Upd.refl _ _⟩
  obtain ⟨y, rfl⟩ : ∃ y : Nat, x = y := ⟨x.toNat, by omega⟩
  obtain ⟨m, rfl⟩ : ∃ m : Nat, n = m := ⟨n.toNat, by omega⟩
  have d1 : decide ((y : Int) < 0) = false := by simp
  have d2 : decide ((m : Int) < 0) = false := by simp
  have hN := hR.inv.size
  obtain ⟨c0, c1, f0, f1⟩ := hR.obj.cells
  by_cases h1 : N ≤ y ∨ m = 0
  · have Q1 : Calls Try.prog 27 #[.pointer (some ⟨b, 0, none⟩), .int .i64 (y : Int), .int .i64 (m : Int)] w fun e w' => e = .returned (.int .i64 0) ∧ w' = w := by
      clear hR
      by_cases h2 : N ≤ y
      · have d3 : decide ((N : Int) ≤ (y : Int)) = true := by simp; omega
        have d4 : decide (N ≤ y) = true := by simpa using h2
        go_enter Try.func27, Try.ntmps27
        go_wp2
        go_ret
        exact ⟨rfl, rfl⟩
      · have d3 : decide ((N : Int) ≤ (y : Int)) = false := by simp; omega
        have d4 : decide (N ≤ y) = false := by simpa using h2
        obtain rfl : m = 0 := by omega
        go_enter Try.func27, Try.ntmps27
        go_wp2
        go_ret
        exact ⟨rfl, rfl⟩
    refine Q1.mono ?_
    rintro e w' ⟨rfl, rfl⟩
    exact ⟨0, N, a, c, R, rfl, .inr ⟨by omega, by omega, rfl, rfl, erased_none hR.inv (by simp only [Int.toNat_natCast]; omega)⟩, hR, RGrew.refl _ _ _ _, Upd.refl _ _⟩
  · have d3 : decide ((N : Int) ≤ (y : Int)) = false := by simp; omega
    have d4 : decide (N ≤ y) = false := by simp; omega
    have d5 : ¬ ((m : Int) = 0) := by omega
    have d6 : ¬ (m = 0) := by omega
    have hlen := hR.len
    obtain ⟨z, hz⟩ : ∃ z : Nat, z = min m (N - y) := ⟨_, rfl⟩
    have hmn : min (m : Int) ((N : Int) - (y : Int)) = (z : Int) := by omega
    have T1 := takenRef_walk b N a c R y (y + z) w hR.obj.ref (by omega) (by omega) hlen
    rw [Int.natCast_add] at T1
    have T1 := aside T1
    have hTl := takenR_len y (y + z) R
    have hTp := takenR_pls y (y + z) R
    have hTk : ∀ r, r ∈ takenR y (y + z) R → PcOk w r ∧ ∃ q, q ∈ R ∧ r.blk = q.blk := fun r hr => takenR_ok (fun q hq => hR.obj.ps.ok hq) (by omega) hr
    have hE := taken_erased (x := y) (y := y + z) hR.inv.sep hR.inv.ne (by omega)
    rw [← hTp] at hE
    generalize takenR y (y + z) R = T at *
    have HTK := aside hTk
    have HR := aside hR
    have HE := aside hE
    have HMN := aside hmn
    have HZ := aside hz
    have hzN : y + z ≤ N := by omega
    clear hTk hTp hE hmn hz
    have key : Calls Try.prog 27 #[.pointer (some ⟨b, 0, none⟩), .int .i64 (y : Int), .int .i64 (m : Int)] w fun e w' => e = .returned (.int .i64 0) ∧ BoolIs (∃ a' c', RObj w' b N a' c' T ∧ RGrew b a R w a' T ∧ Upd (fun k => k = b) w w') := by
      clear hR
      go_enter Try.func27, Try.ntmps27
      go_wp2_with ((with_reducible refine wpList_min2 _ rfl _ _ _ rfl (m : Int) ((N : Int) - (y : Int)) (z : Int) ?_ ?_ HMN.out ?_); rfl; rfl)
      refine T1.out.mono ?_
      rintro e w1 ⟨v, rfl, hrow, hb1⟩
      obtain ⟨a', c', rfl, hO, hG, hU⟩ := robj_list HR.out.obj hb1 hrow HTK.out (by omega)
      have ho1 := HR.out.obj.below hb1
      obtain ⟨d0, -, g0, -⟩ := ho1.cells
      have RS := aside hO
      have HG := aside hG
      have HU := aside hU
      clear hrow hb1 ho1 hO hG hU
      go_wp2_with fail
      go_ret
      exact ⟨rfl, a', c', RS.out, HG.out, HU.out⟩
    refine key.mono ?_
    rintro e w' ⟨rfl, a', c', h1, h3, h4⟩
    refine ⟨0, N, a', c', T, rfl, .inr ⟨by omega, by omega, rfl, rfl, by simp only [Int.toNat_natCast]; rw [← HZ.out]; exact HE.out⟩, ⟨h1, inv_erased hR.inv HE.out hN fun d hd => ?_⟩, h3, h4⟩
    obtain ⟨e, he, k1, k2, k3⟩ := HE.out.inn d hd
    have k4 := hR.inv.fin e he
    omega
end Go.Proofs.Ytoagjgcpgpjjeaa

namespace Go.Proofs.Ytoagjgcpgpjjeaa
open Go.RowKit
set_option maxRecDepth 20000
attribute [local simp] lcells_nil readB_length bcells_length

theorem layNone_any (p : Value) (x : Int) (ba : Option Addr) (bc : Nat) (w : World) : Calls Try.prog 42 #[p, .int .i64 x, .slice ba 0 bc] w fun e w' => e = .returned (.tuple #[]) ∧ w' = w := by
  go_enter Try.func42, Try.ntmps42
  go_wp2
  refine bodyPost_ret (results_none rfl _ _ _) rfl ?_
  exact ⟨rfl, rfl⟩

theorem laid_first {L : List Piece} {l : List UInt8} (h0 : 0 < l.length) (h : Laid [] L 0 l) : ct L = [(0, l)] := by
  have k := lay_laid (L := []) (x := 0) (l := l) (by simp) (by simp) h0 ⟨0, 0, 0, l⟩ (by simp [takenP, lfP]) (by simp [takenP, lfP, rtP])
  have e := laid_ct h k rfl
  rw [e]
  simp [takenP, ahP, bhP, ct]

theorem robj_new (w : World) (N : Nat) : RObj (w.alloc (.cells #[.slice none 0 0, .int .i64 N] 105)) w.heap.size N none 0 [] :=
  ⟨heap_alloc_new w _, ⟨fun h => absurd rfl h, by simp, by simp, by simp, by simp⟩, by simp, by simp⟩

set_option maxHeartbeats 1000000 in
theorem newRef_all (ba : Option Addr) (l : List UInt8) (bc : Nat) (w : World) (hbs : BsAt w ba l) (hl : l.length ≤ 4194304) :
    Calls Try.prog 21 #[.slice ba l.length bc] w fun e w' => e = .returned (.pointer (some ⟨w.heap.size, 0, none⟩)) ∧ BoolIs (∃ a c R, RRep w' w.heap.size l.length a c R ∧ ct (pls R) = ini l ∧ (∀ k, RFoot w.heap.size a R k → w.heap.size ≤ k) ∧ Below w.heap.size w w') := by
  have t1 : ¬ ((4194304 : Int) < l.length) := by omega
  have t2 : ¬ (4194304 < l.length) := by omega
  have hA := below_al w (.cells #[.slice none 0 0, .int .i64 l.length] 105)
  have ini_eq : ini l = if l = [] then [] else [(0, l)] := by unfold ini; rw [List.take_of_length_le hl]
  by_cases hn : l = []
  · subst hn
    have HO := aside (robj_new w 0)
    have HA := aside hA
    clear hA hbs
    go_enter Try.func21, Try.ntmps21
    go_wp2_with fail
    refine (layNone_any _ _ _ _ _).mono ?_
    rintro e w' ⟨rfl, rfl⟩
    go_wp2_with fail
    go_ret
    refine ⟨rfl, none, 0, [], ⟨HO.out, ⟨by simp [pls], by simp [pls], by simp [pls], by simp, by simp [pls, heldOf]⟩⟩, by rw [ini_eq]; simp [pls, ct], fun k hk => ?_, HA.out⟩
    rcases hk with rfl | ⟨-, ad, h, -⟩ | ⟨r, h, -⟩
    · exact Nat.le_refl _
    · cases h
    · simp at h
  · have hpos : 0 < l.length := List.length_pos_iff.2 hn
    have HA := aside hA
    have LY := aside (layRef_walk w.heap.size l.length none 0 [] 0 ba l bc _ (robj_new w l.length) (by simp) (by simp [pls]) (by simp [heldR, pls, heldOf]) (hbs.below hA) hpos hl (by omega))
    clear hA hbs
    go_enter Try.func21, Try.ntmps21
    go_wp2_with fail
    refine LY.out.mono ?_
    rintro e w1 ⟨rfl, a, c, R, hO, hL, hG, hu⟩
    have HO := aside hO
    have HL := aside hL
    have HG := aside hG
    have HU := aside hu
    clear hO hL hG hu
    go_wp2_with fail
    go_ret
    have hL : Laid [] (pls R) 0 l := HL.out
    refine ⟨rfl, a, c, R, ⟨HO.out, ⟨hL.sep, hL.ne, fun d hd => ?_, by omega, ?_⟩⟩, ?_, fun k hk => ?_, HA.out.trans (HU.out.below HA.out.size (fun k hk => by omega))⟩
    · rcases hL.fin d hd with h | ⟨e, he, -⟩
      · omega
      · simp at he
    · have := hL.held
      simp [heldOf, ovls] at this
      unfold heldOf
      omega
    · rw [ini_eq, if_neg hn]; exact laid_first hpos hL
    · rcases HG.out k hk with h | h
      · rcases h with rfl | ⟨-, ad, h, -⟩ | ⟨r, h, -⟩
        · exact Nat.le_refl _
        · cases h
        · simp at h
      · exact Nat.le_trans HA.out.size h

theorem read_skip {A : List Piece} {d : Piece} {x m : Nat} (h : d.fin ≤ x ∨ x + m ≤ d.org ∨ m = 0) : readB (A ++ [d]) x m = readB A x m := by
  apply List.map_congr_left
  intro i hi
  have hi := List.mem_range.1 hi
  rw [byteAt_append_left (fun e he => by rw [List.mem_singleton] at he; subst he; omega)]

theorem copy_rp (W : World) (ty : TypeId) (c1 c2 g : Nat) (A : List Piece) (r : RP) (x m lo lo2 cnt : Nat) (hbs : BsAt W (some ⟨r.blk, r.off, none⟩) r.bs) (hout : W.heap[g]? = some (.cells (bcells (readB A x m)).toArray 5 (0, 0)))
    (hA : ∀ e, e ∈ A → e.fin ≤ r.at_) (h1 : x < r.at_ + r.bs.length) (h2 : r.at_ < x + m) (hlo : max x r.at_ - x = lo) (hlo2 : max x r.at_ - r.at_ = lo2) (hcnt : cnt = min (m - lo) (r.bs.length - lo2)) :
    (Builtin.copy_ #[22, 22] ty #[.slice (some ⟨g, lo, none⟩) cnt c1, .slice (some ⟨r.blk, r.off + lo2, none⟩) cnt c2]).run Try.prog W = .ok (goInt (cnt : Int)) (W.setRow g (bcells (readB (A ++ [r.pl]) x m)).toArray) := by
  have hsp := read_splice (A := A) (d := r.pl) (x := x) (m := m) hA h1 (.inl h2)
  have hsp2 : splice (readB A x m) lo ((r.bs.drop lo2).take (m - lo)) = readB (A ++ [r.pl]) x m := by rw [← hlo, ← hlo2]; exact hsp
  have hlen : ((r.bs.drop lo2).take (m - lo)).length = cnt := by rw [hcnt]; simp
  have := run_copy_bytes W ty (some ⟨g, lo, none⟩) (some ⟨r.blk, r.off + lo2, none⟩) cnt c1 cnt c2 g lo (bcells (readB A x m)) hout (bcells ((r.bs.drop lo2).take (m - lo))) (by rw [bcells_length, hlen]; omega)
    (fun hp => ⟨rfl, _, rfl, fun j v hj => by
      have hb := bs_take (m - lo) (bs_drop lo2 hbs)
      obtain ⟨ad, e, hc⟩ := hb (by intro e; rw [e] at hp; simp [bcells] at hp)
      cases e
      exact hc j v hj⟩) (by rw [bcells_length, bcells_length, hlen, readB_length]; omega) (bcells_one _)
  rw [this, bcells_splice, hsp2, bcells_length, hlen]

theorem getRefOut_any (b N : Nat) (x n : Int) (w : World) (hs : w.cell? ⟨b, 1, none⟩ = some (.int .i64 N)) (h : x < 0 ∨ n < 0 ∨ (N : Int) ≤ x) :
    Calls Try.prog 49 #[.pointer (some ⟨b, 0, none⟩), .int .i64 x, .int .i64 n] w fun e w' => e = .returned (.slice none 0 0) ∧ w' = w := by
  by_cases h1 : x < 0
  · have d1 : decide (x < 0) = true := by simpa using h1
    go_enter Try.func49, Try.ntmps49
    go_wp2
    go_ret
    exact ⟨rfl, rfl⟩
  · have d1 : decide (x < 0) = false := by simpa using h1
    by_cases h2 : n < 0
    · have d2 : decide (n < 0) = true := by simpa using h2
      go_enter Try.func49, Try.ntmps49
      go_wp2
      go_ret
      exact ⟨rfl, rfl⟩
    · have d2 : decide (n < 0) = false := by simpa using h2
      have h3 : (N : Int) ≤ x := by omega
      go_enter Try.func49, Try.ntmps49
      go_wp2
      go_ret
      exact ⟨rfl, rfl⟩

set_option maxHeartbeats 4000000 in
theorem getRef_walk (b N : Nat) (a : Option Addr) (c : Nat) (R : List RP) (x n : Nat) (w : World) (hR : RRep w b N a c R) (hx : x < N) (hn : n ≤ 4611686018427387904) :
    Calls Try.prog 49 #[.pointer (some ⟨b, 0, none⟩), .int .i64 x, .int .i64 n] w fun e w' => ∃ m, m = min n (min 65536 (N - x)) ∧ e = .returned (.slice (some ⟨w.heap.size, 0, none⟩) m m) ∧ w'.heap[w.heap.size]? = some (.cells (bcells (readB (pls R) x m)).toArray 5 (0, 0)) ∧ Below w.heap.size w w' := by
  have hN := hR.inv.size
  have g1 : decide ((x : Int) < 0) = false := by simp
  have g2 : decide ((n : Int) < 0) = false := by simp
  have g3 : decide ((N : Int) ≤ (x : Int)) = false := by simp; omega
  have g4 : decide (N ≤ x) = false := by simp; omega
  obtain ⟨m, hm⟩ : ∃ m, m = min n (min 65536 (N - x)) := ⟨_, rfl⟩
  obtain ⟨m1, hm1⟩ : ∃ m1, m1 = min n 65536 := ⟨_, rfl⟩
  have hmn : min (n : Int) 65536 = (m1 : Int) := by omega
  have hmk := fun w => make_bytes w m (by omega)
  have hmb : m ≤ 65536 := by omega
  have hmz : x + m ≤ N := by omega
  have HM := aside hm
  have HM1 := aside hm1
  have hm1b : m1 ≤ 65536 := by omega
  have HMN := aside hmn
  have hsep := hR.inv.sep
  have HSEP := aside hsep
  obtain ⟨c0, c1, -, -⟩ := hR.obj.cells
  have HR := aside hR
  have hlen := hR.len
  clear hm hm1 hmn hsep hR
  go_enter Try.func49, Try.ntmps49
  go_upto_if 35 with ((with_reducible refine wpList_min2 _ rfl _ _ _ rfl (n : Int) 65536 (m1 : Int) ?_ ?_ HMN.out ?_); rfl; rfl)
  go_cut [2] from 36 to 41 (fun s2 wc => s2 = .int .i64 m ∧ wc = w)
  case first =>
    by_cases hc : N - x < m1
    · have t1 : (N : Int) - (x : Int) < (m1 : Int) := by omega
      have e1 : (N : Int) - (x : Int) = (m : Int) := by have := HM.out; have := HM1.out; omega
      have E1 := aside e1
      clear e1
      go_wp2_with fail
      go_meet
      exact ⟨by rw [E1.out], rfl⟩
    · have t1 : ¬ ((N : Int) - (x : Int) < (m1 : Int)) := by omega
      have e1 : m1 = m := by have := HM.out; have := HM1.out; omega
      have E1 := aside e1
      clear e1
      go_wp2_with fail
      go_meet
      exact ⟨by rw [E1.out], rfl⟩
  case rest =>
    obtain ⟨rfl, hcw⟩ := hcut
    have hcw' := hcw.symm
    subst hcw'
    clear hcw
    go_wp2_with fail
    have hA := below_al w (.cells (bcells (List.replicate m 0)).toArray 5)
    go_loopw [8] (fun s8 wr => ∃ k : Nat, k ≤ R.length ∧ s8 = .int .i64 k ∧ wr.heap[w.heap.size]? = some (.cells (bcells (readB (pls (R.take k)) x m)).toArray 5 (0, 0)) ∧ Aside (Below w.heap.size w wr)) (fun s8 _ => R.length - (intOf s8).toNat)
    case atStart =>
      refine ⟨0, Nat.zero_le _, rfl, ?_, hA⟩
      rw [List.take_zero, show pls [] = [] from rfl, readB_nil]
      exact heap_alloc_new w _
    case round =>
      obtain ⟨k, hk, rfl, hout, hB⟩ := hrel
      have HRr := aside (HR.out.obj.below hB.out)
      obtain ⟨d0, d1, -, -⟩ := HRr.out.cells
      by_cases h1 : k < R.length
      · have t1 : (k : Int) < (R.length : Int) := by omega
        have hkm : R[k]? = some R[k] := List.getElem?_eq_getElem h1
        have hok := HRr.out.ps.ok (List.getElem_mem h1)
        obtain ⟨blk, off, rfl, hrd⟩ := HRr.out.ps.rd (by intro h; simp [h] at h1)
        obtain ⟨r0, r1⟩ := hrd k _ hkm
        clear hrd
        have TS := aside (show pls (R.take (k + 1)) = pls (R.take k) ++ [R[k].pl] by rw [take_snoc hkm]; unfold pls; rw [List.map_append]; rfl)
        have hsub : ∀ e, e ∈ pls (R.take k) → e.fin ≤ R[k].at_ := fun e he => by
          have hp := HSEP.out
          have e1 : pls R = pls (R.take k) ++ pls (R.drop k) := by unfold pls; rw [← List.map_append, List.take_append_drop]
          rw [e1, List.pairwise_append] at hp
          have hm2 : R[k].pl ∈ pls (R.drop k) := List.mem_map.2 ⟨R[k], by rw [List.mem_iff_getElem?]; exact ⟨0, by rw [List.getElem?_drop, Nat.add_zero, hkm]⟩, rfl⟩
          have := hp.2.2 e he _ hm2
          exact Nat.le_of_lt this
        clear hkm
        generalize R[k] = r at *
        have hle := hok.le
        have hne := hok.ne
        have hcp := hok.cp
        have HOK := aside hok
        have HSUB := aside hsub
        have HOUT := aside hout
        clear hok hsub hout
        have EN := aside (fun W => end_any r.at_ r.bs.length (some ⟨r.blk, r.off, none⟩) r.c W (by omega))
        obtain ⟨f, hf⟩ : ∃ f, f = max x r.at_ := ⟨_, rfl⟩
        obtain ⟨u, hu⟩ : ∃ u, u = min (x + m) (r.at_ + r.bs.length) := ⟨_, rfl⟩
        have hmf : max (x : Int) (r.at_ : Int) = (f : Int) := by omega
        have hmu : min ((x : Int) + (m : Int)) (((r.at_ + r.bs.length : Nat) : Int)) = (u : Int) := by omega
        have HMF := aside hmf
        have HMU := aside hmu
        have HF := aside hf
        have HU := aside hu
        have hfb : f ≤ 1073741824 := by omega
        have hub : u ≤ 1073741824 := by omega
        clear hf hu hmf hmu
        go_wp2_with ((with_reducible refine wpList_max2 _ rfl _ _ _ rfl (x : Int) (r.at_ : Int) (f : Int) ?_ ?_ HMF.out ?_); rfl; rfl)
        refine (EN.out _).mono ?_
        rintro e w1 ⟨rfl, hb1⟩
        have al := below_al wr (.cells #[.int .i64 r.at_, .slice (some ⟨r.blk, r.off, none⟩) r.bs.length r.c] 123)
        have hw1 := below_tr al hb1
        have bx : w1.heap[wr.heap.size]? = some (.cells #[.int .i64 r.at_, .slice (some ⟨r.blk, r.off, none⟩) r.bs.length r.c] 123 (0, 0)) := (hb1.block _ (by simp)).trans (heap_alloc_new wr _)
        have p0 : w1.cell? ⟨wr.heap.size, 0, none⟩ = some (.int .i64 r.at_) := by rw [cell_of_row _ _ 0 _ _ _ bx]; rfl
        have p1 : w1.cell? ⟨wr.heap.size, 1, none⟩ = some (.slice (some ⟨r.blk, r.off, none⟩) r.bs.length r.c) := by rw [cell_of_row _ _ 1 _ _ _ bx]; rfl
        have hgl : w.heap.size < wr.heap.size := (Array.getElem?_eq_some_iff.1 HOUT.out).1
        have B1 := aside (hB.out.trans (hw1.mono hB.out.size))
        have HW1 := aside hw1
        clear al hb1 hw1 bx r0 r1 d0 d1
        by_cases h2 : f < u
        · have t2 : (f : Int) < (u : Int) := by omega
          have q1 : x < r.at_ + r.bs.length := by have := HF.out; have := HU.out; omega
          have q2 : r.at_ < x + m := by have := HF.out; have := HU.out; omega
          obtain ⟨lo, hlo⟩ : ∃ lo : Nat, (f : Int) - (x : Int) = (lo : Int) := ⟨f - x, by have := HF.out; omega⟩
          obtain ⟨hi, hhi⟩ : ∃ hi : Nat, (u : Int) - (x : Int) = (hi : Int) := ⟨u - x, by have := HF.out; omega⟩
          obtain ⟨lo2, hlo2⟩ : ∃ lo2 : Nat, (f : Int) - (r.at_ : Int) = (lo2 : Int) := ⟨f - r.at_, by have := HF.out; omega⟩
          obtain ⟨hi2, hhi2⟩ : ∃ hi2 : Nat, (u : Int) - (r.at_ : Int) = (hi2 : Int) := ⟨u - r.at_, by have := HF.out; omega⟩
          have k1 : lo < hi := by omega
          have k2 : hi ≤ m := by have := HU.out; omega
          have k3 : lo2 < hi2 := by omega
          have k4 : hi2 ≤ r.c := by have := HU.out; omega
          have w1' : IntKind.i64.wrap (lo : Int) = (lo : Int) := by rw [IntKind.wrap_i64]; omega
          have w2' : IntKind.i64.wrap (hi : Int) = (hi : Int) := by rw [IntKind.wrap_i64]; omega
          have w3' : IntKind.i64.wrap (lo2 : Int) = (lo2 : Int) := by rw [IntKind.wrap_i64]; omega
          have w4' : IntKind.i64.wrap (hi2 : Int) = (hi2 : Int) := by rw [IntKind.wrap_i64]; omega
          have i1 : (lo : Int) ≤ (hi : Int) := by omega
          have i2 : (hi : Int) ≤ (m : Int) := by omega
          have i3 : (lo2 : Int) ≤ (hi2 : Int) := by omega
          have i4 : (hi2 : Int) ≤ (r.c : Int) := by omega
          have n1 : lo ≤ hi := by omega
          have n3 : lo2 ≤ hi2 := by omega
          have z1 : ¬ (m = lo) := by omega
          have z2 : ¬ (r.c = lo2) := by omega
          have hee : hi2 - lo2 = hi - lo := by omega
          have hcp2 : ∀ ty W, Below wr.heap.size wr W → ∀ c1 c2, (Builtin.copy_ #[22, 22] ty #[.slice (some ⟨w.heap.size, lo, none⟩) (hi - lo) c1, .slice (some ⟨r.blk, r.off + lo2, none⟩) (hi2 - lo2) c2]).run Try.prog W = .ok (goInt ((hi - lo : Nat) : Int)) (W.setRow w.heap.size (bcells (readB (pls (R.take (k + 1))) x m)).toArray) := by
            intro ty W hW c1 c2
            rw [TS.out, hee]
            exact copy_rp W ty c1 c2 w.heap.size (pls (R.take k)) r x m lo lo2 (hi - lo) (HOK.out.bs.below hW) ((hW.block _ hgl).trans HOUT.out) HSUB.out q1 q2 (by rw [← HF.out]; omega) (by rw [← HF.out]; omega) (by have := HF.out; have := HU.out; omega)
          have HCP := aside hcp2
          have HB1 := aside (HW1.out.drew)
          clear hcp2 hee q1 q2
          go_wp2_with ((with_reducible refine wpList_min2 _ rfl _ _ _ rfl ((x : Int) + (m : Int)) (((r.at_ + r.bs.length : Nat) : Int)) (u : Int) ?_ ?_ HMU.out ?_); rfl; rfl)
          go_region_law (refine step_copy_to rfl _ _ 22 22 rfl _ _ (by simp [Act.eval, Act.put]; rfl) (by simp [Act.eval, Act.put]; rfl) (HCP.out _ _ HB1.out _ _) ?_)
          all_goals
            go_wp2_with fail
            go_roundw
            case rel => exact ⟨k + 1, by omega, by go_num, setRow_heap _ _ _ _ _ _ ((HB1.out.block _ hgl).trans HOUT.out), below_setRow_new (hB.out.trans (HB1.out.mono hB.out.size)) (Nat.le_refl _) _⟩
            case measure => simp [intOf]; omega
        · have t2 : ¬ ((f : Int) < (u : Int)) := by omega
          have hs := aside (read_skip (A := pls (R.take k)) (d := r.pl) (x := x) (m := m) (by have := HF.out; have := HU.out; have : r.pl.fin = r.at_ + r.bs.length := rfl; have : r.pl.org = r.at_ := rfl; omega))
          go_wp2_with ((with_reducible refine wpList_min2 _ rfl _ _ _ rfl ((x : Int) + (m : Int)) (((r.at_ + r.bs.length : Nat) : Int)) (u : Int) ?_ ?_ HMU.out ?_); rfl; rfl)
          go_roundw
          case rel => exact ⟨k + 1, by omega, by go_num, by rw [TS.out, hs.out]; exact (HW1.out.block _ hgl).trans HOUT.out, B1⟩
          case measure => simp [intOf]; omega
      · obtain rfl : k = R.length := by omega
        have t1 : ¬ ((R.length : Int) < (R.length : Int)) := by omega
        rw [List.take_length] at hout
        have HOUT := aside hout
        clear hout
        go_wp2_with fail
        go_ret
        rw [← HM.out]
        exact ⟨rfl, HOUT.out, hB.out⟩
end Go.Proofs.Ytoagjgcpgpjjeaa

namespace Go.Proofs.Ytoagjgcpgpjjeaa
open Go.RowKit
set_option maxRecDepth 20000
attribute [local simp] lcells_nil readB_length bcells_length

theorem getRef_all (b N : Nat) (a : Option Addr) (c : Nat) (R : List RP) (x n : Int) (w : World) (hR : RRep w b N a c R) (hn : n ≤ 4611686018427387904) :
    Calls Try.prog 49 #[.pointer (some ⟨b, 0, none⟩), .int .i64 x, .int .i64 n] w fun e w' => ∃ a' c', e = .returned (.slice a' (getL (pls R) N x n).length c') ∧ NewB w' w.heap.size a' (getL (pls R) N x n) ∧ Below w.heap.size w w' := by
  by_cases h : x < 0 ∨ n < 0 ∨ (N : Int) ≤ x
  · refine (getRefOut_any b N x n w hR.obj.cells.2.1 h).mono ?_
    rintro e w' ⟨rfl, rfl⟩
    have e1 : getL (pls R) N x n = [] := by unfold getL; rw [if_pos h]
    rw [e1]
    exact ⟨none, 0, rfl, .inl rfl, Below.refl _ _⟩
  · obtain ⟨y, rfl⟩ : ∃ y : Nat, x = y := ⟨x.toNat, by omega⟩
    obtain ⟨m, rfl⟩ : ∃ m : Nat, n = m := ⟨n.toNat, by omega⟩
    have e1 : getL (pls R) N y m = readB (pls R) y (min m (min 65536 (N - y))) := by unfold getL; rw [if_neg h]; simp
    rw [e1, readB_length]
    refine (getRef_walk b N a c R y m w hR (by omega) (by omega)).mono ?_
    rintro e w' ⟨q, rfl, rfl, hh, hb⟩
    exact ⟨_, _, rfl, .inr ⟨rfl, hh⟩, hb⟩

theorem step_append_any {ops : Array Oper} {o : Oper} {a : Act} {w : World} {K : Act → World → Prop} {Q : Exit → Act → World → Prop} {E : Prop} (hgd : o.guard = none) (s x : Operand) (t : TypeId)
    (ho : o.op = .call { callee := .builtin .append, args := #[s, x], argTypes := #[t, t] }) (e : TypeId) (z : Value) (size bytes : Nat) (ht : Try.prog.underlying t = some (.slice e)) (hinfo : (Try.prog.info? e).map (fun i => (i.zero, i.size, i.bytes)) = some (some z, size, bytes))
    (hzs : z.cells.size = size) (hsz : 0 < size) (v : Value) (n : Nat) (xs : List Value) (hs : a.eval s = v) (hown : w.ownsRow 0 e size v n xs)
    (ad : Addr) (m c : Nat) (news : List Value) (hx : a.eval x = .slice (some ad) m c) (hl : news.length = m * size) (hnews : ∀ j u, news[j]? = some u → w.cell? (ad.add j) = some u) (h1 : ∀ u ∈ news, u.oneCell' = true)
    (h63 : n + m ≤ maxLen) (hbytes : (n + m) * bytes ≤ 140737488355328) (hm : 0 < m)
    (h : ∀ v' w', w'.ownsRow 0 e size v' (n + m) (xs ++ news) → Upd (fun k => v.ownBlock = some k) w w' → (v'.ownBlock = v.ownBlock ∨ v'.ownBlock = some w.heap.size) → K (a.put o.dst v') w') :
    if Region.wanted o (yielded ops a.tmps) = true then Oper.wp Try.prog o a w K Q else E := by
  rw [if_pos (by simp [Region.wanted, hgd])]
  obtain ⟨v', w', hr, h2, h3, h4⟩ := run_append_where (P := Try.prog) w t o.type e z size bytes ht hinfo hzs hsz v n xs hown ad m c news hl hnews h1 h63 hbytes hm
  unfold Oper.wp execOp
  simp only [ho, resolve, invoke, builtin, Sem.run_bind, Sem.run_pure, Result.andThen_ok, List.map_toArray, List.map_cons, List.map_nil, hs, hx, hr]
  exact h v' w' h2 (Upd.of_grown h3 fun k hk => hk) (h4.imp And.left And.left)
end Go.Proofs.Ytoagjgcpgpjjeaa

namespace Go.Proofs.Ytoagjgcpgpjjeaa
open Go.RowKit

theorem nextOf_at {R : List RP} {k x N : Nat} {r : RP} (hk : R[k]? = some r) (hno : ∀ j q, j < k → R[j]? = some q → q.at_ + q.bs.length ≤ x) (hx : x < r.at_ + r.bs.length) : nextOf (pls R) N x = (max x r.at_, r.at_ + r.bs.length) := by
  unfold nextOf
  have : (pls R).find? (fun d => decide (x < d.fin)) = some r.pl := by
    rw [List.find?_eq_some_iff_getElem]
    refine ⟨decide_eq_true hx, k, ?_, ?_, ?_⟩
    · have := (List.getElem?_eq_some_iff.1 hk).1; simpa [pls] using this
    · obtain ⟨h1, h2⟩ := List.getElem?_eq_some_iff.1 hk
      simp [pls, h2]
    · intro j hj
      have hl := (List.getElem?_eq_some_iff.1 hk).1
      have := hno j (R[j]'(by omega)) hj (List.getElem?_eq_getElem _)
      simp [pls, Piece.fin, RP.pl]
      omega
  rw [this]
  rfl
theorem nextOf_none {R : List RP} {x N : Nat} (hno : ∀ (j : Nat) (q : RP), R[j]? = some q → q.at_ + q.bs.length ≤ x) : nextOf (pls R) N x = (N, N) := by
  unfold nextOf
  have : (pls R).find? (fun d => decide (x < d.fin)) = none := by
    rw [List.find?_eq_none]
    intro d hd
    obtain ⟨q, hq, rfl⟩ := List.mem_map.1 hd
    obtain ⟨j, hj⟩ := List.mem_iff_getElem?.1 hq
    have h2 : q.pl.fin ≤ x := hno j q hj
    simp only [decide_eq_true_eq, Nat.not_lt]
    exact h2
  rw [this]

set_option maxHeartbeats 2000000 in
theorem nextRef_any (b N : Nat) (a : Option Addr) (c : Nat) (R : List RP) (t : Int) (w : World) (hR : RefAt w b N a c R) (ht : t ≤ 9223372036854775807) :
    Calls Try.prog 54 #[.pointer (some ⟨b, 0, none⟩), .int .i64 t] w fun e w' => e = .returned (.tuple #[.int .i64 ((nextOf (pls R) N t.toNat).1 : Nat), .int .i64 ((nextOf (pls R) N t.toNat).2 : Nat)]) ∧ Below w.heap.size w w' := by
  obtain ⟨x, hx⟩ : ∃ x, x = t.toNat := ⟨_, rfl⟩
  rw [← hx]
  have hmx : max t 0 = (x : Int) := by omega
  have hxb : x ≤ 9223372036854775807 := by omega
  have HMX := aside hmx
  have HR := aside hR
  have hcnt := hR.ps.cnt
  clear hmx hx hR
  go_enter Try.func54, Try.ntmps54
  go_wp2_with ((with_reducible refine wpList_max2 _ rfl _ _ _ rfl t 0 (x : Int) ?_ ?_ HMX.out ?_); rfl; rfl)
  go_loopw [6] (fun s6 wr => ∃ k : Nat, k ≤ R.length ∧ s6 = .int .i64 k ∧ Aside (∀ (j : Nat) (q : RP), j < k → R[j]? = some q → q.at_ + q.bs.length ≤ x) ∧ Aside (Below w.heap.size w wr)) (fun s6 _ => R.length - (intOf s6).toNat)
  case atStart => exact ⟨0, Nat.zero_le _, rfl, fun j q hj => by omega, Below.refl _ _⟩
  case round =>
    obtain ⟨k, hk, rfl, hno, hB⟩ := hrel
    have HRr := aside (HR.out.below hB.out)
    have c0 := HRr.out.list
    have c1 := HRr.out.size
    by_cases h1 : k < R.length
    · have t1 : (k : Int) < (R.length : Int) := by omega
      have hkm : R[k]? = some R[k] := List.getElem?_eq_getElem h1
      have hb := HR.out.ps.le R[k] (List.getElem_mem h1)
      obtain ⟨blk, off, rfl, hrd⟩ := HRr.out.ps.rd (by intro h; simp [h] at h1)
      obtain ⟨r0, r1⟩ := hrd k _ hkm
      clear hrd
      have NA := aside (fun h => nextOf_at (N := N) hkm (fun j q h2 h3 => hno.out j q h2 h3) (x := x) h)
      have NS : Aside (R[k].at_ + R[k].bs.length ≤ x → ∀ (j : Nat) (q : RP), j < k + 1 → R[j]? = some q → q.at_ + q.bs.length ≤ x) := fun h j q h2 h3 => by
        by_cases h4 : j < k
        · exact hno.out j q h4 h3
        · obtain rfl : j = k := by omega
          rw [hkm] at h3
          cases h3
          exact h
      clear hkm
      generalize R[k] = r at *
      have EN := aside (fun W => end_any r.at_ r.bs.length (some ⟨r.blk, r.off, none⟩) r.c W (by omega))
      go_wp2_with fail
      refine (EN.out wr).mono ?_
      rintro e w1 ⟨rfl, hb1⟩
      have HB1 := aside (hB.out.trans (hb1.mono hB.out.size))
      have q0 : ∀ d os, (ext w1 d os).cell? ⟨b, 0, none⟩ = some (.slice (some ⟨blk, off, none⟩) R.length c) := fun d os => ext_cell ((hb1.cell (World.block_lt_of_cell? wr _ c0)).trans c0) d os
      have q1 : ∀ d os, (ext w1 d os).cell? ⟨blk, off + k * 2, none⟩ = some (.int .i64 r.at_) := fun d os => ext_cell ((hb1.cell (World.block_lt_of_cell? wr _ r0)).trans r0) d os
      have q2 : ∀ d os, (ext w1 d os).cell? ⟨blk, off + k * 2 + 1, none⟩ = some (.slice (some ⟨r.blk, r.off, none⟩) r.bs.length r.c) := fun d os => ext_cell ((hb1.cell (World.block_lt_of_cell? wr _ r1)).trans r1) d os
      clear hb1 c0 c1 r0 r1
      by_cases h2 : x < r.at_ + r.bs.length
      · have t2 : (x : Int) < ((r.at_ + r.bs.length : Nat) : Int) := by omega
        have HN := aside (NA.out h2)
        clear h2
        go_wp2_with fail
        refine region_ext (by kernel_rfl) (by kernel_rfl) ?_
        repeat (any_goals (first | go_big_quiet_step ((go_at_call 59; exact calls_ext (EN.out _))) | quiet_step ((go_at_call 59; exact calls_ext (EN.out _)))))
        refine wpQuiet_nil ?_
        intro w3 hb3
        have HB3 := aside (HB1.out.trans (hb3.mono HB1.out.size))
        clear hb3
        go_wp2
        all_goals
          go_ret2
          refine ⟨?_, HB3.out⟩
          rw [HN.out]
          exact ret_pair (by omega) (by omega)
      · have t2 : ¬ ((x : Int) < ((r.at_ + r.bs.length : Nat) : Int)) := by omega
        have HN := aside (NS.out (by omega))
        clear h2
        go_wp2
        go_round
        case rel => exact ⟨k + 1, by omega, by go_num, HN, HB1⟩
        case measure => simp [intOf]; omega
    · obtain rfl : k = R.length := by omega
      have t1 : ¬ ((R.length : Int) < (R.length : Int)) := by omega
      have q0 : ∀ d os, (ext wr d os).cell? ⟨b, 1, none⟩ = some (.int .i64 N) := fun d os => ext_cell c1 d os
      have HN := aside (nextOf_none (N := N) (x := x) (R := R) fun j q h => hno.out j q (List.getElem?_eq_some_iff.1 h).1 h)
      go_wp2
      refine region_ext (by kernel_rfl) (by kernel_rfl) ?_
      repeat (any_goals (first | go_big_quiet_step ((fail)) | quiet_step ((fail))))
      refine wpQuiet_nil ?_
      intro w3 hb3
      have HB3 := aside (hB.out.trans (hb3.mono hB.out.size))
      clear hb3
      go_wp2
      go_ret2
      rw [HN.out]
      exact ⟨rfl, HB3.out⟩
end Go.Proofs.Ytoagjgcpgpjjeaa

namespace Go.Proofs.Ytoagjgcpgpjjeaa
open Go.RowKit
set_option maxRecDepth 20000
attribute [local simp] lcells_nil readB_length bcells_length

/-- Bytes and the document's answer beside each other, of one size and one content. -/
structure Twain (w : World) (s N : Nat) (lv : Value) (L : List Piece) (r : Nat) (a : Option Addr) (c : Nat) (R : List RP) : Prop where
  rep : Rep w s N lv L
  ref : RRep w r N a c R
  same : ct L = ct (pls R)
  apart : ∀ k, Foot s lv L k → ¬ RFoot r a R k
theorem RRep.below {w w' : World} {b N : Nat} {a : Option Addr} {c : Nat} {R : List RP} (h : RRep w b N a c R) (hb : Below w.heap.size w w') : RRep w' b N a c R := ⟨h.obj.below hb, h.inv⟩
theorem Twain.below {w w' : World} {s N : Nat} {lv : Value} {L : List Piece} {r : Nat} {a : Option Addr} {c : Nat} {R : List RP} (h : Twain w s N lv L r a c R) (hb : Below w.heap.size w w') : Twain w' s N lv L r a c R :=
  ⟨h.rep.below hb, h.ref.below hb, h.same, h.apart⟩

theorem newB_bs {w : World} {B : Nat} {a : Option Addr} {l : List UInt8} (h : NewB w B a l) : BsAt w a l := fun hl => by
  rcases h with h | ⟨rfl, hh⟩
  · exact absurd h hl
  · exact ⟨_, rfl, fun j v hj => by rw [Addr.add_lit, Nat.zero_add, cell_of_row w B j _ _ _ hh]; simpa using hj⟩

theorem nextOf_bd {N x : Nat} {L : List Piece} (h : Inv N L) : (nextOf L N x).1 ≤ N ∧ (nextOf L N x).2 ≤ N := by
  unfold nextOf
  split
  · rename_i d hd
    have h1 := List.find?_some hd
    have h2 := h.fin d (List.mem_of_find?_eq_some hd)
    simp only [decide_eq_true_eq] at h1
    have h3 := h.ne d (List.mem_of_find?_eq_some hd)
    have h4 : d.fin = d.org + d.bs.length := rfl
    exact ⟨by simp only; omega, h2⟩
  · exact ⟨Nat.le_refl _, Nat.le_refl _⟩

set_option maxHeartbeats 4000000 in
theorem sameBytes_any (s N : Nat) (lv : Value) (L : List Piece) (r : Nat) (a : Option Addr) (c : Nat) (R : List RP) (w : World) (h : Twain w s N lv L r a c R) :
    Calls Try.prog 35 #[.pointer (some ⟨s, 0, none⟩), .pointer (some ⟨r, 0, none⟩)] w fun e w' => e = .returned (.bool true) ∧ Below w.heap.size w w' := by
  have hlen := h.ref.len
  have hN := h.rep.inv.size
  have hheld : heldR R = heldOf L := (ct_held h.same).symm
  have S1 := aside (fun W (hW : Below w.heap.size w W) => size_any s N lv L W (h.rep.below hW))
  have S2 := aside (fun W (hW : Below w.heap.size w W) => held_any s N lv L W (h.rep.below hW))
  have S3 := heldObj_any
  have S3' : ∀ W, Below w.heap.size w W → Calls Try.prog 52 #[.pointer (some ⟨r, 0, none⟩)] W fun e w' => e = .returned (.int .i64 (heldOf L)) ∧ w' = W := fun W hW => by
    have := heldObj_any r N a c R W (h.ref.obj.below hW).ref
    rwa [hheld] at this
  have HS3 := aside S3'
  have q1 : ∀ d os, (ext w d os).cell? ⟨r, 1, none⟩ = some (.int .i64 N) := fun d os => ext_cell h.ref.obj.cells.2.1 d os
  have H := aside h
  clear S3 S3' hheld h
  go_enter Try.func35, Try.ntmps35
  go_wp2_with fail
  refine region_ext (by kernel_rfl) (by kernel_rfl) ?_
  repeat (any_goals (first
    | go_big_quiet_step ((go_at_call 50; exact calls_ext ((S1.out _ (below_ext _ _ _)).mono fun _ _ hh => ⟨hh.1, hh.2 ▸ Below.refl _ _⟩)))
    | go_big_quiet_step ((go_at_call 51; exact calls_ext ((S2.out _ (below_ext _ _ _)).mono fun _ _ hh => ⟨hh.1, hh.2 ▸ Below.refl _ _⟩)))
    | go_big_quiet_step ((go_at_call 52; exact calls_ext ((HS3.out _ (below_ext _ _ _)).mono fun _ _ hh => ⟨hh.1, hh.2 ▸ Below.refl _ _⟩)))
    | quiet_step ((fail))))
  refine wpQuiet_nil ?_
  intro w1 hb1
  have HB1 := aside hb1
  clear hb1 q1
  go_wp2_with fail
  go_loopw [5, 6] (fun s5 s6 wr => ∃ (k x : Nat), k ≤ R.length + 1 ∧ x ≤ 1073741824 ∧ s5 = .int .i64 x ∧ s6 = .int .i64 k ∧ Aside (Below w.heap.size w wr)) (fun _ s6 _ => R.length + 1 - (intOf s6).toNat)
  case atStart => exact ⟨0, 0, Nat.zero_le _, Nat.zero_le _, rfl, rfl, HB1⟩
  case round =>
    obtain ⟨k, x, hk, hx, rfl, rfl, hB⟩ := hrel
    have Hr := aside (H.out.below hB.out)
    have d0 := Hr.out.ref.obj.cells.1
    by_cases h1 : k ≤ R.length
    · have t1 : (k : Int) ≤ (R.length : Int) := by omega
      have hnx := nextOf_bd (x := x) H.out.rep.inv
      have N1 := next_any s N lv L (x : Int) wr Hr.out.rep (by omega)
      rw [Int.toNat_natCast] at N1
      have N2 : ∀ W, Below wr.heap.size wr W → Calls Try.prog 54 #[.pointer (some ⟨r, 0, none⟩), .int .i64 (x : Int)] W fun e w' => e = .returned (.tuple #[.int .i64 ((nextOf L N x).1 : Nat), .int .i64 ((nextOf L N x).2 : Nat)]) ∧ Below W.heap.size W w' := fun W hW => by
        have := nextRef_any r N a c R (x : Int) W (Hr.out.ref.obj.below hW).ref (by omega)
        rwa [Int.toNat_natCast, ← ct_next N x H.out.same] at this
      generalize (nextOf L N x).1 = f at *
      generalize (nextOf L N x).2 = u at *
      have HN1 := aside N1
      have HN2 := aside N2
      clear N1 N2
      go_wp2_with fail
      refine HN1.out.mono ?_
      rintro e w2 ⟨rfl, hb2⟩
      have HB2 := aside hb2
      clear hb2
      go_wp2_with fail
      refine (HN2.out w2 HB2.out).mono ?_
      rintro e w3 ⟨rfl, hb3⟩
      have HB3 := aside (hB.out.trans ((below_tr HB2.out hb3).mono hB.out.size))
      clear hb3 d0
      go_wp2_with fail
      go_loopw [11] (fun s11 wq => ∃ (p : Nat), p ≤ 1073807360 ∧ s11 = .int .i64 p ∧ Aside (Below w.heap.size w wq)) (fun s11 _ => u - (intOf s11).toNat)
      case atStart => exact ⟨f, by omega, rfl, HB3⟩
      case round =>
        obtain ⟨p, hp, rfl, hBq⟩ := hrel
        by_cases h2 : p < u
        · have t2 : (p : Int) < (u : Int) := by omega
          obtain ⟨n, hn⟩ : ∃ n, n = min 65536 (u - p) := ⟨_, rfl⟩
          have hmn : min (65536 : Int) ((u : Int) - (p : Int)) = (n : Int) := by omega
          have HMN := aside hmn
          have hnb : n ≤ 65536 := by omega
          have Hq := aside (H.out.below hBq.out)
          clear hn hmn
          have G1 := aside (get_all s N lv L (p : Int) (n : Int) wr Hq.out.rep (by omega))
          go_wp2_with ((with_reducible refine wpList_min2 _ rfl _ _ _ rfl 65536 ((u : Int) - (p : Int)) (n : Int) ?_ ?_ HMN.out ?_); rfl; rfl)
          refine G1.out.mono ?_
          rintro e w4 ⟨a4, c4, rfl, -, hn4, hb4⟩
          have G2 := getRef_all r N a c R (p : Int) (n : Int) w4 (Hq.out.ref.below hb4) (by omega)
          rw [← ct_get H.out.same N (p : Int) (n : Int)] at G2
          generalize getL L N (p : Int) (n : Int) = gl at *
          have HN4 := aside hn4
          have HB4 := aside hb4
          have G2 := aside G2
          clear hn4 hb4
          go_wp2_with fail
          refine G2.out.mono ?_
          rintro e w5 ⟨a5, c5, rfl, hn5, hb5⟩
          have SM := same_any a4 a5 gl gl c4 c5 w5 ((newB_bs HN4.out).below hb5) (newB_bs hn5)
          rw [show (gl == gl) = true by simp] at SM
          have HSM := aside SM
          have HB5 := aside (hBq.out.trans ((below_tr HB4.out hb5).mono hBq.out.size))
          clear SM hn5 hb5
          go_wp2_with fail
          refine HSM.out.mono ?_
          rintro e w6 ⟨rfl, rfl⟩
          go_wp2_with fail
          go_roundw
          case rel => exact ⟨p + 65536, by omega, by go_num, HB5⟩
          case measure => simp [intOf]; omega
        · have t2 : ¬ ((p : Int) < (u : Int)) := by omega
          go_wp2_with fail
          go_roundw
          case rel => exact ⟨k + 1, u, by omega, by omega, rfl, by go_num, hBq⟩
          case measure => simp [intOf]; omega
    · have t1 : ¬ ((k : Int) ≤ (R.length : Int)) := by omega
      go_wp2_with fail
      go_ret
      exact ⟨rfl, hB.out⟩
end Go.Proofs.Ytoagjgcpgpjjeaa

namespace Go.Proofs.Ytoagjgcpgpjjeaa
open Go.RowKit
set_option maxRecDepth 20000
set_option linter.unusedVariables false
set_option linter.unusedSimpArgs false
attribute [local simp] lcells_nil readB_length bcells_length

structure Both (w : World) (s N : Nat) (lv : Value) (L : List Piece) (r M : Nat) (a : Option Addr) (c : Nat) (R : List RP) : Prop where
  rep : Rep w s N lv L
  ref : RRep w r M a c R
  apart : ∀ k, Foot s lv L k → ¬ RFoot r a R k
section
variable {w W w1 w2 : World} {s N N1 M r : Nat} {lv lv1 : Value} {L L1 : List Piece} {a a2 : Option Addr} {c c2 : Nat} {R R2 : List RP}

theorem Twain.both (h : Twain w s N lv L r a c R) : Both w s N lv L r N a c R := ⟨h.rep, h.ref, h.apart⟩
theorem Both.below (h : Both w s N lv L r M a c R) (hb : Below w.heap.size w w1) : Both w1 s N lv L r M a c R := ⟨h.rep.below hb, h.ref.below hb, h.apart⟩
theorem RRep.upd {F : Nat → Prop} {b : Nat} (h : RRep w b N a c R) (hu : Upd F w w1) (hF : ∀ k, RFoot b a R k → ¬ F k) : RRep w1 b N a c R := ⟨h.obj.upd hu hF, h.inv⟩
theorem Both.left (h : Both w s N lv L r M a c R) (hR : Rep w1 s N1 lv1 L1) (hG : Grew s lv L w lv1 L1) (hu : Upd (Foot s lv L) w w1) : Both w1 s N1 lv1 L1 r M a c R := by
  refine ⟨hR, h.ref.upd hu (fun k hk hf => h.apart k hf hk), fun k hk hr => ?_⟩
  rcases hG k hk with h1 | h1
  · exact h.apart k h1 hr
  · have := h.ref.obj.lt hr; omega
theorem Both.right {M1 : Nat} (h : Both w s N lv L r M a c R) (hR : RRep w1 r M1 a2 c2 R2) (hG : RGrew r a R w a2 R2) (hu : Upd (fun k => k = r) w w1) : Both w1 s N lv L r M1 a2 c2 R2 := by
  refine ⟨h.rep.kept hu (fun k hk e => h.apart k hk (.inl e)), hR, fun k hk hr => ?_⟩
  rcases hG k hr with h1 | h1
  · exact h.apart k hk h1
  · have := h.rep.str.lv_lt hk; omega

/-- What one call leaves: again of one content; only blocks of both have changed, and they reach only these and new ones. -/
def MovedPost (w : World) (s N : Nat) (lv : Value) (L : List Piece) (r : Nat) (a : Option Addr) (c : Nat) (R : List RP) (w' : World) : Prop :=
  ∃ N' lv' L' a' c' R', Twain w' s N' lv' L' r a' c' R' ∧ (∀ k, Foot s lv' L' k ∨ RFoot r a' R' k → (Foot s lv L k ∨ RFoot r a R k) ∨ w.heap.size ≤ k) ∧ Upd (fun k => Foot s lv L k ∨ RFoot r a R k) w w'

theorem moved_quiet (h : Twain w s N lv L r a c R) (hb : Below w.heap.size w w1) : MovedPost w s N lv L r a c R w1 :=
  ⟨N, lv, L, a, c, R, h.below hb, fun _ hk => .inl hk, Upd.of_below hb⟩
theorem moved_both {M1 : Nat} {a3 : Option Addr} {c3 : Nat} {R3 : List RP} (hB : Both w2 s N1 lv1 L1 r M1 a3 c3 R3) (hM : M1 = N1) (hct : ct L1 = ct (pls R3)) (hg : ∀ k, Foot s lv1 L1 k → Foot s lv L k ∨ w.heap.size ≤ k) (hg2 : RGrew r a R w a3 R3) (hu : Upd (fun k => Foot s lv L k ∨ RFoot r a R k) w w2) : MovedPost w s N lv L r a c R w2 := by
  subst hM
  refine ⟨M1, lv1, L1, a3, c3, R3, ⟨hB.rep, hB.ref, hct, hB.apart⟩, fun k hk => ?_, hu⟩
  rcases hk with hk | hk
  · exact (hg k hk).imp .inl id
  · exact (hg2 k hk).imp .inr id
end

/-- A block that is neither one's, kept. -/
theorem kept_cell {w w' : World} {F : Nat → Prop} {p : Addr} {v : Value} (hu : Upd F w w') (h : w.cell? p = some v) (hn : ¬ F p.block) : w'.cell? p = some v := by
  rw [World.cell?_of_block (hu.block _ (World.block_lt_of_cell? w _ h) hn)]; exact h


end Go.Proofs.Ytoagjgcpgpjjeaa

namespace Go.Proofs.Ytoagjgcpgpjjeaa
open Go.RowKit
set_option linter.unusedVariables false
set_option linter.unusedSimpArgs false
attribute [local simp] lcells_nil readB_length bcells_length

theorem own_built {w : World} {g : Nat} (h : w.heap[g]? = some (.cells #[] 5 (0, 0))) : w.ownsRow 0 5 1 (.slice (some ⟨g, 0, none⟩) 0 0) 0 [] :=
  ⟨by simp, .inr ⟨g, 0, #[], rfl, Nat.zero_le _, h, Nat.le_refl _, by unfold maxLen; omega, by simp, by simp⟩⟩

/-- append of bytes onto a row that was just built of nothing. -/
theorem step_app1 {ops : Array Oper} {o : Oper} {a : Act} {w : World} {K : Act → World → Prop} {Q : Exit → Act → World → Prop} {E : Prop} (hgd : o.guard = none) (s x : Operand)
    (ho : o.op = .call { callee := .builtin .append, args := #[s, x], argTypes := #[22, 22] }) (g : Nat) (hs : a.eval s = .slice (some ⟨g, 0, none⟩) 0 0) (hg : w.heap[g]? = some (.cells #[] 5 (0, 0)))
    (l : List UInt8) (ba : Option Addr) (bc : Nat) (hx : a.eval x = .slice ba l.length bc) (hbs : BsAt w ba l) (hl : l.length ≤ 33554431)
    (h : ∀ g1 c1 w', w'.ownsRow 0 5 1 (.slice (some ⟨g1, 0, none⟩) l.length c1) l.length (bcells l) → Upd (fun k => k = g) w w' → (g1 = g ∨ g1 = w.heap.size) → K (a.put o.dst (.slice (some ⟨g1, 0, none⟩) l.length c1)) w') :
    if Region.wanted o (yielded ops a.tmps) = true then Oper.wp Try.prog o a w K Q else E := by
  by_cases hn : l = []
  · subst hn
    rw [if_pos (by simp [Region.wanted, hgd])]
    obtain ⟨i, hi, -⟩ := info_parts info5
    unfold Oper.wp execOp
    simp only [ho, resolve, invoke, builtin, Sem.run_bind, Sem.run_pure, Result.andThen_ok, List.map_toArray, List.map_cons, List.map_nil, hs, hx, List.length_nil, run_append_zero w 22 o.type 5 i Try.underlying22 hi (some ⟨g, 0, none⟩) 0 0 (Nat.le_refl _) ba bc]
    exact h g 0 w (own_built hg) (Upd.refl _ _) (.inl rfl)
  · obtain ⟨ad, rfl, hc⟩ := hbs hn
    have hpos : 0 < l.length := List.length_pos_iff.2 hn
    refine step_append_any hgd s x 22 ho 5 (.int .u8 0) 1 1 Try.underlying22 info5 rfl (by decide) _ 0 [] hs (own_built hg) ad l.length bc (bcells l) hx (by simp) hc (bcells_one _) (by unfold maxLen; omega) (by omega) hpos ?_
    intro v' w' h1 h2 h3
    rw [Nat.zero_add, List.nil_append] at h1
    rcases h1.2 with ⟨-, hz⟩ | ⟨g1, c1, cur, rfl, -⟩
    · omega
    · refine h g1 c1 w' h1 (h2.mono fun k _ e => by simpa [Value.ownBlock] using e.symm) ?_
      rcases h3 with h3 | h3
      · left; simpa [Value.ownBlock] using h3
      · right; simpa [Value.ownBlock] using h3

end Go.Proofs.Ytoagjgcpgpjjeaa

namespace Go.Proofs.Ytoagjgcpgpjjeaa
open Go.RowKit
set_option linter.unusedVariables false
set_option linter.unusedSimpArgs false
attribute [local simp] lcells_nil readB_length bcells_length

/-- Bytes and the document's answer. -/
structure Tw where
  s : Nat
  N : Nat
  lv : Value
  L : List Piece
  r : Nat
  a : Option Addr
  c : Nat
  R : List RP
def Tw.At (x : Tw) (w : World) : Prop := Twain w x.s x.N x.lv x.L x.r x.a x.c x.R
def Tw.F (x : Tw) (k : Nat) : Prop := Foot x.s x.lv x.L k ∨ RFoot x.r x.a x.R k
theorem Tw.lt {x : Tw} {w : World} (h : x.At w) {k : Nat} (hk : x.F k) : k < w.heap.size := hk.elim (fun h1 => h.rep.str.lv_lt h1) (fun h1 => h.ref.obj.lt h1)
/-- Both, made since w0. -/
structure Pr (w0 w : World) (x : Tw) : Prop where
  hx : x.At w
  below : Below w0.heap.size w0 w
  fx : ∀ k, x.F k → w0.heap.size ≤ k
theorem Pr.quiet {w0 w w' : World} {x : Tw} (h : Pr w0 w x) (hb : Below w.heap.size w w') : Pr w0 w' x := ⟨Twain.below h.hx hb, h.below.trans (hb.mono h.below.size), h.fx⟩
theorem Pr.moved {w0 w w' : World} {x : Tw} (h : Pr w0 w x) (hp : MovedPost w x.s x.N x.lv x.L x.r x.a x.c x.R w') : ∃ x', x'.s = x.s ∧ x'.r = x.r ∧ Pr w0 w' x' := by
  obtain ⟨N', lv', L', a', c', R', hT, hg, hu⟩ := hp
  refine ⟨⟨x.s, N', lv', L', x.r, a', c', R'⟩, rfl, rfl, hT, h.below.trans (hu.below h.below.size h.fx), fun k hk => ?_⟩
  rcases hg k hk with h1 | h1
  · exact h.fx k h1
  · have := h.below.size; omega


/-- The call is done on the bytes, and not yet on the document's. -/
def Half (x : Tw) (Rel : Int → Nat → List Piece → Prop) (w w' : World) : Prop :=
  ∃ q N1 lv1 L1, Rel q N1 L1 ∧ Both w' x.s N1 lv1 L1 x.r x.N x.a x.c x.R ∧ (∀ k, Foot x.s lv1 L1 k → Foot x.s x.lv x.L k ∨ w.heap.size ≤ k) ∧ Upd (Foot x.s x.lv x.L) w w'
theorem Half.below {x : Tw} {Rel : Int → Nat → List Piece → Prop} {w w' V : World} (h : Half x Rel w w') (hb : Below w'.heap.size w' V) : Half x Rel w V := by
  obtain ⟨q, N1, lv1, L1, h1, h2, h3, h4⟩ := h
  exact ⟨q, N1, lv1, L1, h1, h2.below hb, h3, h4.trans (Upd.of_below hb) (fun _ _ h => h)⟩
theorem half_of {x : Tw} {Rel : Int → Nat → List Piece → Prop} {w w' : World} (h : x.At w) {q : Int} {N1 : Nat} {lv1 : Value} {L1 : List Piece} (hr : Rel q N1 L1) (hR : Rep w' x.s N1 lv1 L1) (hG : Grew x.s x.lv x.L w lv1 L1) (hu : Upd (Foot x.s x.lv x.L) w w') : Half x Rel w w' :=
  ⟨q, N1, lv1, L1, hr, (Twain.both h).left hR hG hu, fun k hk => hG k hk, hu⟩
theorem half_end {x : Tw} {Rel : Int → Nat → List Piece → Prop} {w V w' : World} (hh : Half x Rel w V) {q : Int} {N1 a1 c1 R1} (hrel : ∀ q' N' L', Rel q' N' L' → N' = N1 ∧ ct L' = ct (pls R1)) (hR : RRep w' x.r N1 a1 c1 R1) (hG : RGrew x.r x.a x.R V a1 R1) (hu : Upd (fun k => k = x.r) V w') :
    MovedPost w x.s x.N x.lv x.L x.r x.a x.c x.R w' := by
  obtain ⟨q', N', lv', L', h1, h2, h3, h4⟩ := hh
  obtain ⟨rfl, hct⟩ := hrel q' N' L' h1
  refine moved_both (h2.right hR hG hu) rfl hct h3 (fun k hk => (hG k hk).imp id (fun h => Nat.le_trans h4.size h)) ?_
  exact (h4.mono fun _ _ h => .inl h).trans (hu.mono (G := fun k => Foot x.s x.lv x.L k ∨ RFoot x.r x.a x.R k) fun k _ e => .inr (.inl e)) (fun _ _ h => h)

theorem putS (x : Tw) (t : Int) (ba : Option Addr) (l : List UInt8) (bc : Nat) (w : World) (h : x.At w) (hbs : BsAt w ba l) (ht : t ≤ 9223372036854775807) (hl : l.length ≤ 4611686018427387904) :
    Calls Try.prog 22 #[.pointer (some ⟨x.s, 0, none⟩), .int .i64 t, .slice ba l.length bc] w fun e w' => ∃ q, e = .returned (.int .i64 q) ∧ Half x (PutR x.N x.L t l) w w' := by
  refine (put_all x.s x.N x.lv x.L t ba l bc w h.rep hbs ht hl).mono ?_
  rintro e w' ⟨q, N1, lv1, L1, rfl, hP, hR, hG, hu⟩
  exact ⟨q, rfl, half_of h hP hR hG hu⟩
theorem putD (x : Tw) (t : Int) (ba : Option Addr) (l : List UInt8) (bc : Nat) (w V : World) (hc : ct x.L = ct (pls x.R)) (hh : Half x (PutR x.N x.L t l) w V) (hbs : BsAt V ba l) (ht : t ≤ 9223372036854775807) (hl : l.length ≤ 4611686018427387904) :
    Calls Try.prog 23 #[.pointer (some ⟨x.r, 0, none⟩), .int .i64 t, .slice ba l.length bc] V fun e w' => ∃ q, e = .returned (.int .i64 q) ∧ MovedPost w x.s x.N x.lv x.L x.r x.a x.c x.R w' ∧ Upd (fun k => k = x.r) V w' := by
  obtain ⟨q0, N0, lv0, L0, h1, h2, h3, h4⟩ := hh
  refine (putRef_all x.r x.N x.a x.c x.R t ba l bc V h2.ref hbs ht hl).mono ?_
  rintro e w' ⟨q, N1, a1, c1, R1, rfl, hP, hR, hG, hu⟩
  exact ⟨q, rfl, half_end (q := q) ⟨q0, N0, lv0, L0, h1, h2, h3, h4⟩ (fun q' N' L' hr => (put_ct hc hr hP).2) hR hG hu, hu⟩
theorem cutS (x : Tw) (t : Int) (w : World) (h : x.At w) :
    Calls Try.prog 24 #[.pointer (some ⟨x.s, 0, none⟩), .int .i64 t] w fun e w' => ∃ q, e = .returned (.int .i64 q) ∧ Half x (CutR x.N x.L t) w w' := by
  refine (cut_all x.s x.N x.lv x.L t w h.rep).mono ?_
  rintro e w' ⟨q, N1, lv1, L1, rfl, hP, hR, hG, hu⟩
  exact ⟨q, rfl, half_of h hP hR hG hu⟩
theorem cutD (x : Tw) (t : Int) (w V : World) (hc : ct x.L = ct (pls x.R)) (hh : Half x (CutR x.N x.L t) w V) :
    Calls Try.prog 25 #[.pointer (some ⟨x.r, 0, none⟩), .int .i64 t] V fun e w' => ∃ q, e = .returned (.int .i64 q) ∧ MovedPost w x.s x.N x.lv x.L x.r x.a x.c x.R w' := by
  obtain ⟨q0, N0, lv0, L0, h1, h2, h3, h4⟩ := hh
  refine (cutRef_all x.r x.N x.a x.c x.R t V h2.ref).mono ?_
  rintro e w' ⟨q, N1, a1, c1, R1, rfl, hP, hR, hG, hu⟩
  exact ⟨q, rfl, half_end (q := q) ⟨q0, N0, lv0, L0, h1, h2, h3, h4⟩ (fun q' N' L' hr => (cut_ct hc hr hP).2) hR hG hu⟩
theorem punchS (x : Tw) (t n : Int) (w : World) (h : x.At w) :
    Calls Try.prog 26 #[.pointer (some ⟨x.s, 0, none⟩), .int .i64 t, .int .i64 n] w fun e w' => ∃ q, e = .returned (.int .i64 q) ∧ Half x (PunchR x.N x.L t n) w w' := by
  refine (punch_all x.s x.N x.lv x.L t n w h.rep).mono ?_
  rintro e w' ⟨q, N1, lv1, L1, rfl, hP, hR, hG, hu⟩
  exact ⟨q, rfl, half_of h hP hR hG hu⟩
theorem punchD (x : Tw) (t n : Int) (w V : World) (hc : ct x.L = ct (pls x.R)) (hh : Half x (PunchR x.N x.L t n) w V) :
    Calls Try.prog 27 #[.pointer (some ⟨x.r, 0, none⟩), .int .i64 t, .int .i64 n] V fun e w' => ∃ q, e = .returned (.int .i64 q) ∧ MovedPost w x.s x.N x.lv x.L x.r x.a x.c x.R w' := by
  obtain ⟨q0, N0, lv0, L0, h1, h2, h3, h4⟩ := hh
  refine (punchRef_all x.r x.N x.a x.c x.R t n V h2.ref).mono ?_
  rintro e w' ⟨q, N1, a1, c1, R1, rfl, hP, hR, hG, hu⟩
  exact ⟨q, rfl, half_end (q := q) ⟨q0, N0, lv0, L0, h1, h2, h3, h4⟩ (fun q' N' L' hr => (punch_ct hc hr hP).2) hR hG hu⟩
end Go.Proofs.Ytoagjgcpgpjjeaa

namespace Go.Proofs.Ytoagjgcpgpjjeaa
open Go.RowKit
set_option linter.unusedVariables false
set_option linter.unusedSimpArgs false
attribute [local simp] lcells_nil readB_length bcells_length

set_option maxHeartbeats 1000000 in
theorem newW_any (src : Addr) (l : List UInt8) (c : Nat) (w : World) (h0 : 0 < l.length) (hlc : l.length ≤ c) (hc : c ≤ 9223372036854775807) (hsrc : ∀ j v, (bcells l)[j]? = some v → w.cell? (src.add j) = some v) :
    Calls Try.prog 20 #[.slice (some src) l.length c] w fun e w' => e = .returned (.pointer (some ⟨w.heap.size, 0, none⟩)) ∧ ∃ lv g cap, Rep w' w.heap.size (l.take 4194304).length lv [⟨0, g, cap, l.take 4194304⟩] ∧ Below w.heap.size w w' ∧ ∀ k, Foot w.heap.size lv [⟨0, g, cap, l.take 4194304⟩] k → w.heap.size ≤ k := by
  obtain ⟨m, hm⟩ : ∃ m, m = (l.take 4194304).length := ⟨_, rfl⟩
  have hm2 : m = min l.length 4194304 := by rw [hm, List.length_take]; omega
  have hmn : min (l.length : Int) 4194304 = (m : Int) := by omega
  have hA := below_al w (.cells #[.int .i64 0, .int .i64 0, .slice none 0 0] 102)
  have P1 := putEnd_any w.heap.size 0 (.slice none 0 0) [] 0 src (l.take 4194304) c (w.alloc (.cells #[.int .i64 0, .int .i64 0, .slice none 0 0] 102)) (rep_new w) (by simp) (by omega) (by omega) (by simp [heldOf]; omega)
    (fun j v hj => by
      have h2 : (bcells l)[j]? = some v := by
        have e : bcells (l.take 4194304) = (bcells l).take 4194304 := by simp [bcells, List.map_take]
        rw [e, List.getElem?_take] at hj
        split at hj
        · exact hj
        · cases hj
      exact (hA.cell (World.block_lt_of_cell? w _ (hsrc j v h2))).trans (hsrc j v h2))
  rw [← hm] at P1 ⊢
  have HP := aside P1
  have HMN := aside hmn
  have HA := aside hA
  have hmc : m ≤ c := by omega
  have hmi : (m : Int) ≤ (c : Int) := by omega
  clear P1 hmn hA hsrc hm hm2
  go_enter Try.func20, Try.ntmps20
  go_wp2_with ((with_reducible refine wpList_min2 _ rfl _ _ _ rfl (l.length : Int) 4194304 (m : Int) ?_ ?_ HMN.out ?_); rfl; rfl)
  refine HP.out.mono ?_
  rintro e w1 ⟨rfl, lv, g, cap, hR, hu, hg, hk⟩
  go_wp2
  go_ret
  refine ⟨rfl, lv, g, cap, ?_, ?_, ?_⟩
  · simpa using hR
  · refine HA.out.trans (hu.below (by simp) (fun k hk => ?_))
    rcases hk with e | e | ⟨d, hd, -⟩
    · omega
    · simp [Value.ownBlock] at e
    · simp at hd
  · intro k hk
    rw [World.size_alloc] at hg
    rcases hk with e | e | ⟨d, hd, e⟩
    · omega
    · rcases ‹lv.ownBlock = _ ∨ _› with e1 | ⟨j, e1, hj⟩
      · rw [e1] at e; simp [Value.ownBlock] at e
      · rw [e1] at e; injection e with e; rw [World.size_alloc] at hj; omega
    · rw [List.mem_singleton.1 hd] at e; simp only at e; omega

set_option maxHeartbeats 1000000 in
/-- New of no bytes. -/
theorem newNoneW_any (a : Option Addr) (c : Nat) (w : World) (hc : c ≤ 9223372036854775807) :
    Calls Try.prog 20 #[.slice a 0 c] w fun e w' => e = .returned (.pointer (some ⟨w.heap.size, 0, none⟩)) ∧ ∃ lv, Rep w' w.heap.size 0 lv [] ∧ Below w.heap.size w w' ∧ ∀ k, Foot w.heap.size lv [] k → w.heap.size ≤ k := by
  have hR := aside (rep_new w)
  have hcc : (0 : Int) ≤ (c : Int) := by omega
  go_enter Try.func20, Try.ntmps20
  go_wp2_with ((with_reducible refine wpList_min2 _ rfl _ _ _ rfl (0 : Int) 4194304 (0 : Int) ?_ ?_ (by decide) ?_); rfl; rfl)
  refine (putNone_any _ _ _ _ _ (by omega)).mono ?_
  rintro e w' ⟨rfl, rfl⟩
  go_wp2
  go_ret
  refine ⟨rfl, .slice none 0 0, hR.out, below_al w _, ?_⟩
  rintro k (rfl | h | ⟨d, hd, -⟩)
  · exact Nat.le_refl _
  · cases h
  · simp at hd

theorem newW_all (a : Option Addr) (l : List UInt8) (c : Nat) (w : World) (h : BsAt w a l) (hlc : l.length ≤ c) (hc : c ≤ 9223372036854775807) :
    Calls Try.prog 20 #[.slice a l.length c] w fun e w' => e = .returned (.pointer (some ⟨w.heap.size, 0, none⟩)) ∧ ∃ lv L, Rep w' w.heap.size (min l.length 4194304) lv L ∧ ct L = ini l ∧ L.length ≤ 1 ∧ Below w.heap.size w w' ∧ ∀ k, Foot w.heap.size lv L k → w.heap.size ≤ k := by
  by_cases hn : l = []
  · subst hn
    refine (newNoneW_any a c w hc).mono ?_
    rintro e w' ⟨rfl, lv, hR, hb, hf⟩
    exact ⟨rfl, lv, [], by simpa using hR, by simp [ini, ct], by simp, hb, hf⟩
  · obtain ⟨ad, rfl, hs⟩ := h hn
    refine (newW_any ad l c w (List.length_pos_iff.2 hn) hlc hc hs).mono ?_
    rintro e w' ⟨rfl, lv, g, cap, hR, hb, hf⟩
    refine ⟨rfl, lv, _, ?_, by simp [ini, ct, hn], by simp, hb, hf⟩
    rw [List.length_take, Nat.min_comm] at hR
    exact hR

end Go.Proofs.Ytoagjgcpgpjjeaa
