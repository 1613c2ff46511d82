/- SameBytes, moved, and the walk of SpanPlays. -/
import Derived.Test.YtkekaljcbmkomaaRefC
import Derived.Test.YtkekaljcbmkomaaRefA
import Derived.Deep.RegionHeld3
import Derived.Test.YtkekaljcbmkomaaMoves
import Derived.Test.YtkekaljcbmkomaaMade
import Derived.Test.YtkekaljcbmkomaaWakes
namespace Go.Proofs.Ytkekaljcbmkomaa
open Go.RowKit
attribute [local simp] lcells_nil readB_length bcells_length

/-- Bytes and the document's answer beside each other, of one size and one content. -/
structure Twain (w : World) (s N : Nat) (lv : Value) (L : List Piece) (r : Nat) (a : Option Addr) (c : Nat) (R : List RP) : Prop where
  rep : Rep w s N lv L
  ref : RRep w r N a c R
  same : ct L = ct (pls R)
  apart : ∀ k, Foot s lv L k → ¬ RFoot r a R k
theorem RRep.below {w w' : World} {b N : Nat} {a : Option Addr} {c : Nat} {R : List RP} (h : RRep w b N a c R) (hb : Below w.heap.size w w') : RRep w' b N a c R := ⟨h.obj.below hb, h.inv⟩
theorem Twain.below {w w' : World} {s N : Nat} {lv : Value} {L : List Piece} {r : Nat} {a : Option Addr} {c : Nat} {R : List RP} (h : Twain w s N lv L r a c R) (hb : Below w.heap.size w w') : Twain w' s N lv L r a c R :=
  ⟨h.rep.below hb, h.ref.below hb, h.same, h.apart⟩

theorem newB_bs {w : World} {B : Nat} {a : Option Addr} {l : List UInt8} (h : NewB w B a l) : BsAt w a l := fun hl => by
  rcases h with h | ⟨rfl, hh⟩
  · exact absurd h hl
  · exact ⟨_, rfl, fun j v hj => by rw [Addr.add_lit, Nat.zero_add, cell_of_row w B j _ _ _ hh]; simpa using hj⟩

theorem nextOf_bd {N x : Nat} {L : List Piece} (h : Inv N L) : (nextOf L N x).1 ≤ N ∧ (nextOf L N x).2 ≤ N := by
  unfold nextOf
  split
  · rename_i d hd
    have h1 := List.find?_some hd
    have h2 := h.fin d (List.mem_of_find?_eq_some hd)
    simp only [decide_eq_true_eq] at h1
    have h3 := h.ne d (List.mem_of_find?_eq_some hd)
    have h4 : d.fin = d.org + d.bs.length := rfl
    exact ⟨by simp only; omega, h2⟩
  · exact ⟨Nat.le_refl _, Nat.le_refl _⟩

set_option maxHeartbeats 4000000 in
theorem sameBytes_any (s N : Nat) (lv : Value) (L : List Piece) (r : Nat) (a : Option Addr) (c : Nat) (R : List RP) (w : World) (h : Twain w s N lv L r a c R) :
    Calls Try.prog 16 #[.pointer (some ⟨s, 0, none⟩), .pointer (some ⟨r, 0, none⟩)] w fun e w' => e = .returned (.bool true) ∧ Below w.heap.size w w' := by
  have hlen := h.ref.len
  have hN := h.rep.inv.size
  have hheld : heldR R = heldOf L := (ct_held h.same).symm
  have S1 := aside (fun W (hW : Below w.heap.size w W) => size_any s N lv L W (h.rep.below hW))
  have S2 := aside (fun W (hW : Below w.heap.size w W) => held_any s N lv L W (h.rep.below hW))
  have S3 := heldObj_any
  have S3' : ∀ W, Below w.heap.size w W → Calls Try.prog 34 #[.pointer (some ⟨r, 0, none⟩)] W fun e w' => e = .returned (.int .i64 (heldOf L)) ∧ w' = W := fun W hW => by
    have := heldObj_any r N a c R W (h.ref.obj.below hW).ref
    rwa [hheld] at this
  have HS3 := aside S3'
  have q1 : ∀ d os, (ext w d os).cell? ⟨r, 1, none⟩ = some (.int .i64 N) := fun d os => ext_cell h.ref.obj.cells.2.1 d os
  have H := aside h
  clear S3 S3' hheld h
  go_enter Try.func16, Try.ntmps16
  go_wp2_with fail
  refine region_ext (by kernel_rfl) (by kernel_rfl) ?_
  repeat (any_goals (first
    | go_big_quiet_step ((go_at_call 17; exact calls_ext ((S1.out _ (below_ext _ _ _)).mono fun _ _ hh => ⟨hh.1, hh.2 ▸ Below.refl _ _⟩)))
    | go_big_quiet_step ((go_at_call 18; exact calls_ext ((S2.out _ (below_ext _ _ _)).mono fun _ _ hh => ⟨hh.1, hh.2 ▸ Below.refl _ _⟩)))
    | go_big_quiet_step ((go_at_call 34; exact calls_ext ((HS3.out _ (below_ext _ _ _)).mono fun _ _ hh => ⟨hh.1, hh.2 ▸ Below.refl _ _⟩)))
    | quiet_step ((fail))))
  refine wpQuiet_nil ?_
  intro w1 hb1
  have HB1 := aside hb1
  clear hb1 q1
  go_wp2_with fail
  go_loopw [5, 6] (fun s5 s6 wr => ∃ (k x : Nat), k ≤ R.length + 1 ∧ x ≤ 1073741824 ∧ s5 = .int .i64 x ∧ s6 = .int .i64 k ∧ Aside (Below w.heap.size w wr)) (fun _ s6 _ => R.length + 1 - (intOf s6).toNat)
  case atStart => exact ⟨0, 0, Nat.zero_le _, Nat.zero_le _, rfl, rfl, HB1⟩
  case round =>
    obtain ⟨k, x, hk, hx, rfl, rfl, hB⟩ := hrel
    have Hr := aside (H.out.below hB.out)
    have d0 := Hr.out.ref.obj.cells.1
    by_cases h1 : k ≤ R.length
    · have t1 : (k : Int) ≤ (R.length : Int) := by omega
      have hnx := nextOf_bd (x := x) H.out.rep.inv
      have N1 := next_any s N lv L (x : Int) wr Hr.out.rep (by omega)
      rw [Int.toNat_natCast] at N1
      have N2 : ∀ W, Below wr.heap.size wr W → Calls Try.prog 33 #[.pointer (some ⟨r, 0, none⟩), .int .i64 (x : Int)] W fun e w' => e = .returned (.tuple #[.int .i64 ((nextOf L N x).1 : Nat), .int .i64 ((nextOf L N x).2 : Nat)]) ∧ Below W.heap.size W w' := fun W hW => by
        have := nextRef_any r N a c R (x : Int) W (Hr.out.ref.obj.below hW).ref (by omega)
        rwa [Int.toNat_natCast, ← ct_next N x H.out.same] at this
      generalize (nextOf L N x).1 = f at *
      generalize (nextOf L N x).2 = u at *
      have HN1 := aside N1
      have HN2 := aside N2
      clear N1 N2
      go_wp2_with fail
      refine HN1.out.mono ?_
      rintro e w2 ⟨rfl, hb2⟩
      have HB2 := aside hb2
      clear hb2
      go_wp2_with fail
      refine (HN2.out w2 HB2.out).mono ?_
      rintro e w3 ⟨rfl, hb3⟩
      have HB3 := aside (hB.out.trans ((below_tr HB2.out hb3).mono hB.out.size))
      clear hb3 d0
      go_wp2_with fail
      go_loopw [11] (fun s11 wq => ∃ (p : Nat), p ≤ 1073807360 ∧ s11 = .int .i64 p ∧ Aside (Below w.heap.size w wq)) (fun s11 _ => u - (intOf s11).toNat)
      case atStart => exact ⟨f, by omega, rfl, HB3⟩
      case round =>
        obtain ⟨p, hp, rfl, hBq⟩ := hrel
        by_cases h2 : p < u
        · have t2 : (p : Int) < (u : Int) := by omega
          obtain ⟨n, hn⟩ : ∃ n, n = min 65536 (u - p) := ⟨_, rfl⟩
          have hmn : min (65536 : Int) ((u : Int) - (p : Int)) = (n : Int) := by omega
          have HMN := aside hmn
          have hnb : n ≤ 65536 := by omega
          have Hq := aside (H.out.below hBq.out)
          clear hn hmn
          have G1 := aside (get_all s N lv L (p : Int) (n : Int) wr Hq.out.rep (by omega))
          go_wp2_with ((with_reducible refine wpList_min2 _ rfl _ _ _ rfl 65536 ((u : Int) - (p : Int)) (n : Int) ?_ ?_ HMN.out ?_); rfl; rfl)
          refine G1.out.mono ?_
          rintro e w4 ⟨a4, c4, rfl, -, hn4, hb4⟩
          have G2 := getRef_all r N a c R (p : Int) (n : Int) w4 (Hq.out.ref.below hb4) (by omega)
          rw [← ct_get H.out.same N (p : Int) (n : Int)] at G2
          generalize getL L N (p : Int) (n : Int) = gl at *
          have HN4 := aside hn4
          have HB4 := aside hb4
          have G2 := aside G2
          clear hn4 hb4
          go_wp2_with fail
          refine G2.out.mono ?_
          rintro e w5 ⟨a5, c5, rfl, hn5, hb5⟩
          have SM := same_any a4 a5 gl gl c4 c5 w5 ((newB_bs HN4.out).below hb5) (newB_bs hn5)
          rw [show (gl == gl) = true by simp] at SM
          have HSM := aside SM
          have HB5 := aside (hBq.out.trans ((below_tr HB4.out hb5).mono hBq.out.size))
          clear SM hn5 hb5
          go_wp2_with fail
          refine HSM.out.mono ?_
          rintro e w6 ⟨rfl, rfl⟩
          go_wp2_with fail
          go_roundw
          case rel => exact ⟨p + 65536, by omega, by go_num, HB5⟩
          case measure => simp [intOf]; omega
        · have t2 : ¬ ((p : Int) < (u : Int)) := by omega
          go_wp2_with fail
          go_roundw
          case rel => exact ⟨k + 1, u, by omega, by omega, rfl, by go_num, hBq⟩
          case measure => simp [intOf]; omega
    · have t1 : ¬ ((k : Int) ≤ (R.length : Int)) := by omega
      go_wp2_with fail
      go_ret
      exact ⟨rfl, hB.out⟩
end Go.Proofs.Ytkekaljcbmkomaa

namespace Go.Proofs.Ytkekaljcbmkomaa
open Go.RowKit
set_option linter.unusedVariables false
set_option linter.unusedSimpArgs false
attribute [local simp] lcells_nil readB_length bcells_length

structure Both (w : World) (s N : Nat) (lv : Value) (L : List Piece) (r M : Nat) (a : Option Addr) (c : Nat) (R : List RP) : Prop where
  rep : Rep w s N lv L
  ref : RRep w r M a c R
  apart : ∀ k, Foot s lv L k → ¬ RFoot r a R k
section
variable {w W w1 w2 : World} {s N N1 M r : Nat} {lv lv1 : Value} {L L1 : List Piece} {a a2 : Option Addr} {c c2 : Nat} {R R2 : List RP}

theorem Twain.both (h : Twain w s N lv L r a c R) : Both w s N lv L r N a c R := ⟨h.rep, h.ref, h.apart⟩
theorem Both.below (h : Both w s N lv L r M a c R) (hb : Below w.heap.size w w1) : Both w1 s N lv L r M a c R := ⟨h.rep.below hb, h.ref.below hb, h.apart⟩
theorem RRep.upd {F : Nat → Prop} {b : Nat} (h : RRep w b N a c R) (hu : Upd F w w1) (hF : ∀ k, RFoot b a R k → ¬ F k) : RRep w1 b N a c R := ⟨h.obj.upd hu hF, h.inv⟩
theorem Both.left (h : Both w s N lv L r M a c R) (hR : Rep w1 s N1 lv1 L1) (hG : Grew s lv L w lv1 L1) (hu : Upd (Foot s lv L) w w1) : Both w1 s N1 lv1 L1 r M a c R := by
  refine ⟨hR, h.ref.upd hu (fun k hk hf => h.apart k hf hk), fun k hk hr => ?_⟩
  rcases hG k hk with h1 | h1
  · exact h.apart k h1 hr
  · have := h.ref.obj.lt hr; omega
theorem Both.right {M1 : Nat} (h : Both w s N lv L r M a c R) (hR : RRep w1 r M1 a2 c2 R2) (hG : RGrew r a R w a2 R2) (hu : Upd (fun k => k = r) w w1) : Both w1 s N lv L r M1 a2 c2 R2 := by
  refine ⟨h.rep.kept hu (fun k hk e => h.apart k hk (.inl e)), hR, fun k hk hr => ?_⟩
  rcases hG k hr with h1 | h1
  · exact h.apart k hk h1
  · have := h.rep.str.lv_lt hk; omega

/-- What one call leaves: again of one content; only blocks of both have changed, and they reach only these and new ones. -/
def MovedPost (w : World) (s N : Nat) (lv : Value) (L : List Piece) (r : Nat) (a : Option Addr) (c : Nat) (R : List RP) (w' : World) : Prop :=
  ∃ N' lv' L' a' c' R', Twain w' s N' lv' L' r a' c' R' ∧ (∀ k, Foot s lv' L' k ∨ RFoot r a' R' k → (Foot s lv L k ∨ RFoot r a R k) ∨ w.heap.size ≤ k) ∧ Upd (fun k => Foot s lv L k ∨ RFoot r a R k) w w'

theorem moved_quiet (h : Twain w s N lv L r a c R) (hb : Below w.heap.size w w1) : MovedPost w s N lv L r a c R w1 :=
  ⟨N, lv, L, a, c, R, h.below hb, fun _ hk => .inl hk, Upd.of_below hb⟩
theorem moved_both {M1 : Nat} {a3 : Option Addr} {c3 : Nat} {R3 : List RP} (hB : Both w2 s N1 lv1 L1 r M1 a3 c3 R3) (hM : M1 = N1) (hct : ct L1 = ct (pls R3)) (hg : ∀ k, Foot s lv1 L1 k → Foot s lv L k ∨ w.heap.size ≤ k) (hg2 : RGrew r a R w a3 R3) (hu : Upd (fun k => Foot s lv L k ∨ RFoot r a R k) w w2) : MovedPost w s N lv L r a c R w2 := by
  subst hM
  refine ⟨M1, lv1, L1, a3, c3, R3, ⟨hB.rep, hB.ref, hct, hB.apart⟩, fun k hk => ?_, hu⟩
  rcases hk with hk | hk
  · exact (hg k hk).imp .inl id
  · exact (hg2 k hk).imp .inr id
end

/-- A block that is neither one's, kept. -/
theorem kept_cell {w w' : World} {F : Nat → Prop} {p : Addr} {v : Value} (hu : Upd F w w') (h : w.cell? p = some v) (hn : ¬ F p.block) : w'.cell? p = some v := by
  rw [World.cell?_of_block (hu.block _ (World.block_lt_of_cell? w _ h) hn)]; exact h

set_option maxRecDepth 20000 in
set_option maxHeartbeats 2000000 in
theorem moved_cut (s N : Nat) (lv : Value) (L : List Piece) (r : Nat) (a : Option Addr) (c : Nat) (R : List RP) (t n : Int) (ba : Option Addr) (bn bc : Nat) (w : World) (h : Twain w s N lv L r a c R) :
    Calls Try.prog 15 #[.pointer (some ⟨s, 0, none⟩), .pointer (some ⟨r, 0, none⟩), .agg #[.int .i64 1, .int .i64 t, .int .i64 n, .slice ba bn bc]] w fun e w' => e = .returned (.bool true) ∧ MovedPost w s N lv L r a c R w' := by
  obtain ⟨W, hW⟩ : ∃ W, W = w.alloc (.cells #[.int .i64 1, .int .i64 t, .int .i64 n, .slice ba bn bc] 34) := ⟨_, rfl⟩
  have hB : Below w.heap.size w W := by rw [hW]; exact below_al w _
  have m0 : W.cell? ⟨w.heap.size, 0, none⟩ = some (.int .i64 1) := by rw [hW]; go_simp
  have m1 : W.cell? ⟨w.heap.size, 1, none⟩ = some (.int .i64 t) := by rw [hW]; go_simp
  have hBd : Below w.heap.size w W.drew := hB.drew
  have hT := h.below hBd
  have nf : ∀ k, Foot s lv L k → k < w.heap.size := fun k hk => h.rep.str.lv_lt hk
  have nr : ∀ k, RFoot r a R k → k < w.heap.size := fun k hk => h.ref.obj.lt hk
  have C1 : Calls Try.prog 22 #[.pointer (some ⟨s, 0, none⟩), .int .i64 t] W.drew fun e w' => ∃ q, e = .returned (.int .i64 q) ∧ w'.cell? ⟨w.heap.size, 1, none⟩ = some (.int .i64 t) ∧ Aside (∃ N1 lv1 L1, CutR N L t q N1 L1 ∧ Both w' s N1 lv1 L1 r N a c R ∧ (∀ k, Foot s lv1 L1 k → Foot s lv L k ∨ w.heap.size ≤ k) ∧ Upd (Foot s lv L) W.drew w') :=
    (cut_all s N lv L t W.drew hT.rep).mono (by
      rintro e w' ⟨q, N1, lv1, L1, rfl, hC, hR, hG, hu⟩
      exact ⟨q, rfl, kept_cell hu m1 (fun hk => by have := nf _ hk; simp at this), N1, lv1, L1, hC, hT.both.left hR hG hu, fun k hk => (hG k hk).imp id (fun h => Nat.le_trans hBd.size h), hu⟩)
  have C2 : ∀ w1 q N1 lv1 L1, CutR N L t q N1 L1 → Both w1 s N1 lv1 L1 r N a c R → (∀ k, Foot s lv1 L1 k → Foot s lv L k ∨ w.heap.size ≤ k) → Upd (Foot s lv L) W.drew w1 → w1.cell? ⟨w.heap.size, 1, none⟩ = some (.int .i64 t) → Calls Try.prog 29 #[.pointer (some ⟨r, 0, none⟩), .int .i64 t] w1 fun e w' => e = .returned (.int .i64 q) ∧ w'.cell? ⟨w.heap.size, 1, none⟩ = some (.int .i64 t) ∧ Aside (MovedPost w s N lv L r a c R w') := fun w1 q N1 lv1 L1 hC hBo hg hu1 hm =>
    (cutRef_all r N a c R t w1 hBo.ref).mono (by
      rintro e w' ⟨q2, N2, a2, c2, R2, rfl, hC2, hR2, hG2, hu2⟩
      obtain ⟨rfl, rfl, hct⟩ := cut_ct h.same hC hC2
      refine ⟨rfl, kept_cell hu2 hm (fun e => by have := nr r (.inl rfl); simp at e; omega), moved_both (hBo.right hR2 hG2 hu2) rfl hct hg (fun k hk => (hG2 k hk).imp id (fun h => Nat.le_trans (Nat.le_trans hBd.size hu1.size) h)) ?_⟩
      exact ((Upd.of_below hBd).trans (hu1.mono fun _ _ h => .inl h) (fun _ _ h => h)).trans (hu2.mono (G := fun k => Foot s lv L k ∨ RFoot r a R k) fun k _ e => .inr (.inl e)) (fun _ _ h => h))
  have HC1 := aside C1
  have HC2 := aside C2
  clear C1 C2 hT nf nr hB hBd h
  go_enter Try.func15, Try.ntmps15
  go_wp2_with fail
  rw [← hW]
  clear hW m0
  go_region_held3 (fun w' => w'.cell? ⟨w.heap.size, 1, none⟩ = some (.int .i64 t)) (go_keep) (first
    | (go_at_call 22; refine HC1.out.mono ?_; rintro e w1 ⟨q, rfl, hm1, hA⟩)
    | (go_at_call 29; obtain ⟨N1, lv1, L1, x1, x2, x3, x4⟩ := hA.out; refine (HC2.out _ _ N1 lv1 L1 x1 x2 x3 x4 hm1).mono ?_; rintro e w2 ⟨rfl, hm2, hF⟩))
  go_wp2_with fail
  go_ret
  exact ⟨by simp, hF.out⟩
end Go.Proofs.Ytkekaljcbmkomaa

namespace Go.Proofs.Ytkekaljcbmkomaa
open Go.RowKit
set_option linter.unusedVariables false
set_option linter.unusedSimpArgs false
attribute [local simp] lcells_nil readB_length bcells_length

set_option maxRecDepth 20000 in
set_option maxHeartbeats 2000000 in
theorem moved_punch (s N : Nat) (lv : Value) (L : List Piece) (r : Nat) (a : Option Addr) (c : Nat) (R : List RP) (t n : Int) (ba : Option Addr) (bn bc : Nat) (w : World) (h : Twain w s N lv L r a c R) :
    Calls Try.prog 15 #[.pointer (some ⟨s, 0, none⟩), .pointer (some ⟨r, 0, none⟩), .agg #[.int .i64 2, .int .i64 t, .int .i64 n, .slice ba bn bc]] w fun e w' => e = .returned (.bool true) ∧ MovedPost w s N lv L r a c R w' := by
  obtain ⟨W, hW⟩ : ∃ W, W = w.alloc (.cells #[.int .i64 2, .int .i64 t, .int .i64 n, .slice ba bn bc] 34) := ⟨_, rfl⟩
  have hB : Below w.heap.size w W := by rw [hW]; exact below_al w _
  have m0 : W.cell? ⟨w.heap.size, 0, none⟩ = some (.int .i64 2) := by rw [hW]; go_simp
  have m1 : W.cell? ⟨w.heap.size, 1, none⟩ = some (.int .i64 t) := by rw [hW]; go_simp
  have m2 : W.cell? ⟨w.heap.size, 2, none⟩ = some (.int .i64 n) := by rw [hW]; go_simp
  have hBd : Below w.heap.size w W.drew := hB.drew
  have hT := h.below hBd
  have nf : ∀ k, Foot s lv L k → k < w.heap.size := fun k hk => h.rep.str.lv_lt hk
  have nr : ∀ k, RFoot r a R k → k < w.heap.size := fun k hk => h.ref.obj.lt hk
  have C1 : Calls Try.prog 20 #[.pointer (some ⟨s, 0, none⟩), .int .i64 t, .int .i64 n] W.drew fun e w' => ∃ q, e = .returned (.int .i64 q) ∧ (w'.cell? ⟨w.heap.size, 1, none⟩ = some (.int .i64 t) ∧ w'.cell? ⟨w.heap.size, 2, none⟩ = some (.int .i64 n)) ∧ Aside (∃ N1 lv1 L1, PunchR N L t n q N1 L1 ∧ Both w' s N1 lv1 L1 r N a c R ∧ (∀ k, Foot s lv1 L1 k → Foot s lv L k ∨ w.heap.size ≤ k) ∧ Upd (Foot s lv L) W.drew w') :=
    (punch_all s N lv L t n W.drew hT.rep).mono (by
      rintro e w' ⟨q, N1, lv1, L1, rfl, hC, hR, hG, hu⟩
      exact ⟨q, rfl, ⟨kept_cell hu m1 (fun hk => by have := nf _ hk; simp at this), kept_cell hu m2 (fun hk => by have := nf _ hk; simp at this)⟩, N1, lv1, L1, hC, hT.both.left hR hG hu, fun k hk => (hG k hk).imp id (fun h => Nat.le_trans hBd.size h), hu⟩)
  have C2 : ∀ w1 q N1 lv1 L1, PunchR N L t n q N1 L1 → Both w1 s N1 lv1 L1 r N a c R → (∀ k, Foot s lv1 L1 k → Foot s lv L k ∨ w.heap.size ≤ k) → Upd (Foot s lv L) W.drew w1 → (w1.cell? ⟨w.heap.size, 1, none⟩ = some (.int .i64 t) ∧ w1.cell? ⟨w.heap.size, 2, none⟩ = some (.int .i64 n)) → Calls Try.prog 30 #[.pointer (some ⟨r, 0, none⟩), .int .i64 t, .int .i64 n] w1 fun e w' => e = .returned (.int .i64 q) ∧ (w'.cell? ⟨w.heap.size, 1, none⟩ = some (.int .i64 t) ∧ w'.cell? ⟨w.heap.size, 2, none⟩ = some (.int .i64 n)) ∧ Aside (MovedPost w s N lv L r a c R w') := fun w1 q N1 lv1 L1 hC hBo hg hu1 hm =>
    (punchRef_all r N a c R t n w1 hBo.ref).mono (by
      rintro e w' ⟨q2, N2, a2, c2, R2, rfl, hC2, hR2, hG2, hu2⟩
      obtain ⟨rfl, rfl, hct⟩ := punch_ct h.same hC hC2
      refine ⟨rfl, ⟨kept_cell hu2 hm.1 (fun e => by have := nr r (.inl rfl); simp at e; omega), kept_cell hu2 hm.2 (fun e => by have := nr r (.inl rfl); simp at e; omega)⟩, moved_both (hBo.right hR2 hG2 hu2) rfl hct hg (fun k hk => (hG2 k hk).imp id (fun h => Nat.le_trans (Nat.le_trans hBd.size hu1.size) h)) ?_⟩
      exact ((Upd.of_below hBd).trans (hu1.mono fun _ _ h => .inl h) (fun _ _ h => h)).trans (hu2.mono (G := fun k => Foot s lv L k ∨ RFoot r a R k) fun k _ e => .inr (.inl e)) (fun _ _ h => h))
  have HC1 := aside C1
  have HC2 := aside C2
  clear C1 C2 hT nf nr hB hBd h
  go_enter Try.func15, Try.ntmps15
  go_wp2_with fail
  rw [← hW]
  clear hW m0
  go_region_held3 (fun w' => w'.cell? ⟨w.heap.size, 1, none⟩ = some (.int .i64 t) ∧ w'.cell? ⟨w.heap.size, 2, none⟩ = some (.int .i64 n)) (go_keep) (first
    | (go_at_call 20; refine HC1.out.mono ?_; rintro e w1 ⟨q, rfl, ⟨hm1, hm1'⟩, hA⟩)
    | (go_at_call 30; obtain ⟨N1, lv1, L1, x1, x2, x3, x4⟩ := hA.out; refine (HC2.out _ _ N1 lv1 L1 x1 x2 x3 x4 ⟨hm1, hm1'⟩).mono ?_; rintro e w2 ⟨rfl, ⟨hm2, hm2'⟩, hF⟩))
  go_wp2_with fail
  go_ret
  exact ⟨by simp, hF.out⟩

set_option maxRecDepth 20000 in
set_option maxHeartbeats 2000000 in
theorem moved_next (s N : Nat) (lv : Value) (L : List Piece) (r : Nat) (a : Option Addr) (c : Nat) (R : List RP) (t n : Int) (ba : Option Addr) (bn bc : Nat) (w : World) (h : Twain w s N lv L r a c R) (ht : t ≤ 9223372036854775807) :
    Calls Try.prog 15 #[.pointer (some ⟨s, 0, none⟩), .pointer (some ⟨r, 0, none⟩), .agg #[.int .i64 4, .int .i64 t, .int .i64 n, .slice ba bn bc]] w fun e w' => e = .returned (.bool true) ∧ MovedPost w s N lv L r a c R w' := by
  obtain ⟨W, hW⟩ : ∃ W, W = w.alloc (.cells #[.int .i64 4, .int .i64 t, .int .i64 n, .slice ba bn bc] 34) := ⟨_, rfl⟩
  have hB : Below w.heap.size w W := by rw [hW]; exact below_al w _
  have m0 : W.cell? ⟨w.heap.size, 0, none⟩ = some (.int .i64 4) := by rw [hW]; go_simp
  have m1 : W.cell? ⟨w.heap.size, 1, none⟩ = some (.int .i64 t) := by rw [hW]; go_simp
  have N1 := next_any s N lv L t W (h.rep.below hB) ht
  have N2 : ∀ V, Below W.heap.size W V → Calls Try.prog 33 #[.pointer (some ⟨r, 0, none⟩), .int .i64 t] V fun e w' => e = .returned (.tuple #[.int .i64 ((nextOf L N t.toNat).1 : Nat), .int .i64 ((nextOf L N t.toNat).2 : Nat)]) ∧ Below V.heap.size V w' := fun V hV => by
    have := nextRef_any r N a c R t V ((h.ref.obj.below hB).below hV).ref ht
    rwa [← ct_next N t.toNat h.same] at this
  generalize (nextOf L N t.toNat).1 = f at *
  generalize (nextOf L N t.toNat).2 = u at *
  have HN1 := aside N1
  have HN2 := aside N2
  have H := aside h
  have HB := aside hB
  clear N1 N2 h hB
  go_enter Try.func15, Try.ntmps15
  go_wp2_with fail
  rw [← hW]
  clear hW m0
  refine HN1.out.mono ?_
  rintro e w1 ⟨rfl, hb1⟩
  have m1' : w1.cell? ⟨w.heap.size, 1, none⟩ = some (.int .i64 t) := (hb1.cell (World.block_lt_of_cell? W _ m1)).trans m1
  have HB1 := aside hb1
  clear hb1 m1
  go_wp2_with fail
  refine (HN2.out w1 HB1.out).mono ?_
  rintro e w2 ⟨rfl, hb2⟩
  have HB2 := aside (below_tr (below_tr HB.out HB1.out) hb2)
  clear hb2
  go_wp2_with fail
  go_ret
  exact ⟨by simp, moved_quiet H.out HB2.out⟩

set_option maxRecDepth 20000 in
set_option maxHeartbeats 2000000 in
theorem moved_none (s N : Nat) (lv : Value) (L : List Piece) (r : Nat) (a : Option Addr) (c : Nat) (R : List RP) (d t n : Int) (ba : Option Addr) (bn bc : Nat) (w : World) (h : Twain w s N lv L r a c R) (h0 : d ≠ 0) (h1 : d ≠ 1) (h2 : d ≠ 2) (h3 : d ≠ 3) (h4 : d ≠ 4) :
    Calls Try.prog 15 #[.pointer (some ⟨s, 0, none⟩), .pointer (some ⟨r, 0, none⟩), .agg #[.int .i64 d, .int .i64 t, .int .i64 n, .slice ba bn bc]] w fun e w' => e = .returned (.bool true) ∧ MovedPost w s N lv L r a c R w' := by
  have H := aside h
  clear h
  go_enter Try.func15, Try.ntmps15
  go_wp2_with fail
  go_ret
  exact ⟨rfl, moved_quiet H.out (below_al w _)⟩
end Go.Proofs.Ytkekaljcbmkomaa

namespace Go.Proofs.Ytkekaljcbmkomaa
open Go.RowKit
set_option linter.unusedVariables false
set_option linter.unusedSimpArgs false
attribute [local simp] lcells_nil readB_length bcells_length

theorem getL_len (L : List Piece) (sz : Nat) (x n : Int) : (getL L sz x n).length ≤ 65536 := by
  unfold getL
  split
  · simp
  · rw [readB_length]; omega

/-- A row of so many cells, to be written over. -/
def RowOf (w : World) (B n : Nat) : Prop := ∃ cs : Array Value, w.heap[B]? = some (.cells cs 5 (0, 0)) ∧ cs.size = n
theorem RowOf.cell {w : World} {B n k : Nat} (h : RowOf w B n) (hk : k < n) : ∃ v, w.cell? ⟨B, k, none⟩ = some v ∧ w.frozen? ⟨B, k, none⟩ = false := by
  obtain ⟨cs, h1, h2⟩ := h
  refine ⟨cs[k]'(by omega), ?_, frozen_of_row w B k _ _ h1⟩
  rw [cell_of_row w B k _ _ _ h1]
  exact Array.getElem?_eq_getElem (by omega)
theorem RowOf.set {w : World} {B n : Nat} (h : RowOf w B n) (k : Nat) (v : Value) : RowOf (w.setCell ⟨B, k, none⟩ v) B n := by
  obtain ⟨cs, h1, h2⟩ := h
  exact ⟨cs.setIfInBounds k v, by rw [setCell_eq_setRow w B k _ _ _ v h1, setRow_heap w B _ _ _ _ h1], by simpa using h2⟩
theorem RowOf.below {w w' : World} {B n : Nat} (h : RowOf w B n) (hb : Below w.heap.size w w') : RowOf w' B n := by
  obtain ⟨cs, h1, h2⟩ := h
  exact ⟨cs, (hb.block B (Array.getElem?_eq_some_iff.1 h1).1).trans h1, h2⟩

set_option maxRecDepth 20000 in
set_option maxHeartbeats 2000000 in
theorem moved_get (s N : Nat) (lv : Value) (L : List Piece) (r : Nat) (a : Option Addr) (c : Nat) (R : List RP) (t n : Int) (ba : Option Addr) (bn bc : Nat) (w : World) (h : Twain w s N lv L r a c R) :
    Calls Try.prog 15 #[.pointer (some ⟨s, 0, none⟩), .pointer (some ⟨r, 0, none⟩), .agg #[.int .i64 3, .int .i64 t, .int .i64 n, .slice ba bn bc]] w fun e w' => e = .returned (.bool true) ∧ MovedPost w s N lv L r a c R w' := by
  obtain ⟨W, hW⟩ : ∃ W, W = w.alloc (.cells #[.int .i64 3, .int .i64 t, .int .i64 n, .slice ba bn bc] 34) := ⟨_, rfl⟩
  have hB : Below w.heap.size w W := by rw [hW]; exact below_al w _
  have m0 : W.cell? ⟨w.heap.size, 0, none⟩ = some (.int .i64 3) := by rw [hW]; go_simp
  have m1 : W.cell? ⟨w.heap.size, 1, none⟩ = some (.int .i64 t) := by rw [hW]; go_simp
  have m2 : W.cell? ⟨w.heap.size, 2, none⟩ = some (.int .i64 n) := by rw [hW]; go_simp
  obtain ⟨cn, hcn⟩ : ∃ cn : Int, cn = max (-2147483648) (min n 2147483648) := ⟨_, rfl⟩
  have hcb : cn ≤ 4611686018427387904 := by omega
  have CO : ∀ V, Calls Try.prog 31 #[.int .i64 n] V fun e w' => e = .returned (.int .i64 cn) ∧ w' = V := fun V => by rw [hcn]; exact count_any n V
  have hBd : Below w.heap.size w W.drew := hB.drew
  have hlt : w.heap.size < W.drew.heap.size := World.block_lt_of_cell? W _ m0
  obtain ⟨gl, hgl⟩ : ∃ gl, gl = getL L N t cn := ⟨_, rfl⟩
  have G1 : Calls Try.prog 21 #[.pointer (some ⟨s, 0, none⟩), .int .i64 t, .int .i64 cn] W.drew fun e w' => ∃ a4 c4, e = .returned (.slice a4 gl.length c4) ∧ (w'.cell? ⟨w.heap.size, 1, none⟩ = some (.int .i64 t) ∧ w'.cell? ⟨w.heap.size, 2, none⟩ = some (.int .i64 n)) ∧ Aside (gl.length ≤ c4) ∧ Aside (NewB w' W.drew.heap.size a4 gl) ∧ Aside (Below W.drew.heap.size W.drew w') := by
    rw [hgl]
    refine (get_all s N lv L t cn W.drew (h.rep.below hBd) hcb).mono ?_
    rintro e w' ⟨a4, c4, rfl, h1, h2, h3⟩
    exact ⟨a4, c4, rfl, ⟨(h3.cell (p := ⟨w.heap.size, 1, none⟩) hlt).trans m1, (h3.cell (p := ⟨w.heap.size, 2, none⟩) hlt).trans m2⟩, h1, h2, h3⟩
  have G2 : ∀ V, Below w.heap.size w V → w.heap.size < V.heap.size → V.cell? ⟨w.heap.size, 1, none⟩ = some (.int .i64 t) → V.cell? ⟨w.heap.size, 2, none⟩ = some (.int .i64 n) → Calls Try.prog 32 #[.pointer (some ⟨r, 0, none⟩), .int .i64 t, .int .i64 cn] V fun e w' => ∃ a5 c5, e = .returned (.slice a5 gl.length c5) ∧ (w'.cell? ⟨w.heap.size, 1, none⟩ = some (.int .i64 t) ∧ w'.cell? ⟨w.heap.size, 2, none⟩ = some (.int .i64 n)) ∧ Aside (NewB w' V.heap.size a5 gl) ∧ Aside (Below V.heap.size V w') := fun V hV hlV k1 k2 => by
    have := getRef_all r N a c R t cn V (h.ref.below hV) hcb
    rw [← ct_get h.same N t cn, ← hgl] at this
    refine this.mono ?_
    rintro e w' ⟨a5, c5, rfl, h2, h3⟩
    exact ⟨a5, c5, rfl, ⟨(h3.cell (p := ⟨w.heap.size, 1, none⟩) hlV).trans k1, (h3.cell (p := ⟨w.heap.size, 2, none⟩) hlV).trans k2⟩, h2, h3⟩
  have hglb : gl.length ≤ 65536 := by rw [hgl]; exact getL_len _ _ _ _
  have HCO := aside CO
  have HG1 := aside G1
  have HG2 := aside G2
  have HBd := aside hBd
  have H := aside h
  clear CO G1 G2 h hB hgl hcn hBd
  go_enter Try.func15, Try.ntmps15
  go_wp2_with fail
  rw [← hW]
  clear hW m0
  go_region_held3 (fun w' => w'.cell? ⟨w.heap.size, 1, none⟩ = some (.int .i64 t) ∧ w'.cell? ⟨w.heap.size, 2, none⟩ = some (.int .i64 n)) (go_keep) (first
    | (go_at_call 31; refine (HCO.out _).mono ?_; rintro e w1 ⟨rfl, rfl⟩)
    | (go_at_call 21; refine HG1.out.mono ?_; rintro e w1 ⟨a4, c4, rfl, ⟨k1, k2⟩, h1, h2, h3⟩))
  have hB1 := below_tr HBd.out h3.out
  have hl1 : w.heap.size < w1.heap.size := by have := h3.out.size; omega
  have HB1 := aside hB1
  have HG3 := aside (HG2.out w1.drew hB1.drew hl1 k1 k2)
  have hgB : w.heap.size ≤ W.drew.heap.size := Nat.le_of_lt hlt
  obtain ⟨B, hBe⟩ : ∃ B, B = W.drew.heap.size := ⟨_, rfl⟩
  rw [← hBe] at h2 hgB hlt
  clear hB1 m1 m2 h3 HG1 HG2 HBd hBe
  go_wp2_with fail
  go_region_held3 (fun w' => w'.cell? ⟨w.heap.size, 1, none⟩ = some (.int .i64 t) ∧ w'.cell? ⟨w.heap.size, 2, none⟩ = some (.int .i64 n)) (go_keep) (first
    | (go_at_call 31; refine (HCO.out _).mono ?_; rintro e w2 ⟨rfl, rfl⟩)
    | (go_at_call 32; refine HG3.out.mono ?_; rintro e w2 ⟨a5, c5, rfl, ⟨k1', k2'⟩, h5, h6⟩; have SM := same_any a4 a5 gl gl c4 c5 w2 (((newB_bs h2.out).below (below_dr _)).below h6.out) (newB_bs h5.out); rw [show (gl == gl) = true by simp] at SM; have HSM := aside SM; clear SM)
    | (go_at_call 28; refine HSM.out.mono ?_; rintro e w3 ⟨rfl, rfl⟩))
  have HB2 := aside (below_tr (HB1.out.drew) h6.out)
  have HN := aside (show gl ≠ [] → a4 = some ⟨B, 0, none⟩ ∧ RowOf w3 B gl.length from fun hne => by
    rcases h2.out with h | ⟨h, hh⟩
    · exact absurd h hne
    · exact ⟨h, RowOf.below (w := w1.drew) ⟨_, hh, by simp⟩ h6.out⟩)
  clear h5 h6 h2 k1 k2 k1' k2' HG3 HSM HCO
  go_wp2_with fail
  go_loopw [14] (fun s14 wr => ∃ k : Nat, k ≤ gl.length ∧ s14 = .int .i64 k ∧ Aside (Below w.heap.size w wr) ∧ Aside (gl ≠ [] → a4 = some ⟨B, 0, none⟩ ∧ RowOf wr B gl.length)) (fun s14 _ => gl.length - (intOf s14).toNat)
  case atStart => exact ⟨0, Nat.zero_le _, rfl, HB2, HN⟩
  case round =>
    obtain ⟨k, hk, rfl, hBr, hRr⟩ := hrel
    by_cases h9 : k < gl.length
    · have t1 : (k : Int) < (gl.length : Int) := by omega
      obtain ⟨rfl, hrow⟩ := hRr.out (by intro e; simp [e] at h9)
      obtain ⟨v0, z0, z1⟩ := hrow.cell h9
      have HX := aside (hrow.set k (.int .u8 123))
      clear hrow
      go_wp2_with fail
      go_roundw
      case rel => exact ⟨k + 1, by omega, by go_num, hBr.out.trans ((Upd.setCell (F := fun k => k = B) (p := ⟨B, k, none⟩) (w := wr) rfl _).below hBr.out.size (fun q hq => by omega)), fun _ => by first | exact ⟨rfl, HX.out⟩ | exact ⟨trivial, HX.out⟩⟩
      case measure => simp [intOf]; omega
    · have t1 : ¬ ((k : Int) < (gl.length : Int)) := by omega
      go_wp2_with fail
      go_ret
      exact ⟨rfl, moved_quiet H.out hBr.out⟩
end Go.Proofs.Ytkekaljcbmkomaa

namespace Go.Proofs.Ytkekaljcbmkomaa
open Go.RowKit
set_option linter.unusedVariables false
set_option linter.unusedSimpArgs false
attribute [local simp] lcells_nil readB_length bcells_length

theorem own_built {w : World} {g : Nat} (h : w.heap[g]? = some (.cells #[] 5 (0, 0))) : w.ownsRow 0 5 1 (.slice (some ⟨g, 0, none⟩) 0 0) 0 [] :=
  ⟨by simp, .inr ⟨g, 0, #[], rfl, Nat.zero_le _, h, Nat.le_refl _, by unfold maxLen; omega, by simp, by simp⟩⟩

/-- append of bytes onto a row that was just built of nothing. -/
theorem step_app1 {ops : Array Oper} {o : Oper} {a : Act} {w : World} {K : Act → World → Prop} {Q : Exit → Act → World → Prop} {E : Prop} (hgd : o.guard = none) (s x : Operand)
    (ho : o.op = .call { callee := .builtin .append, args := #[s, x], argTypes := #[22, 22] }) (g : Nat) (hs : a.eval s = .slice (some ⟨g, 0, none⟩) 0 0) (hg : w.heap[g]? = some (.cells #[] 5 (0, 0)))
    (l : List UInt8) (ba : Option Addr) (bc : Nat) (hx : a.eval x = .slice ba l.length bc) (hbs : BsAt w ba l) (hl : l.length ≤ 33554431)
    (h : ∀ g1 c1 w', w'.ownsRow 0 5 1 (.slice (some ⟨g1, 0, none⟩) l.length c1) l.length (bcells l) → Upd (fun k => k = g) w w' → (g1 = g ∨ g1 = w.heap.size) → K (a.put o.dst (.slice (some ⟨g1, 0, none⟩) l.length c1)) w') :
    if Region.wanted o (yielded ops a.tmps) = true then Oper.wp Try.prog o a w K Q else E := by
  by_cases hn : l = []
  · subst hn
    rw [if_pos (by simp [Region.wanted, hgd])]
    obtain ⟨i, hi, -⟩ := info_parts info5
    unfold Oper.wp execOp
    simp only [ho, resolve, invoke, builtin, Sem.run_bind, Sem.run_pure, Result.andThen_ok, List.map_toArray, List.map_cons, List.map_nil, hs, hx, List.length_nil, run_append_zero w 22 o.type 5 i Try.underlying22 hi (some ⟨g, 0, none⟩) 0 0 (Nat.le_refl _) ba bc]
    exact h g 0 w (own_built hg) (Upd.refl _ _) (.inl rfl)
  · obtain ⟨ad, rfl, hc⟩ := hbs hn
    have hpos : 0 < l.length := List.length_pos_iff.2 hn
    refine step_append_any hgd s x 22 ho 5 (.int .u8 0) 1 1 Try.underlying22 info5 rfl (by decide) _ 0 [] hs (own_built hg) ad l.length bc (bcells l) hx (by simp) hc (bcells_one _) (by unfold maxLen; omega) (by omega) hpos ?_
    intro v' w' h1 h2 h3
    rw [Nat.zero_add, List.nil_append] at h1
    rcases h1.2 with ⟨-, hz⟩ | ⟨g1, c1, cur, rfl, -⟩
    · omega
    · refine h g1 c1 w' h1 (h2.mono fun k _ e => by simpa [Value.ownBlock] using e.symm) ?_
      rcases h3 with h3 | h3
      · left; simpa [Value.ownBlock] using h3
      · right; simpa [Value.ownBlock] using h3

/-- append of one byte behind it. -/
theorem step_app2 {ops : Array Oper} {o : Oper} {a : Act} {w : World} {K : Act → World → Prop} {Q : Exit → Act → World → Prop} {E : Prop} (hgd : o.guard = none) (s x : Operand)
    (ho : o.op = .call { callee := .builtin .append, args := #[s, x], argTypes := #[22, 22] }) (g1 c1 : Nat) (l : List UInt8) (hs : a.eval s = .slice (some ⟨g1, 0, none⟩) l.length c1) (hown : w.ownsRow 0 5 1 (.slice (some ⟨g1, 0, none⟩) l.length c1) l.length (bcells l))
    (gb : Nat) (hx : a.eval x = .slice (some ⟨gb, 0, none⟩) 1 1) (hgb : w.heap[gb]? = some (.cells #[.int .u8 165] 5 (0, 0))) (hl : l.length ≤ 33554430)
    (h : ∀ g2 c2 w', w'.ownsRow 0 5 1 (.slice (some ⟨g2, 0, none⟩) (l.length + 1) c2) (l.length + 1) (bcells (l ++ [165])) → Upd (fun k => k = g1) w w' → (g2 = g1 ∨ g2 = w.heap.size) → l.length + 1 ≤ c2 → K (a.put o.dst (.slice (some ⟨g2, 0, none⟩) (l.length + 1) c2)) w') :
    if Region.wanted o (yielded ops a.tmps) = true then Oper.wp Try.prog o a w K Q else E := by
  refine step_append_any hgd s x 22 ho 5 (.int .u8 0) 1 1 Try.underlying22 info5 rfl (by decide) _ l.length (bcells l) hs hown ⟨gb, 0, none⟩ 1 1 (bcells [165]) hx (by simp) (cells_lit (cs := bcells [165]) hgb) (bcells_one _) (by unfold maxLen; omega) (by omega) (by decide) ?_
  intro v' w' h1 h2 h3
  rw [show bcells l ++ bcells [165] = bcells (l ++ [165]) by simp [bcells]] at h1
  rcases h1.2 with ⟨-, hz⟩ | ⟨g2, c2, cur, rfl, -, -, hnc, -⟩
  · omega
  · refine h g2 c2 w' h1 (h2.mono fun k _ e => by simpa [Value.ownBlock] using e.symm) ?_ hnc
    rcases h3 with h3 | h3
    · left; simpa [Value.ownBlock] using h3
    · right; simpa [Value.ownBlock] using h3

/-- The bytes of the caller, one sign behind them, in memory of their own. -/
structure Mine (W w' : World) (l : List UInt8) (g cap : Nat) : Prop where
  row : w'.ownsRow 0 5 1 (.slice (some ⟨g, 0, none⟩) (l.length + 1) cap) (l.length + 1) (bcells (l ++ [165]))
  ge : W.heap.size ≤ g
  cap : l.length + 1 ≤ cap
  below : Below W.heap.size W w'

theorem al2_first (w : World) (A B : Obj) : ((w.alloc A).alloc B).heap[w.heap.size]? = some A := by
  rw [(below_al (w.alloc A) B).block w.heap.size (by simp)]; exact heap_alloc_new w A
theorem mine_of {W V w1 w2 : World} {l : List UInt8} {g g1 g2 c2 : Nat} (hV : Below W.heap.size W V) (hg : W.heap.size ≤ g) (hu : Upd (fun k => k = g) V w1) (e1 : g1 = g ∨ g1 = V.heap.size) {w1' : World} (hb : Below w1.heap.size w1 w1') (hu2 : Upd (fun k => k = g1) w1' w2) (e2 : g2 = g1 ∨ g2 = w1'.heap.size) (hrow : w2.ownsRow 0 5 1 (.slice (some ⟨g2, 0, none⟩) (l.length + 1) c2) (l.length + 1) (bcells (l ++ [165]))) (hc : l.length + 1 ≤ c2) : Mine W w2 l g2 c2 := by
  have s1 := hV.size
  have s2 := hu.size
  have s3 := hb.size
  have hg1 : W.heap.size ≤ g1 := by omega
  exact ⟨hrow, by omega, hc, ((hV.trans (hu.below hV.size (fun k hk => by omega))).trans (hb.mono (by omega))).trans (hu2.below (by omega) (fun k hk => by omega))⟩

theorem mine_bs {V : World} {l : List UInt8} {g cap : Nat} (h : V.ownsRow 0 5 1 (.slice (some ⟨g, 0, none⟩) (l.length + 1) cap) (l.length + 1) (bcells (l ++ [165]))) : BsAt V (some ⟨g, 0, none⟩) l := fun _ => ⟨_, rfl, fun j v hj => by
  have hj2 : (bcells (l ++ [165]))[j]? = some v := by
    rw [show bcells (l ++ [165]) = bcells l ++ bcells [165] by simp [bcells], List.getElem?_append_left (List.getElem?_eq_some_iff.1 hj).1]; exact hj
  exact h.cells rfl j v hj2⟩
theorem mine_sign {V : World} {l : List UInt8} {g cap : Nat} (h : V.ownsRow 0 5 1 (.slice (some ⟨g, 0, none⟩) (l.length + 1) cap) (l.length + 1) (bcells (l ++ [165]))) : V.cell? ⟨g, l.length, none⟩ = some (.int .u8 165) := by
  have := h.cells rfl l.length (.int .u8 165) (by rw [show bcells (l ++ [165]) = bcells l ++ bcells [165] by simp [bcells], List.getElem?_append_right (by simp)]; simp [bcells])
  rwa [Addr.add_lit, Nat.zero_add] at this
theorem Mine.lt {W V : World} {l : List UInt8} {g cap : Nat} (h : Mine W V l g cap) : g < V.heap.size := own_lt h.row rfl
theorem row_of {V : World} {g n cap : Nat} {xs : List Value} (h : V.ownsRow 0 5 1 (.slice (some ⟨g, 0, none⟩) n cap) n xs) : RowOf V g cap := by
  rcases h.2 with ⟨h1, -⟩ | ⟨g', cap', cur, h1, -, hh, -, -, hcs, -⟩
  · cases h1
  · injection h1 with h1 h2 h3
    injection h1 with h1
    injection h1 with h1
    subst h1 h3
    exact ⟨cur, hh, by simpa using hcs⟩

/-- Both calls are done; what is written over behind them is neither one's. -/
theorem moved_after {w w3 w4 : World} {s N N1 r : Nat} {lv lv1 : Value} {L L1 : List Piece} {a a1 : Option Addr} {c c1 : Nat} {R R1 : List RP} {g : Nat} (hB : Both w3 s N1 lv1 L1 r N1 a1 c1 R1) (hct : ct L1 = ct (pls R1)) (hg : ∀ k, Foot s lv1 L1 k ∨ RFoot r a1 R1 k → ((Foot s lv L k ∨ RFoot r a R k) ∨ w.heap.size ≤ k) ∧ k ≠ g)
    (hu : Upd (fun k => Foot s lv L k ∨ RFoot r a R k) w w3) (hgw : w.heap.size ≤ g) (hu4 : Upd (fun k => k = g) w3 w4) : MovedPost w s N lv L r a c R w4 :=
  ⟨N1, lv1, L1, a1, c1, R1, ⟨hB.rep.kept hu4 (fun k hk e => (hg k (.inl hk)).2 e), hB.ref.upd hu4 (fun k hk e => (hg k (.inr hk)).2 e), hct, hB.apart⟩, fun k hk => (hg k hk).1, hu.trans hu4 (fun j hj e => by omega)⟩

set_option maxRecDepth 20000 in
set_option maxHeartbeats 4000000 in
theorem moved_put (s N : Nat) (lv : Value) (L : List Piece) (r : Nat) (a : Option Addr) (c : Nat) (R : List RP) (t n : Int) (ba : Option Addr) (l : List UInt8) (bc : Nat) (w : World) (h : Twain w s N lv L r a c R) (ht : t ≤ 9223372036854775807) (hbs : BsAt w ba l) (hba : l ≠ [] → ∀ ad, ba = some ad → ¬ (Foot s lv L ad.block ∨ RFoot r a R ad.block)) (hl : l.length ≤ 1048576) :
    Calls Try.prog 15 #[.pointer (some ⟨s, 0, none⟩), .pointer (some ⟨r, 0, none⟩), .agg #[.int .i64 0, .int .i64 t, .int .i64 n, .slice ba l.length bc]] w fun e w' => e = .returned (.bool true) ∧ MovedPost w s N lv L r a c R w' := by
  obtain ⟨W, hW⟩ : ∃ W, W = w.alloc (.cells #[.int .i64 0, .int .i64 t, .int .i64 n, .slice ba l.length bc] 34) := ⟨_, rfl⟩
  have hB : Below w.heap.size w W := by rw [hW]; exact below_al w _
  have m0 : W.cell? ⟨w.heap.size, 0, none⟩ = some (.int .i64 0) := by rw [hW]; go_simp
  have m1 : W.cell? ⟨w.heap.size, 1, none⟩ = some (.int .i64 t) := by rw [hW]; go_simp
  have m3 : W.cell? ⟨w.heap.size, 3, none⟩ = some (.slice ba l.length bc) := by rw [hW]; go_simp
  have hlt : w.heap.size < W.heap.size := World.block_lt_of_cell? W _ m0
  have HBS := aside (hbs.below hB)
  have HBSw := aside hbs
  have HBA := aside hba
  have H := aside h
  have HB := aside hB
  have hlw : IntKind.i64.wrap (l.length : Int) = (l.length : Int) := by rw [IntKind.wrap_i64]; omega
  clear h hbs hB hba
  go_enter Try.func15, Try.ntmps15
  go_wp2_with fail
  rw [← hW]
  clear hW m0
  go_cut [7] from 23 to 32 (fun s7 wc => ∃ g cap, s7 = .slice (some ⟨g, 0, none⟩) l.length cap ∧ Aside (Mine W wc l g cap))
  case first =>
    have hl1 : l.length ≤ 33554431 := by omega
    have hl2 : l.length ≤ 33554430 := by omega
    have HA := aside (below_tr (below_dr W) (below_al W.drew (.cells #[] 5)))
    have HAB := aside (below_tr (below_tr (below_dr W) (below_al W.drew (.cells #[] 5))) (below_al _ (.cells #[.int .u8 165] 5)))
    have HBA := aside (below_tr (below_tr (below_dr W) (below_al W.drew (.cells #[.int .u8 165] 5))) (below_al _ (.cells #[] 5)))
    go_region_held3 (fun w' => w'.cell? ⟨w.heap.size, 3, none⟩ = some (.slice ba l.length bc)) (go_keep) (first
      | (refine step_app1 (w := W.drew.alloc (.cells #[] 5)) rfl _ _ rfl W.heap.size rfl (heap_alloc_new W.drew _) l ba bc rfl (HBS.out.below HA.out) hl1 ?_; intro g1 c1 w1 h1 h2 h3; have k3 : w1.cell? ⟨w.heap.size, 3, none⟩ = some (.slice ba l.length bc) := kept_cell h2 ((HA.out.cell (p := ⟨w.heap.size, 3, none⟩) hlt).trans m3) (fun e => by simp at e; omega); have WH := aside (And.intro HA.out (Nat.le_refl W.heap.size)); have P1 := aside (And.intro h1 (And.intro h2 h3)); clear h1 h2 h3)
      | (refine step_app1 (w := (W.drew.alloc (.cells #[] 5)).alloc (.cells #[.int .u8 165] 5)) rfl _ _ rfl W.heap.size rfl (al2_first W.drew _ _) l ba bc rfl (HBS.out.below HAB.out) hl1 ?_; intro g1 c1 w1 h1 h2 h3; have k3 : w1.cell? ⟨w.heap.size, 3, none⟩ = some (.slice ba l.length bc) := kept_cell h2 ((HAB.out.cell (p := ⟨w.heap.size, 3, none⟩) hlt).trans m3) (fun e => by simp at e; omega); have WH := aside (And.intro HAB.out (Nat.le_refl W.heap.size)); have GB := aside ((h2.block (W.heap.size + 1) (by simp) (by omega)).trans (heap_alloc2_new W.drew (.cells #[] 5) (.cells #[.int .u8 165] 5))); have P1 := aside (And.intro h1 (And.intro h2 h3)); clear h1 h2 h3)
      | (refine step_app1 (w := (W.drew.alloc (.cells #[.int .u8 165] 5)).alloc (.cells #[] 5)) rfl _ _ rfl (W.heap.size + 1) rfl (heap_alloc2_new W.drew _ _) l ba bc rfl (HBS.out.below HBA.out) hl1 ?_; intro g1 c1 w1 h1 h2 h3; have k3 : w1.cell? ⟨w.heap.size, 3, none⟩ = some (.slice ba l.length bc) := kept_cell h2 ((HBA.out.cell (p := ⟨w.heap.size, 3, none⟩) hlt).trans m3) (fun e => by simp at e; omega); have WH := aside (And.intro HBA.out (Nat.le_succ W.heap.size)); have GB := aside ((h2.block W.heap.size (by simp; omega) (by omega)).trans (al2_first W.drew (.cells #[.int .u8 165] 5) (.cells #[] 5))); have P1 := aside (And.intro h1 (And.intro h2 h3)); clear h1 h2 h3)
      | (refine step_app2 (w := w1.alloc (.cells #[.int .u8 165] 5)) rfl _ _ rfl g1 c1 l rfl (row_below P1.out.1 (below_al w1 _)) w1.heap.size rfl (heap_alloc_new w1 _) hl2 ?_; intro g2 c2 w2 q1 q2 q3 q4; have i1 : (l.length : Int) ≤ (c2 : Int) := (by omega); have i2 : l.length ≤ c2 := (by omega); have i3 : (0 : Int) ≤ (l.length : Int) := (by omega); have MI := aside (mine_of WH.out.1 WH.out.2 P1.out.2.1 P1.out.2.2 (below_al w1 _) q2 q3 q1 q4); have k3' : w2.cell? ⟨w.heap.size, 3, none⟩ = some (.slice ba l.length bc) := (MI.out.below.cell (p := ⟨w.heap.size, 3, none⟩) hlt).trans m3; clear q1 q2 q3)
      | (refine step_app2 (w := w1) rfl _ _ rfl g1 c1 l rfl P1.out.1 (W.heap.size + 1) rfl GB.out hl2 ?_; intro g2 c2 w2 q1 q2 q3 q4; have i1 : (l.length : Int) ≤ (c2 : Int) := (by omega); have i2 : l.length ≤ c2 := (by omega); have i3 : (0 : Int) ≤ (l.length : Int) := (by omega); have MI := aside (mine_of WH.out.1 WH.out.2 P1.out.2.1 P1.out.2.2 (Below.refl _ _) q2 q3 q1 q4); have k3' : w2.cell? ⟨w.heap.size, 3, none⟩ = some (.slice ba l.length bc) := (MI.out.below.cell (p := ⟨w.heap.size, 3, none⟩) hlt).trans m3; clear q1 q2 q3)
      | (refine step_app2 (w := w1) rfl _ _ rfl g1 c1 l rfl P1.out.1 W.heap.size rfl GB.out hl2 ?_; intro g2 c2 w2 q1 q2 q3 q4; have i1 : (l.length : Int) ≤ (c2 : Int) := (by omega); have i2 : l.length ≤ c2 := (by omega); have i3 : (0 : Int) ≤ (l.length : Int) := (by omega); have MI := aside (mine_of WH.out.1 WH.out.2 P1.out.2.1 P1.out.2.2 (Below.refl _ _) q2 q3 q1 q4); have k3' : w2.cell? ⟨w.heap.size, 3, none⟩ = some (.slice ba l.length bc) := (MI.out.below.cell (p := ⟨w.heap.size, 3, none⟩) hlt).trans m3; clear q1 q2 q3))
    all_goals
      go_wp2_with fail
      go_meet
      exact ⟨g2, c2, rfl, MI⟩
  case rest =>
    obtain ⟨g, cap, rfl, hM⟩ := hcut
    have hBw : Below w.heap.size w wc := HB.out.trans (hM.out.below.mono HB.out.size)
    have HBW := aside hBw
    have k1 : wc.cell? ⟨w.heap.size, 1, none⟩ = some (.int .i64 t) := (hM.out.below.cell (p := ⟨w.heap.size, 1, none⟩) hlt).trans m1
    have k3 : wc.cell? ⟨w.heap.size, 3, none⟩ = some (.slice ba l.length bc) := (hM.out.below.cell (p := ⟨w.heap.size, 3, none⟩) hlt).trans m3
    have hltc : w.heap.size < wc.heap.size := World.block_lt_of_cell? wc _ k1
    have HBC := aside (HBS.out.below hM.out.below)
    have hl1 : l.length ≤ 33554431 := by omega
    clear m1 m3 hBw
    have nf : ∀ k, Foot s lv L k → k < w.heap.size := fun k hk => H.out.rep.str.lv_lt hk
    have nr : ∀ k, RFoot r a R k → k < w.heap.size := fun k hk => H.out.ref.obj.lt hk
    have hrw : r < w.heap.size := nr r (.inl rfl)
    have hgW := hM.out.ge
    have hgl := hM.out.lt
    have hcap := hM.out.cap
    have NF := aside nf
    have NR := aside nr
    clear nf nr
    have HD := aside (below_tr (below_dr wc) (below_al wc.drew (.cells #[] 5)))
    have PR : Aside (∀ V g1 c1, Below wc.heap.size wc V → V.ownsRow 0 5 1 (.slice (some ⟨g1, 0, none⟩) l.length c1) l.length (bcells l) → Calls Try.prog 27 #[.pointer (some ⟨r, 0, none⟩), .int .i64 t, .slice (some ⟨g1, 0, none⟩) l.length c1] V fun e w' => ∃ q, e = .returned (.int .i64 q) ∧ (w'.cell? ⟨w.heap.size, 1, none⟩ = some (.int .i64 t) ∧ w'.cell? ⟨w.heap.size, 3, none⟩ = some (.slice ba l.length bc)) ∧ Aside (∃ N1 a1 c1 R1, PutR N (pls R) t l q N1 (pls R1) ∧ Both w' s N lv L r N1 a1 c1 R1 ∧ RGrew r a R V a1 R1 ∧ Upd (fun k => k = r) V w' ∧ Below wc.heap.size wc V)) := fun V g1 c1 hV hrow => by
      have hVw : Below w.heap.size w V := HBW.out.trans (hV.mono HBW.out.size)
      have hT := H.out.below hVw
      refine (putRef_all r N a c R t (some ⟨g1, 0, none⟩) l c1 V hT.ref (bs_own hrow) ht (by omega)).mono ?_
      rintro e w' ⟨q, N1, a1, c1', R1, rfl, hP, hR1, hG1, hu1⟩
      exact ⟨q, rfl, ⟨kept_cell hu1 ((hV.cell (p := ⟨w.heap.size, 1, none⟩) hltc).trans k1) (fun e => by simp at e; omega), kept_cell hu1 ((hV.cell (p := ⟨w.heap.size, 3, none⟩) hltc).trans k3) (fun e => by simp at e; omega)⟩, N1, a1, c1', R1, hP, hT.both.right hR1 hG1 hu1, hG1, hu1, hV⟩
    go_wp2_with fail
    go_region_held3 (fun w' => w'.cell? ⟨w.heap.size, 1, none⟩ = some (.int .i64 t) ∧ w'.cell? ⟨w.heap.size, 3, none⟩ = some (.slice ba l.length bc)) (go_keep) (first
      | (refine step_app1 (w := wc.drew.alloc (.cells #[] 5)) rfl _ _ rfl wc.heap.size rfl (heap_alloc_new wc.drew _) l ba bc rfl (HBC.out.below HD.out) hl1 ?_; intro g1 c1 w1 h1 h2 h3; have hb1 : Below wc.heap.size wc w1 := HD.out.trans (h2.below HD.out.size (fun k hk => (by omega))); have k1' : w1.cell? ⟨w.heap.size, 1, none⟩ = some (.int .i64 t) := (hb1.cell (p := ⟨w.heap.size, 1, none⟩) hltc).trans k1; have k3' : w1.cell? ⟨w.heap.size, 3, none⟩ = some (.slice ba l.length bc) := (hb1.cell (p := ⟨w.heap.size, 3, none⟩) hltc).trans k3; have P1 := aside (PR.out w1 g1 c1 hb1 h1); clear h1 h2 h3 hb1)
      | (go_at_call 27; refine P1.out.mono ?_; rintro e w2 ⟨q, rfl, ⟨k1'', k3''⟩, hX⟩))
    obtain ⟨N1, a1, c1', R1, hP, hBo, hG1, hu1, hV⟩ := hX.out
    have hrow2 := hu1.row (row_below hM.out.row hV) (fun k hk e => by simp only [Value.ownBlock, Option.some.injEq] at hk; omega)
    have HR2 := aside hrow2
    have hVs := hV.size
    have hus := hu1.size
    have HBo := aside hBo
    have HP := aside hP
    have HG1 : Aside (∀ k, RFoot r a1 R1 k → RFoot r a R k ∨ wc.heap.size ≤ k) := fun k hk => (hG1 k hk).imp id (fun h => Nat.le_trans hVs h)
    have HU1 : Aside (Upd (fun k => k = r) w w2) := (Upd.of_below (HBW.out.trans (hV.mono HBW.out.size))).trans hu1 (fun _ _ h => h)
    have PS : Aside (Calls Try.prog 19 #[.pointer (some ⟨s, 0, none⟩), .int .i64 t, .slice (some ⟨g, 0, none⟩) l.length cap] w2 fun e w' => e = .returned (.int .i64 q) ∧ Aside (w'.cell? ⟨w.heap.size, 3, none⟩ = some (.slice ba l.length bc) ∧ w'.ownsRow 0 5 1 (.slice (some ⟨g, 0, none⟩) (l.length + 1) cap) (l.length + 1) (bcells (l ++ [165])) ∧ BsAt w' ba l ∧ ∀ w4, Upd (fun k => k = g) w' w4 → MovedPost w s N lv L r a c R w4)) := by
      refine (put_all s N lv L t (some ⟨g, 0, none⟩) l cap w2 hBo.rep (mine_bs hrow2) ht (by omega)).mono ?_
      rintro e w' ⟨q2, N2, lv2, L2, rfl, hP2, hR2, hG2, hu2⟩
      obtain ⟨rfl, rfl, hct⟩ := put_ct H.out.same hP2 HP.out
      have hnf : ∀ k, Foot s lv L k → k < w.heap.size := NF.out
      have hwg : w.heap.size ≤ g := by omega
      have hUU : Upd (fun k => Foot s lv L k ∨ RFoot r a R k) w w' := (HU1.out.mono fun k _ e => .inr (.inl e)).trans (hu2.mono (G := fun k => Foot s lv L k ∨ RFoot r a R k) fun k _ h => .inl h) (fun _ _ h => h)
      refine ⟨rfl, kept_cell hu2 k3'' (fun e => by have := hnf _ e; simp at this), hu2.row hrow2 (fun k hk e => by simp only [Value.ownBlock, Option.some.injEq] at hk; have := hnf _ e; omega), ?_, fun w4 hu4 => moved_after (g := g) (hBo.left hR2 hG2 hu2) hct (fun k hk => ?_) ?_ hwg hu4⟩
      · have hb0 : BsAt w ba l := HBSw.out
        intro hne
        obtain ⟨ad, rfl, hc⟩ := hb0 hne
        exact (hb0.upd hUU (HBA.out hne ad rfl)) hne
      · rcases hk with hk | hk
        · rcases hG2 k hk with h | h
          · have := hnf k h; exact ⟨.inl (.inl h), by omega⟩
          · exact ⟨.inr (by omega), by omega⟩
        · rcases HG1.out k hk with h | h
          · have := NR.out k h; exact ⟨.inl (.inr h), by omega⟩
          · exact ⟨.inr (by omega), by omega⟩
      · exact hUU
    clear hP hBo hG1 hu1 hV hrow2 hX P1 PR HBo HP HG1 HU1 HR2 HD HBC k1 k3 k1' k3'
    go_wp2_with fail
    refine PS.out.mono ?_
    rintro e w3 ⟨rfl, hY⟩
    obtain ⟨y3, yrow, ybs, yP⟩ := hY.out
    have SMx : ∀ V, Below w3.heap.size w3 V → Calls Try.prog 28 #[.slice (some ⟨g, 0, none⟩) l.length cap, .slice ba l.length bc] V fun e w' => e = .returned (.bool true) ∧ Below V.heap.size V w' := fun V hV => by
      have := same_any (some ⟨g, 0, none⟩) ba l l cap bc V ((mine_bs yrow).below hV) (ybs.below hV)
      rw [show (l == l) = true by simp] at this
      exact this.mono fun _ _ hh => ⟨hh.1, hh.2 ▸ Below.refl _ _⟩
    have SM := aside SMx
    have q3 : ∀ d os, (ext w3 d os).cell? ⟨w.heap.size, 3, none⟩ = some (.slice ba l.length bc) := fun d os => ext_cell y3 d os
    have q4 : ∀ d os, (ext w3 d os).cell? ⟨g, l.length, none⟩ = some (.int .u8 165) := fun d os => ext_cell (mine_sign yrow) d os
    have YR := aside (row_of yrow)
    have YP := aside yP
    have j1 : IntKind.i64.wrap ((l.length : Int) + 1) = (l.length : Int) + 1 := by rw [IntKind.wrap_i64]; omega
    have j2 : (l.length : Int) + 1 ≤ (cap : Int) := by omega
    have j3 : (0 : Int) ≤ (l.length : Int) + 1 := by omega
    have j4 : (l.length : Int) < (l.length : Int) + 1 := by omega
    have j5 : ((l.length : Int) + 1).toNat = l.length + 1 := by omega
    clear y3 yrow ybs yP hY SMx k1'' k3'' PS
    go_wp2_with fail
    refine region_ext (by kernel_rfl) (by kernel_rfl) ?_
    repeat (any_goals (first
      | go_big_quiet_step ((go_at_call 28; exact calls_ext (SM.out _ (below_ext _ _ _))))
      | quiet_step ((fail))))
    refine wpQuiet_nil ?_
    intro w4 hb4
    have HB4 := aside hb4
    clear hb4 q3 q4
    go_wp2_with fail
    go_loopw [11] (fun s11 wr => ∃ k : Nat, k ≤ l.length ∧ s11 = .int .i64 k ∧ Aside (Upd (fun k => k = g) w3 wr) ∧ Aside (RowOf wr g cap)) (fun s11 _ => l.length - (intOf s11).toNat)
    case atStart => exact ⟨0, Nat.zero_le _, rfl, Upd.of_below HB4.out, YR.out.below HB4.out⟩
    case round =>
      obtain ⟨k, hk, rfl, hUr, hRr⟩ := hrel
      by_cases h9 : k < l.length
      · have t1 : (k : Int) < (l.length : Int) := by omega
        obtain ⟨v0, z0, z1⟩ := hRr.out.cell (k := k) (by omega)
        have HX := aside (hRr.out.set k (.int .u8 122))
        go_wp2_with fail
        go_roundw
        case rel => exact ⟨k + 1, by omega, by go_num, hUr.out.trans (Upd.setCell (F := fun k => k = g) (p := ⟨g, k, none⟩) (w := wr) rfl _) (fun _ _ h => h), HX⟩
        case measure => simp [intOf]; omega
      · have t1 : ¬ ((k : Int) < (l.length : Int)) := by omega
        go_wp2_with fail
        go_ret
        exact ⟨by simp, YP.out _ hUr.out⟩
end Go.Proofs.Ytkekaljcbmkomaa

namespace Go.Proofs.Ytkekaljcbmkomaa
open Go.RowKit
set_option linter.unusedVariables false
set_option linter.unusedSimpArgs false
attribute [local simp] lcells_nil readB_length bcells_length

/-- Bytes and the document's answer. -/
structure Tw where
  s : Nat
  N : Nat
  lv : Value
  L : List Piece
  r : Nat
  a : Option Addr
  c : Nat
  R : List RP
def Tw.At (x : Tw) (w : World) : Prop := Twain w x.s x.N x.lv x.L x.r x.a x.c x.R
def Tw.F (x : Tw) (k : Nat) : Prop := Foot x.s x.lv x.L k ∨ RFoot x.r x.a x.R k
theorem Tw.lt {x : Tw} {w : World} (h : x.At w) {k : Nat} (hk : x.F k) : k < w.heap.size := hk.elim (fun h1 => h.rep.str.lv_lt h1) (fun h1 => h.ref.obj.lt h1)
theorem Tw.kept {x : Tw} {w w' : World} {G : Nat → Prop} (h : x.At w) (hu : Upd G w w') (hG : ∀ k, x.F k → ¬ G k) : x.At w' :=
  ⟨h.rep.kept hu (fun k hk => hG k (.inl hk)), h.ref.upd hu (fun k hk => hG k (.inr hk)), h.same, h.apart⟩

structure Quad (w0 w : World) (x y : Tw) : Prop where
  hx : x.At w
  hy : y.At w
  dis : ∀ k, x.F k → ¬ y.F k
  below : Below w0.heap.size w0 w
  fx : ∀ k, x.F k → w0.heap.size ≤ k
  fy : ∀ k, y.F k → w0.heap.size ≤ k
theorem Quad.symm {w0 w : World} {x y : Tw} (h : Quad w0 w x y) : Quad w0 w y x := ⟨h.hy, h.hx, fun k h1 h2 => h.dis k h2 h1, h.below, h.fy, h.fx⟩
theorem Quad.quiet {w0 w w' : World} {x y : Tw} (h : Quad w0 w x y) (hb : Below w.heap.size w w') : Quad w0 w' x y := ⟨Twain.below h.hx hb, Twain.below h.hy hb, h.dis, h.below.trans (hb.mono h.below.size), h.fx, h.fy⟩
theorem Quad.left {w0 w w' : World} {x y : Tw} (h : Quad w0 w x y) (hp : MovedPost w x.s x.N x.lv x.L x.r x.a x.c x.R w') : ∃ x', x'.s = x.s ∧ x'.r = x.r ∧ Quad w0 w' x' y := by
  obtain ⟨N', lv', L', a', c', R', hT, hg, hu⟩ := hp
  refine ⟨⟨x.s, N', lv', L', x.r, a', c', R'⟩, rfl, rfl, hT, Tw.kept h.hy hu (fun k hk hx => h.dis k hx hk), fun k hk hy => ?_, h.below.trans (hu.below h.below.size h.fx), fun k hk => ?_, h.fy⟩
  · rcases hg k hk with h1 | h1
    · exact h.dis k h1 hy
    · have := Tw.lt h.hy hy; omega
  · rcases hg k hk with h1 | h1
    · exact h.fx k h1
    · have := h.below.size; omega

theorem moved_any (x : Tw) (m : Mv) (w : World) (h : x.At w) (ht : m.t ≤ 9223372036854775807) (hbs : BsAt w m.a m.bs) (hba : m.bs ≠ [] → ∀ ad, m.a = some ad → ¬ x.F ad.block) (hl : m.bs.length ≤ 1048576) :
    Calls Try.prog 15 #[.pointer (some ⟨x.s, 0, none⟩), .pointer (some ⟨x.r, 0, none⟩), .agg #[.int .i64 m.d, .int .i64 m.t, .int .i64 m.n, .slice m.a m.bs.length m.c]] w fun e w' => e = .returned (.bool true) ∧ MovedPost w x.s x.N x.lv x.L x.r x.a x.c x.R w' := by
  by_cases h0 : m.d = 0
  · rw [h0]; exact moved_put _ _ _ _ _ _ _ _ _ _ _ _ _ _ h ht hbs hba hl
  by_cases h1 : m.d = 1
  · rw [h1]; exact moved_cut _ _ _ _ _ _ _ _ _ _ _ _ _ _ h
  by_cases h2 : m.d = 2
  · rw [h2]; exact moved_punch _ _ _ _ _ _ _ _ _ _ _ _ _ _ h
  by_cases h3 : m.d = 3
  · rw [h3]; exact moved_get _ _ _ _ _ _ _ _ _ _ _ _ _ _ h
  by_cases h4 : m.d = 4
  · rw [h4]; exact moved_next _ _ _ _ _ _ _ _ _ _ _ _ _ _ h ht
  exact moved_none _ _ _ _ _ _ _ _ _ _ _ _ _ _ _ h h0 h1 h2 h3 h4

/-- The twins of both. -/
theorem twins_at {w0 w w1 w2 : World} {x y : Tw} (h : Quad w0 w x y) {b' : Nat} {lv' : Value} {M : List Piece} (hR : Rep w1 b' x.N lv' M) (hct : ct M = ct x.L) (hb : Below w.heap.size w w1) (hf : ∀ k, Foot b' lv' M k → w.heap.size ≤ k)
    {a' : Option Addr} {c' : Nat} {R' : List RP} (hR2 : RRep w2 w1.heap.size x.N a' c' R') (hct2 : ct (pls R') = ct (pls x.R)) (hf2 : ∀ k, RFoot w1.heap.size a' R' k → w1.heap.size ≤ k) (hb2 : Below w1.heap.size w1 w2) :
    Quad w0 w2 x ⟨b', x.N, lv', M, w1.heap.size, a', c', R'⟩ := by
  have hb12 := below_tr hb hb2
  refine ⟨Twain.below h.hx hb12, ⟨hR.below hb2, hR2, by rw [hct, hct2]; exact h.hx.same, fun k hk hr => ?_⟩, fun k hk hy => ?_, h.below.trans (hb12.mono h.below.size), h.fx, fun k hk => ?_⟩
  · have h1 := hR.str.lv_lt hk; have h2 := hf2 k hr; omega
  · have h1 := Tw.lt h.hx hk
    rcases hy with hy | hy
    · have := hf k hy; omega
    · have := hf2 k hy; have := hb.size; omega
  · have h0 := h.below.size
    have h1 := hb.size
    rcases hk with hk | hk
    · have := hf k hk; omega
    · have := hf2 k hk; omega
end Go.Proofs.Ytkekaljcbmkomaa

namespace Go.Proofs.Ytkekaljcbmkomaa
open Go.RowKit
set_option linter.unusedVariables false
set_option linter.unusedSimpArgs false
attribute [local simp] lcells_nil readB_length bcells_length

set_option maxHeartbeats 1000000 in
theorem newW_any (src : Addr) (l : List UInt8) (c : Nat) (w : World) (h0 : 0 < l.length) (hlc : l.length ≤ c) (hc : c ≤ 9223372036854775807) (hsrc : ∀ j v, (bcells l)[j]? = some v → w.cell? (src.add j) = some v) :
    Calls Try.prog 11 #[.slice (some src) l.length c] w fun e w' => e = .returned (.pointer (some ⟨w.heap.size, 0, none⟩)) ∧ ∃ lv g cap, Rep w' w.heap.size (l.take 4194304).length lv [⟨0, g, cap, l.take 4194304⟩] ∧ Below w.heap.size w w' ∧ ∀ k, Foot w.heap.size lv [⟨0, g, cap, l.take 4194304⟩] k → w.heap.size ≤ k := by
  obtain ⟨m, hm⟩ : ∃ m, m = (l.take 4194304).length := ⟨_, rfl⟩
  have hm2 : m = min l.length 4194304 := by rw [hm, List.length_take]; omega
  have hmn : min (l.length : Int) 4194304 = (m : Int) := by omega
  have hA := below_al w (.cells #[.int .i64 0, .int .i64 0, .slice none 0 0] 50)
  have P1 := putEnd_any w.heap.size 0 (.slice none 0 0) [] 0 src (l.take 4194304) c (w.alloc (.cells #[.int .i64 0, .int .i64 0, .slice none 0 0] 50)) (rep_new w) (by simp) (by omega) (by omega) (by simp [heldOf]; omega)
    (fun j v hj => by
      have h2 : (bcells l)[j]? = some v := by
        have e : bcells (l.take 4194304) = (bcells l).take 4194304 := by simp [bcells, List.map_take]
        rw [e, List.getElem?_take] at hj
        split at hj
        · exact hj
        · cases hj
      exact (hA.cell (World.block_lt_of_cell? w _ (hsrc j v h2))).trans (hsrc j v h2))
  rw [← hm] at P1 ⊢
  have HP := aside P1
  have HMN := aside hmn
  have HA := aside hA
  have hmc : m ≤ c := by omega
  have hmi : (m : Int) ≤ (c : Int) := by omega
  clear P1 hmn hA hsrc hm hm2
  go_enter Try.func11, Try.ntmps11
  go_wp2_with ((with_reducible refine wpList_min2 _ rfl _ _ _ rfl (l.length : Int) 4194304 (m : Int) ?_ ?_ HMN.out ?_); rfl; rfl)
  refine HP.out.mono ?_
  rintro e w1 ⟨rfl, lv, g, cap, hR, hu, hg, hk⟩
  go_wp2
  go_ret
  refine ⟨rfl, lv, g, cap, ?_, ?_, ?_⟩
  · simpa using hR
  · refine HA.out.trans (hu.below (by simp) (fun k hk => ?_))
    rcases hk with e | e | ⟨d, hd, -⟩
    · omega
    · simp [Value.ownBlock] at e
    · simp at hd
  · intro k hk
    rw [World.size_alloc] at hg
    rcases hk with e | e | ⟨d, hd, e⟩
    · omega
    · rcases ‹lv.ownBlock = _ ∨ _› with e1 | ⟨j, e1, hj⟩
      · rw [e1] at e; simp [Value.ownBlock] at e
      · rw [e1] at e; injection e with e; rw [World.size_alloc] at hj; omega
    · rw [List.mem_singleton.1 hd] at e; simp only at e; omega

set_option maxHeartbeats 1000000 in
/-- New of no bytes. -/
theorem newNoneW_any (a : Option Addr) (c : Nat) (w : World) (hc : c ≤ 9223372036854775807) :
    Calls Try.prog 11 #[.slice a 0 c] w fun e w' => e = .returned (.pointer (some ⟨w.heap.size, 0, none⟩)) ∧ ∃ lv, Rep w' w.heap.size 0 lv [] ∧ Below w.heap.size w w' ∧ ∀ k, Foot w.heap.size lv [] k → w.heap.size ≤ k := by
  have hR := aside (rep_new w)
  have hcc : (0 : Int) ≤ (c : Int) := by omega
  go_enter Try.func11, Try.ntmps11
  go_wp2_with ((with_reducible refine wpList_min2 _ rfl _ _ _ rfl (0 : Int) 4194304 (0 : Int) ?_ ?_ (by decide) ?_); rfl; rfl)
  refine (putNone_any _ _ _ _ _ (by omega)).mono ?_
  rintro e w' ⟨rfl, rfl⟩
  go_wp2
  go_ret
  refine ⟨rfl, .slice none 0 0, hR.out, below_al w _, ?_⟩
  rintro k (rfl | h | ⟨d, hd, -⟩)
  · exact Nat.le_refl _
  · cases h
  · simp at hd

theorem newW_all (a : Option Addr) (l : List UInt8) (c : Nat) (w : World) (h : BsAt w a l) (hlc : l.length ≤ c) (hc : c ≤ 9223372036854775807) :
    Calls Try.prog 11 #[.slice a l.length c] w fun e w' => e = .returned (.pointer (some ⟨w.heap.size, 0, none⟩)) ∧ ∃ lv L, Rep w' w.heap.size (min l.length 4194304) lv L ∧ ct L = ini l ∧ L.length ≤ 1 ∧ Below w.heap.size w w' ∧ ∀ k, Foot w.heap.size lv L k → w.heap.size ≤ k := by
  by_cases hn : l = []
  · subst hn
    refine (newNoneW_any a c w hc).mono ?_
    rintro e w' ⟨rfl, lv, hR, hb, hf⟩
    exact ⟨rfl, lv, [], by simpa using hR, by simp [ini, ct], by simp, hb, hf⟩
  · obtain ⟨ad, rfl, hs⟩ := h hn
    refine (newW_any ad l c w (List.length_pos_iff.2 hn) hlc hc hs).mono ?_
    rintro e w' ⟨rfl, lv, g, cap, hR, hb, hf⟩
    refine ⟨rfl, lv, _, ?_, by simp [ini, ct, hn], by simp, hb, hf⟩
    rw [List.length_take, Nat.min_comm] at hR
    exact hR

end Go.Proofs.Ytkekaljcbmkomaa

namespace Go.Proofs.Ytkekaljcbmkomaa
open Go.RowKit
set_option linter.unusedVariables false
set_option linter.unusedSimpArgs false
attribute [local simp] lcells_nil readB_length bcells_length

theorem lens_mem {ms : List Mv} {m : Mv} (h : m ∈ ms) : m.bs.length ≤ lens ms := by
  unfold lens
  induction ms with
  | nil => simp at h
  | cons q ms ih =>
    rcases List.mem_cons.1 h with rfl | h
    · simp
    · have := ih h; simp; omega

/-- What append makes of bytes and one sign: told by the row alone. -/
theorem own_some {w : World} {e : TypeId} {s : Nat} {v : Value} {n : Nat} {xs : List Value} (h : w.ownsRow 0 e s v n xs) (hb : v.ownBlock ≠ none) : ∃ g c, v = .slice (some ⟨g, 0, none⟩) n c ∧ n ≤ c := by
  rcases h.2 with ⟨rfl, -⟩ | ⟨g, c, cur, rfl, -, -, hnc, -⟩
  · exact absurd rfl hb
  · exact ⟨g, c, rfl, hnc⟩

/-- The twins of both. -/
theorem twins_of {w0 w w1 w2 : World} {x : Tw} (hx : x.At w) (hbl : Below w0.heap.size w0 w) (hfx : ∀ k, x.F k → w0.heap.size ≤ k) {b' : Nat} {lv' : Value} {M : List Piece} (hR : Rep w1 b' x.N lv' M) (hct : ct M = ct x.L) (hb : Below w.heap.size w w1) (hf : ∀ k, Foot b' lv' M k → w.heap.size ≤ k)
    {a' : Option Addr} {c' : Nat} {R' : List RP} (hR2 : RRep w2 w1.heap.size x.N a' c' R') (hct2 : ct (pls R') = ct (pls x.R)) (hf2 : ∀ k, RFoot w1.heap.size a' R' k → w1.heap.size ≤ k) (hb2 : Below w1.heap.size w1 w2) :
    Quad w0 w2 x ⟨b', x.N, lv', M, w1.heap.size, a', c', R'⟩ := by
  have hb12 := below_tr hb hb2
  refine ⟨Twain.below hx hb12, ⟨hR.below hb2, hR2, by rw [hct, hct2]; exact hx.same, fun k hk hr => ?_⟩, fun k hk hy => ?_, hbl.trans (hb12.mono hbl.size), hfx, fun k hk => ?_⟩
  · have h1 := hR.str.lv_lt hk; have h2 := hf2 k hr; omega
  · have h1 := Tw.lt hx hk
    rcases hy with hy | hy
    · have := hf k hy; omega
    · have := hf2 k hy; have := hb.size; omega
  · have h0 := hbl.size
    have h1 := hb.size
    rcases hk with hk | hk
    · have := hf k hk; omega
    · have := hf2 k hk; omega

set_option maxHeartbeats 8000000 in
set_option maxRecDepth 100000 in
theorem spanPlays_walk (a0 : Option Addr) (l0 : List UInt8) (c0 : Nat) (am : Option Addr) (cm : Nat) (ms : List Mv) (w : World) (h0 : BsAt w a0 l0) (hc : l0.length ≤ 4611686018427387904) (hm : Mvs w am ms) :
    Calls Try.prog 3 #[.slice a0 l0.length c0, .slice am ms.length cm] w fun e w' => e = .returned (.bool true) ∧ Below w.heap.size w w' := by
  have HG := aside (great_any a0 l0.length c0 am cm ms w hm (by omega))
  have HWK := aside (wakes_any)
  have HM := aside hm
  have H0 := aside h0
  clear hm h0
  go_enter Try.func3, Try.ntmps3
  go_wp2_with fail
  refine HG.out.mono ?_
  rintro e w' ⟨⟨g, rfl, hg⟩, rfl⟩
  cases g
  case true =>
    clear hg
    go_wp2_with fail
    refine (HWK.out w').mono ?_
    rintro e w1 ⟨rfl, hb⟩
    have HB := aside hb
    clear hb
    go_wp2
    go_ret
    exact ⟨rfl, HB.out⟩
  case false =>
    have hms : ms.length ≤ 300 := (hg rfl).1
    have hml : l0.length + lens ms ≤ 131072 := (hg rfl).2
    have hl0 : l0.length ≤ 131072 := by omega
    clear hg HG
    have SR : Aside (SrcAt (w'.alloc (.cells #[] 5)) (.slice a0 l0.length c0) l0.length (bcells l0)) := ⟨_, _, rfl, fun hp => (H0.out.below (below_al w' _)) (List.length_pos_iff.1 hp)⟩
    have RM := aside (room_bytes (n := 0) (m := l0.length) (by omega))
    have hll := aside (show (bcells l0).length = l0.length * 1 by simp)
    go_wp2_with (at_builtin; refine wpList_append_any _ rfl _ _ 22 rfl 5 (.int .u8 0) 1 1 Try.underlying22 info5 rfl (by decide) (.slice (some ⟨w'.heap.size, 0, none⟩) 0 0) 0 [] rfl (own_built (heap_alloc_new w' _)) _ l0.length (bcells l0) rfl hll.out SR.out (bcells_one _) RM.out.1 RM.out.2 ?_)
    intro v1 w1 ho hu hv
    have hvn : v1.ownBlock ≠ none := by rcases hv with h | h <;> (rw [h]; simp [Value.ownBlock])
    have hvg : ∀ k, v1.ownBlock = some k → w'.heap.size ≤ k := fun k hk => by
      rcases hv with h | h <;> (rw [h] at hk; simp [Value.ownBlock] at hk; omega)
    obtain ⟨g1, c1, rfl, hn1⟩ := own_some ho hvn
    have hg1 : w'.heap.size ≤ g1 := hvg g1 rfl
    have B1 : Aside (Below w'.heap.size w' w1) := (below_al w' _).trans (hu.below (by simp) (fun k hk => by simp [Value.ownBlock] at hk; omega))
    have R1 := aside ho
    clear ho hu hv hvn hvg SR RM hll
    have hs1 := B1.out.size
    have al := below_al w1 (.cells #[.int .u8 165] 5)
    have R1' := aside (row_below R1.out al)
    have SR : Aside (SrcAt (w1.alloc (.cells #[.int .u8 165] 5)) (.slice (some ⟨w1.heap.size, 0, none⟩) 1 1) 1 (bcells [165])) := ⟨_, _, rfl, fun _ => ⟨_, rfl, cells_lit (cs := bcells [165]) (heap_alloc_new w1 _)⟩⟩
    have RM := aside (room_bytes (n := l0.length) (m := 1) (by omega))
    have B1' := aside (below_tr B1.out al)
    have i0 : IntKind.i64.wrap (l0.length : Int) = (l0.length : Int) := by rw [IntKind.wrap_i64]; omega
    clear al
    go_wp2_with (at_builtin; refine wpList_append_any _ rfl _ _ 22 rfl 5 (.int .u8 0) 1 1 Try.underlying22 info5 rfl (by decide) (.slice (some ⟨g1, 0, none⟩) l0.length c1) l0.length (bcells l0) rfl R1'.out _ 1 (bcells [165]) rfl rfl SR.out (bcells_one _) RM.out.1 RM.out.2 ?_)
    intro v2 w2 ho hu hv
    have hvn : v2.ownBlock ≠ none := by rcases hv with h | h <;> (rw [h]; simp [Value.ownBlock])
    have hvg : ∀ k, v2.ownBlock = some k → w'.heap.size ≤ k := fun k hk => by
      rcases hv with h | h <;> (rw [h] at hk; simp [Value.ownBlock] at hk; omega)
    obtain ⟨g, cap, rfl, hcap⟩ := own_some ho hvn
    have hg : w'.heap.size ≤ g := hvg g rfl
    rw [show bcells l0 ++ bcells [165] = bcells (l0 ++ [165]) by simp [bcells]] at ho
    have B2 : Aside (Below w'.heap.size w' w2) := B1'.out.trans (hu.below B1'.out.size (fun k hk => by simp [Value.ownBlock] at hk; omega))
    have R2 := aside ho
    have hgl : g < w2.heap.size := own_lt ho rfl
    have hs2 := B2.out.size
    clear ho hu hv hvn hvg SR RM R1 R1' B1 B1' hn1 hg1 hs1
    have i1 : (l0.length : Int) ≤ (cap : Int) := by omega
    have i2 : l0.length ≤ cap := by omega
    have i3 : (0 : Int) ≤ (l0.length : Int) := by omega
    have hcp : cap ≤ 9223372036854775807 := by
      rcases R2.out.2 with ⟨h, -⟩ | ⟨g', cap', cur, h, -, -, -, hml', -⟩
      · cases h
      · injection h with h1 h2 h3
        subst h3
        unfold maxLen at hml'
        omega
    have NW := aside (newW_all (some ⟨g, 0, none⟩) l0 cap w2 (mine_bs R2.out) i2 hcp)
    go_wp2_with fail
    refine NW.out.mono ?_
    rintro e w3 ⟨rfl, lv, L, hR, hct, -, hb3, hf⟩
    rw [Nat.min_eq_left (by omega)] at hR
    have e1 : w3.cell? ⟨g, l0.length, none⟩ = some (.int .u8 165) := (hb3.cell (p := ⟨g, l0.length, none⟩) hgl).trans (mine_sign R2.out)
    have RO := aside ((row_of R2.out).below hb3)
    have HR := aside hR
    have HCT := aside hct
    have HF := aside hf
    have B3 := aside (below_tr B2.out hb3)
    have hs3 := hb3.size
    have hss : w2.heap.size < w3.heap.size := hR.str.lv_lt (.inl rfl)
    have j1 : IntKind.i64.wrap ((l0.length : Int) + 1) = (l0.length : Int) + 1 := by rw [IntKind.wrap_i64]; omega
    have j2 : (l0.length : Int) + 1 ≤ (cap : Int) := by omega
    have j3 : (0 : Int) ≤ (l0.length : Int) + 1 := by omega
    have j4 : (l0.length : Int) < (l0.length : Int) + 1 := by omega
    have j5 : ((l0.length : Int) + 1).toNat = l0.length + 1 := by omega
    obtain ⟨s, hs⟩ : ∃ s, s = w2.heap.size := ⟨_, rfl⟩
    rw [← hs] at HR HF hss
    have hgs : g < s := by omega
    have hws : w'.heap.size ≤ s := by omega
    clear hR hct hf hb3 NW R2
    have HSE := aside hs
    clear hs
    go_wp2_with fail
    rw [← HSE.out]
    clear HSE
    go_loopw [7] (fun s7 wr => ∃ k : Nat, k ≤ l0.length ∧ s7 = .int .i64 k ∧ Aside (Upd (fun k => k = g) w3 wr) ∧ Aside (RowOf wr g cap)) (fun s7 _ => l0.length - (intOf s7).toNat)
    case atStart => exact ⟨0, Nat.zero_le _, rfl, Upd.refl _ _, RO⟩
    case round =>
      obtain ⟨k, hk, rfl, hUr, hRr⟩ := hrel
      by_cases h9 : k < l0.length
      · have t1 : (k : Int) < (l0.length : Int) := by omega
        obtain ⟨v0, z0, z1⟩ := hRr.out.cell (k := k) (by omega)
        have HX := aside (hRr.out.set k (.int .u8 124))
        go_wp2_with fail
        go_roundw
        case rel => exact ⟨k + 1, by omega, by go_num, hUr.out.trans (Upd.setCell (F := fun k => k = g) (p := ⟨g, k, none⟩) (w := wr) rfl _) (fun _ _ h => h), HX⟩
        case measure => simp [intOf]; omega
      · have t1 : ¬ ((k : Int) < (l0.length : Int)) := by omega
        have B4 : Aside (Below w'.heap.size w' wr) := B3.out.trans (hUr.out.below B3.out.size (fun q hq => by omega))
        have HR4 := aside (HR.out.kept hUr.out (fun q hq e => by have := HF.out q hq; omega))
        have hs4 := hUr.out.size
        have al := below_al wr (.cells #[] 5)
        have SR : Aside (SrcAt (wr.alloc (.cells #[] 5)) (.slice a0 l0.length c0) l0.length (bcells l0)) := ⟨_, _, rfl, fun hp => (H0.out.below (below_tr B4.out al)) (List.length_pos_iff.1 hp)⟩
        have RM := aside (room_bytes (n := 0) (m := l0.length) (by omega))
        have hll := aside (show (bcells l0).length = l0.length * 1 by simp)
        clear e1 RO B3 hRr hUr
        go_wp2_with (at_builtin; refine wpList_append_any _ rfl _ _ 22 rfl 5 (.int .u8 0) 1 1 Try.underlying22 info5 rfl (by decide) (.slice (some ⟨wr.heap.size, 0, none⟩) 0 0) 0 [] rfl (own_built (heap_alloc_new wr _)) _ l0.length (bcells l0) rfl hll.out SR.out (bcells_one _) RM.out.1 RM.out.2 ?_)
        intro v5 w5 ho hu hv
        have hvn : v5.ownBlock ≠ none := by rcases hv with h | h <;> (rw [h]; simp [Value.ownBlock])
        obtain ⟨g5, c5, rfl, -⟩ := own_some ho hvn
        have hb5 : Below wr.heap.size wr w5 := al.trans (hu.below (by simp) (fun q hq => by simp [Value.ownBlock] at hq; omega))
        have NR := aside (newRef_all (some ⟨g5, 0, none⟩) l0 c5 w5 (bs_own ho) (by omega))
        have HR5 := aside (HR4.out.below hb5)
        have B5 := aside (below_tr B4.out hb5)
        clear ho hu hv hvn SR RM hll al HR4 B4 hb5
        go_wp2_with fail
        refine NR.out.mono ?_
        rintro e w6 ⟨rfl, a6, c6, R6, hR6, hct6, hf6, hb6⟩
        obtain ⟨x, hxd⟩ : ∃ x : Tw, x = ⟨s, l0.length, lv, L, w5.heap.size, a6, c6, R6⟩ := ⟨_, rfl⟩
        have hx : x.At w6 := by
          rw [hxd]
          exact ⟨HR5.out.below hb6, hR6, by rw [HCT.out, hct6], fun q hq hr => by have h1 := HR5.out.str.lv_lt hq; have h2 := hf6 q hr; omega⟩
        have B6 := below_tr B5.out hb6
        have hfx : ∀ q, x.F q → w'.heap.size ≤ q := fun q hq => by
          rw [hxd] at hq
          rcases hq with hq | hq
          · have := HF.out q hq; omega
          · have := hf6 q hq; have := B5.out.size; omega
        have T1 := aside (twin_any x.s x.N x.lv x.L w6 hx.rep)
        have HX := aside hx
        have HB6 := aside B6
        have HFX := aside hfx
        have es : s = x.s := by rw [hxd]
        have er : w5.heap.size = x.r := by rw [hxd]
        rw [er]
        subst es
        clear hR6 hct6 hf6 hb6 hx B6 hfx hxd er HR5 B5 HF HCT HR NR
        go_wp2_with fail
        refine T1.out.mono ?_
        rintro e w7 ⟨b', lv', M, rfl, hR7, hct7, hb7, hf7⟩
        have T2 := aside (twinRef_any x.r x.N x.a x.c x.R w7 (HX.out.ref.below hb7))
        have P7 := aside (And.intro hR7 (And.intro hct7 (And.intro hb7 hf7)))
        clear hR7 hct7 hb7 hf7 T1
        go_wp2_with fail
        refine T2.out.mono ?_
        rintro e w8 ⟨rfl, a8, c8, R8, hR8, hct8, hf8, hb8⟩
        have Q8 := twins_of HX.out HB6.out HFX.out P7.out.1 P7.out.2.1 P7.out.2.2.1 P7.out.2.2.2 hR8 hct8 hf8 hb8
        have HQ8 := aside Q8
        clear hR8 hct8 hf8 hb8 Q8 T2 P7 HX HB6 HFX
        go_wp2_with fail
        go_loopw [6, 8, 9, 10, 11] (fun s6 s8 s9 s10 s11 wr => ∃ (k : Nat) (x y : Tw), k ≤ ms.length ∧ s6 = .pointer (some ⟨x.s, 0, none⟩) ∧ s8 = .pointer (some ⟨x.r, 0, none⟩) ∧ s9 = .pointer (some ⟨y.s, 0, none⟩) ∧ s10 = .pointer (some ⟨y.r, 0, none⟩) ∧ s11 = .int .i64 k ∧ Aside (Quad w' wr x y)) (fun _ _ _ _ s11 _ => ms.length - (intOf s11).toNat)
        case atStart => exact ⟨0, _, _, Nat.zero_le _, rfl, rfl, rfl, rfl, rfl, HQ8⟩
        case round =>
          clear HQ8
          obtain ⟨k, x, y, hk, rfl, rfl, rfl, rfl, rfl, hQ⟩ := hrel
          have HMr := aside (HM.out.below hQ.out.below)
          by_cases h1 : k < ms.length
          · have t1 : (k : Int) < (ms.length : Int) := by omega
            have hkm : ms[k]? = some ms[k] := List.getElem?_eq_getElem h1
            have hle := HM.out.le ms[k] (List.getElem_mem h1)
            have hlm := lens_mem (List.getElem_mem h1)
            have hbm := HM.out.bs ms[k] (List.getElem_mem h1)
            obtain ⟨blk, off, rfl, hrd0⟩ := HM.out.rd (by intro h; simp [h] at h1)
            obtain ⟨r0, r1, r2, r3⟩ := hrd0.below hQ.out.below k _ hkm
            have hblk : blk < w'.heap.size := World.block_lt_of_cell? w' _ (hrd0 k _ hkm).1
            have r0' := (hrd0 k _ hkm).1
            clear hrd0 hkm HMr
            generalize ms[k] = m at *
            have hba : m.bs ≠ [] → ∀ ad, m.a = some ad → ¬ x.F ad.block := fun hne ad ha hf => by
              obtain ⟨ad', e, hcell⟩ := hbm hne
              rw [ha] at e
              cases e
              have hl : 0 < (bcells m.bs).length := by rw [bcells_length]; exact List.length_pos_iff.2 hne
              have h2 := World.block_lt_of_cell? w' _ (hcell 0 _ (List.getElem?_eq_getElem hl))
              have e0 : (ad.add 0).block = ad.block := by unfold Addr.add; split <;> rfl
              rw [e0] at h2
              have := hQ.out.fx _ hf
              omega
            have MV := aside (moved_any x m wr hQ.out.hx hle.1 (hbm.below hQ.out.below) hba (by omega))
            have R0 := aside r0'
            clear hba hbm r0'
            go_wp2_with fail
            refine MV.out.mono ?_
            rintro e w9 ⟨rfl, hP⟩
            obtain ⟨x', hxs, hxr, hQ9⟩ := hQ.out.left hP
            have S1 := sameBytes_any x'.s x'.N x'.lv x'.L x'.r x'.a x'.c x'.R w9 hQ9.hx
            rw [hxs, hxr] at S1
            have HS1 := aside S1
            have HQ9 := aside hQ9
            clear S1 hQ9 hP MV r0 r1 r2 r3 hQ
            go_wp2_with fail
            refine HS1.out.mono ?_
            rintro e w10 ⟨rfl, hb10⟩
            have HQ10 := aside (HQ9.out.quiet hb10)
            have HS2 := aside (sameBytes_any y.s y.N y.lv y.L y.r y.a y.c y.R w10 HQ10.out.hy)
            clear hb10 HQ9 HS1
            go_wp2_with fail
            refine HS2.out.mono ?_
            rintro e w11 ⟨rfl, hb11⟩
            have hQ11 := HQ10.out.quiet hb11
            have d0 : w11.cell? ⟨blk, off + k * 4, none⟩ = some (.int .i64 m.d) := (hQ11.below.cell (p := ⟨blk, off + k * 4, none⟩) hblk).trans R0.out
            have HQ11 := aside hQ11
            clear hb11 hQ11 HQ10 HS2
            by_cases h5 : m.d = 5
            · rw [h5] at d0
              have T1 := aside (twin_any y.s y.N y.lv y.L w11 HQ11.out.hy.rep)
              cases h7 : ((k : Int) % 2 == 0)
              case true =>
                go_wp2_with fail
                refine T1.out.mono ?_
                rintro e w12 ⟨b', lv', M, rfl, hR7, hct7, hb7, hf7⟩
                have T2 := aside (twinRef_any y.r y.N y.a y.c y.R w12 (HQ11.out.hy.ref.below hb7))
                have P7 := aside (And.intro hR7 (And.intro hct7 (And.intro hb7 hf7)))
                clear hR7 hct7 hb7 hf7 T1
                go_wp2_with fail
                refine T2.out.mono ?_
                rintro e w13 ⟨rfl, a8, c8, R8, hR8, hct8, hf8, hb8⟩
                have HQ13 := aside (twins_at HQ11.out.symm P7.out.1 P7.out.2.1 P7.out.2.2.1 P7.out.2.2.2 hR8 hct8 hf8 hb8)
                clear hR8 hct8 hf8 hb8 T2 P7
                go_wp2_with fail
                go_roundw
                case rel => exact ⟨k + 1, _, _, by omega, rfl, rfl, rfl, rfl, by go_num, HQ13⟩
                case measure => simp [intOf]; omega
              case false =>
                clear T1
                go_wp2_with fail
                go_roundw
                case rel => exact ⟨k + 1, y, x', by omega, rfl, rfl, by rw [hxs], by rw [hxr], by go_num, HQ11.out.symm⟩
                case measure => simp [intOf]; omega
            · go_wp2_with fail
              go_roundw
              case rel => exact ⟨k + 1, x', y, by omega, by rw [hxs], by rw [hxr], rfl, rfl, by go_num, HQ11⟩
              case measure => simp [intOf]; omega
          · obtain rfl : k = ms.length := by omega
            have t1 : ¬ ((ms.length : Int) < (ms.length : Int)) := by omega
            have HS1 := aside (sameBytes_any x.s x.N x.lv x.L x.r x.a x.c x.R wr hQ.out.hx)
            go_wp2_with fail
            refine HS1.out.mono ?_
            rintro e w9 ⟨rfl, hb9⟩
            have HQ9 := aside (hQ.out.quiet hb9)
            have HS2 := aside (sameBytes_any y.s y.N y.lv y.L y.r y.a y.c y.R w9 HQ9.out.hy)
            clear hb9 HS1
            go_wp2_with fail
            refine HS2.out.mono ?_
            rintro e w10 ⟨rfl, hb10⟩
            have HQ10 := aside (HQ9.out.quiet hb10)
            clear hb10
            go_wp2_with fail
            refine (HWK.out w10).mono ?_
            rintro e w11 ⟨rfl, hb11⟩
            have HB11 := aside (HQ10.out.below.trans (hb11.mono HQ10.out.below.size))
            clear hb11
            go_wp2_with fail
            go_ret
            exact ⟨rfl, HB11.out⟩
end Go.Proofs.Ytkekaljcbmkomaa
