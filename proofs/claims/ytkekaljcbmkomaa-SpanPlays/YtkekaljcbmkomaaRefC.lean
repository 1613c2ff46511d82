/- The document's own Put, Cut, Punch, New, Get, Twin. -/
import Derived.Test.YtkekaljcbmkomaaRefB
import Derived.Test.YtkekaljcbmkomaaAll
import Derived.Test.YtkekaljcbmkomaaMade
namespace Go.Proofs.Ytkekaljcbmkomaa
open Go.RowKit
attribute [local simp] lcells_nil readB_length bcells_length

structure RRep (w : World) (b N : Nat) (a : Option Addr) (c : Nat) (R : List RP) : Prop where
  obj : RObj w b N a c R
  inv : Inv N (pls R)
theorem pls_length (R : List RP) : (pls R).length = R.length := by simp [pls]
theorem RRep.len {w : World} {b N : Nat} {a : Option Addr} {c : Nat} {R : List RP} (h : RRep w b N a c R) : R.length ≤ 4194304 := by rw [← pls_length]; exact h.inv.len
/-- Of what a call leaves: its blocks are old ones of the object, or new. -/
def RGrew (b : Nat) (a : Option Addr) (R : List RP) (w : World) (a' : Option Addr) (R' : List RP) : Prop := ∀ k, RFoot b a' R' k → RFoot b a R k ∨ w.heap.size ≤ k
theorem RGrew.refl (b : Nat) (a : Option Addr) (R : List RP) (w : World) : RGrew b a R w a R := fun _ h => .inl h

theorem RObj.cells {w : World} {b N : Nat} {a : Option Addr} {c : Nat} {R : List RP} (h : RObj w b N a c R) : w.cell? ⟨b, 0, none⟩ = some (.slice a R.length c) ∧ w.cell? ⟨b, 1, none⟩ = some (.int .i64 N) ∧ w.frozen? ⟨b, 0, none⟩ = false ∧ w.frozen? ⟨b, 1, none⟩ = false :=
  ⟨by rw [cell_of_row w b _ _ _ _ h.obj]; rfl, by rw [cell_of_row w b _ _ _ _ h.obj]; rfl, frozen_of_row w b 0 _ _ h.obj, frozen_of_row w b 1 _ _ h.obj⟩

theorem Upd.row' {F : Nat → Prop} {w w' : World} {base : Nat} {e : TypeId} {s : Nat} {v : Value} {n : Nat} {xs : List Value} (h : Upd F w w') (hr : w.ownsRow base e s v n xs) (hn : ∀ k, v.ownBlock = some k → ¬ F k) : w'.ownsRow base e s v n xs := by
  refine ⟨hr.1, ?_⟩
  rcases hr.2 with h2 | ⟨g, cap, cur, rfl, hg, hh, r⟩
  · exact .inl h2
  · exact .inr ⟨g, cap, cur, rfl, hg, (h.block g (Array.getElem?_eq_some_iff.1 hh).1 (hn g rfl)).trans hh, r⟩

theorem robj_list {w w1 : World} {b N : Nat} {a : Option Addr} {c : Nat} {R T : List RP} {v : Value} (hR : RObj w b N a c R) (hb1 : Below w.heap.size w w1) (hrow : w1.ownsRow w.heap.size 59 2 v T.length (rcells T)) (hTk : ∀ r, r ∈ T → PcOk w r ∧ ∃ q, q ∈ R ∧ r.blk = q.blk) (hl : T.length ≤ 1073741824) :
    ∃ a' c', v = .slice a' T.length c' ∧ RObj (w1.setCell ⟨b, 0, none⟩ v) b N a' c' T ∧ RGrew b a R w a' T ∧ Upd (fun k => k = b) w (w1.setCell ⟨b, 0, none⟩ v) := by
  have hbw : b < w.heap.size := (Array.getElem?_eq_some_iff.1 hR.obj).1
  have hob := (hb1.block b hbw).trans hR.obj
  have u : Upd (fun k => k = b) w1 (w1.setCell ⟨b, 0, none⟩ v) := Upd.setCell (F := fun k => k = b) (p := ⟨b, 0, none⟩) rfl _
  have hU : Upd (fun k => k = b) w (w1.setCell ⟨b, 0, none⟩ v) := (Upd.of_below hb1).trans u (fun _ _ h => h)
  have hnb : ∀ r, r ∈ T → r.blk ≠ b := fun r hr => by
    obtain ⟨-, q, hq, e⟩ := hTk r hr
    rw [e]; exact hR.nb q hq
  have hrow2 : (w1.setCell ⟨b, 0, none⟩ v).ownsRow w.heap.size 59 2 v T.length (rcells T) := u.row' hrow (fun k hk e => by have := (hrow.lt k hk).1; omega)
  obtain ⟨a', c', e, hps, hba⟩ := ps_row hrow2 (fun r hr => ⟨(hTk r hr).1.bs.upd hU (hnb r hr), (hTk r hr).1.ne, (hTk r hr).1.cp, (hTk r hr).1.le⟩) hl
  refine ⟨a', c', e, ⟨?_, hps, hnb, fun ad ha => by have := hba ad ha; omega⟩, fun k hk => ?_, hU⟩
  · rw [setCell_eq_setRow w1 b 0 _ _ _ v hob, setRow_heap w1 b _ _ _ _ hob, e]; rfl
  · rcases hk with rfl | ⟨-, ad, ha, rfl⟩ | ⟨r, hr, rfl⟩
    · exact .inl (.inl rfl)
    · exact .inr (hba ad ha)
    · obtain ⟨-, q, hq, e2⟩ := hTk r hr
      exact .inl (.inr (.inr ⟨q, hq, e2.symm⟩))
theorem robj_size {w : World} {b N : Nat} {a : Option Addr} {c : Nat} {R : List RP} (hR : RObj w b N a c R) (M : Nat) : RObj (w.setCell ⟨b, 1, none⟩ (.int .i64 M)) b M a c R ∧ Upd (fun k => k = b) w (w.setCell ⟨b, 1, none⟩ (.int .i64 M)) := by
  have u : Upd (fun k => k = b) w (w.setCell ⟨b, 1, none⟩ (.int .i64 M)) := Upd.setCell (F := fun k => k = b) (p := ⟨b, 1, none⟩) rfl _
  refine ⟨⟨?_, hR.ps.upd u (fun _ => hR.na) hR.nb, hR.nb, hR.na⟩, u⟩
  rw [setCell_eq_setRow w b 1 _ _ _ _ hR.obj, setRow_heap w b _ _ _ _ hR.obj]; rfl

/-- A fact that no walk opens. -/
def BoolIs (p : Prop) : Prop := p

theorem held_taken {x y : Nat} (h : x < y) (R : List RP) : heldR (takenR x y R) = heldOf (pls R) - ovls x y (pls R) := by
  unfold heldR
  rw [takenR_pls]
  have := takenP_held h (pls R)
  omega

theorem inv_laid {N x : Nat} {L L' : List Piece} {l : List UInt8} (h : Inv N L) (hL : Laid L L' x l) (hx : x + l.length ≤ 1073741824) (hh : heldOf L - ovls x (x + l.length) L + l.length ≤ 4194304) : Inv (max N (x + l.length)) L' := by
  refine ⟨hL.sep, hL.ne, fun d hd => ?_, by have := h.size; omega, by have := hL.held; omega⟩
  rcases hL.fin d hd with h1 | ⟨e, he, h1⟩
  · omega
  · have := h.fin e he; omega
theorem inv_erased {N M x y : Nat} {L L' : List Piece} (h : Inv N L) (hE : Erased L L' x y) (hM : M ≤ 1073741824) (hf : ∀ d, d ∈ L' → d.fin ≤ M) : Inv M L' :=
  ⟨hE.sep, hE.ne, hf, hM, by have := hE.held; have := h.held; omega⟩

set_option maxHeartbeats 1000000 in
theorem putRef_all (b N : Nat) (a : Option Addr) (c : Nat) (R : List RP) (x : Int) (ba : Option Addr) (l : List UInt8) (bc : Nat) (w : World) (hR : RRep w b N a c R) (hbs : BsAt w ba l) (hx : x ≤ 9223372036854775807) (hl : l.length ≤ 4611686018427387904) :
    Calls Try.prog 27 #[.pointer (some ⟨b, 0, none⟩), .int .i64 x, .slice ba l.length bc] w fun e w' => ∃ r N' a' c' R', e = .returned (.int .i64 r) ∧ PutR N (pls R) x l r N' (pls R') ∧ RRep w' b N' a' c' R' ∧ RGrew b a R w a' R' ∧ Upd (fun k => k = b) w w' := by
  by_cases h0 : x < 0
  · go_enter Try.func27, Try.ntmps27
    go_wp2
    go_ret
    exact ⟨2, N, a, c, R, rfl, .inl ⟨h0, rfl, rfl, rfl⟩, hR, RGrew.refl _ _ _ _, Upd.refl _ _⟩
  by_cases hn : l = []
  · subst hn
    have Q1 : Calls Try.prog 27 #[.pointer (some ⟨b, 0, none⟩), .int .i64 x, .slice ba ([] : List UInt8).length bc] w fun e w' => e = .returned (.int .i64 0) ∧ w' = w := by
      clear hR hbs
      go_enter Try.func27, Try.ntmps27
      go_wp2
      go_ret
      exact ⟨rfl, rfl⟩
    refine Q1.mono ?_
    rintro e w' ⟨rfl, rfl⟩
    exact ⟨0, N, a, c, R, rfl, .inr (.inl ⟨by omega, rfl, rfl, rfl, rfl⟩), hR, RGrew.refl _ _ _ _, Upd.refl _ _⟩
  have hpos : 0 < l.length := List.length_pos_iff.2 hn
  have hz : ¬ ((l.length : Int) = 0) := by omega
  have hz2 : ¬ (l.length = 0) := by omega
  by_cases hf : 1073741824 < x + l.length
  · have t1 : 1073741824 - (l.length : Int) < x := by omega
    have Q1 : Calls Try.prog 27 #[.pointer (some ⟨b, 0, none⟩), .int .i64 x, .slice ba l.length bc] w fun e w' => e = .returned (.int .i64 3) ∧ w' = w := by
      clear hR hbs hn
      go_enter Try.func27, Try.ntmps27
      go_wp2
      go_ret
      exact ⟨rfl, rfl⟩
    refine Q1.mono ?_
    rintro e w' ⟨rfl, rfl⟩
    exact ⟨3, N, a, c, R, rfl, .inr (.inr (.inl ⟨by omega, hn, .inl hf, rfl, rfl, rfl⟩)), hR, RGrew.refl _ _ _ _, Upd.refl _ _⟩
  obtain ⟨y, rfl⟩ : ∃ y : Nat, x = y := ⟨x.toNat, by omega⟩
  have t1 : ¬ (1073741824 - (l.length : Int) < (y : Int)) := by omega
  have hlen := hR.len
  have hhd := hR.inv.held
  have T1 := takenRef_walk b N a c R y (y + l.length) w hR.obj.ref (by omega) (by omega) hlen
  rw [Int.natCast_add] at T1
  have HT1 := aside T1
  have hTh := held_taken (x := y) (y := y + l.length) (by omega) R
  have hTl := takenR_len y (y + l.length) R
  have hTk : ∀ r, r ∈ takenR y (y + l.length) R → PcOk w r ∧ ∃ q, q ∈ R ∧ r.blk = q.blk := fun r hr => takenR_ok (fun q hq => hR.obj.ps.ok hq) (by omega) hr
  generalize takenR y (y + l.length) R = T at *
  have HTK := aside hTk
  have HR := aside hR
  have HBS := aside hbs
  have hov : ovls y (y + l.length) (pls R) ≤ heldOf (pls R) := by have := takenP_held (x := y) (y := y + l.length) (by omega) (pls R); omega
  have HTH := aside hTh
  have HOV := aside hov
  clear T1 hR hbs hTk hTh hov
  go_enter Try.func27, Try.ntmps27
  go_wp2_with fail
  refine HT1.out.mono ?_
  rintro e w1 ⟨v, rfl, hrow, hb1⟩
  obtain ⟨aT, cT, rfl, hps, -⟩ := ps_row hrow (fun r hr => (HTK.out r hr).1.below hb1) (by omega)
  have HB1 := aside hb1
  have HH := aside (heldRef_any aT cT T w1 hps)
  clear hrow hb1 hps
  go_wp2_with fail
  refine HH.out.mono ?_
  rintro e w2 ⟨rfl, rfl⟩
  rw [HTH.out]
  obtain ⟨hd, hhde⟩ : ∃ hd : Nat, hd = heldOf (pls R) - ovls y (y + l.length) (pls R) := ⟨_, rfl⟩
  rw [← hhde]
  have hdb : hd ≤ 4194304 := by omega
  have HDE := aside hhde
  clear hhde
  by_cases hh : 4194304 < hd + l.length
  · have t2 : (4194304 : Int) < (hd : Int) + (l.length : Int) := by omega
    go_wp2_with fail
    go_ret
    refine ⟨3, N, a, c, R, rfl, .inr (.inr (.inl ⟨by omega, hn, .inr ?_, rfl, rfl, rfl⟩)), ⟨HR.out.obj.below HB1.out, HR.out.inv⟩, RGrew.refl _ _ _ _, Upd.of_below HB1.out⟩
    have := HDE.out
    rw [Int.toNat_natCast]
    omega
  · have t2 : ¬ ((4194304 : Int) < (hd : Int) + (l.length : Int)) := by omega
    have LY := aside (layRef_walk b N a c R y ba l bc w2 (HR.out.obj.below HB1.out) hlen HR.out.inv.sep hhd (HBS.out.below HB1.out) hpos (by omega) (by omega))
    go_wp2_with fail
    refine LY.out.mono ?_
    rintro e w3 ⟨rfl, a', c', R', hR', hL, hG, hu⟩
    obtain ⟨-, c1, -, f1⟩ := hR'.cells
    have hmx : max (N : Int) ((y : Int) + (l.length : Int)) = ((max N (y + l.length) : Nat) : Int) := by omega
    have HMX := aside hmx
    have RS := aside (robj_size hR' (max N (y + l.length)))
    have HL := aside hL
    have HG := aside hG
    have HU := aside hu
    clear hmx hR' hL hG hu
    go_wp2_with ((with_reducible refine wpList_max2 _ rfl _ _ _ rfl (N : Int) ((y : Int) + (l.length : Int)) ((max N (y + l.length) : Nat) : Int) ?_ ?_ HMX.out ?_); rfl; rfl)
    go_ret
    have hcond : heldOf (pls R) - ovls y (y + l.length) (pls R) + l.length ≤ 4194304 := by have := HDE.out; omega
    refine ⟨0, max N (y + l.length), a', c', R', rfl, .inr (.inr (.inr ⟨by omega, hn, by omega, by rw [Int.toNat_natCast]; exact hcond, rfl, by rw [Int.toNat_natCast], by rw [Int.toNat_natCast]; exact HL.out⟩)), ⟨RS.out.1, inv_laid HR.out.inv HL.out (by omega) hcond⟩, fun k hk => ?_, ((Upd.of_below HB1.out).trans HU.out (fun _ _ h => h)).trans RS.out.2 (fun _ _ h => h)⟩
    rcases HG.out k hk with h | h
    · exact .inl h
    · exact .inr (Nat.le_trans HB1.out.size h)

set_option maxHeartbeats 1000000 in
theorem cutRef_all (b N : Nat) (a : Option Addr) (c : Nat) (R : List RP) (x : Int) (w : World) (hR : RRep w b N a c R) :
    Calls Try.prog 29 #[.pointer (some ⟨b, 0, none⟩), .int .i64 x] w fun e w' => ∃ r N' a' c' R', e = .returned (.int .i64 r) ∧ CutR N (pls R) x r N' (pls R') ∧ RRep w' b N' a' c' R' ∧ RGrew b a R w a' R' ∧ Upd (fun k => k = b) w w' := by
  by_cases h0 : x < 0
  · have Q1 : Calls Try.prog 29 #[.pointer (some ⟨b, 0, none⟩), .int .i64 x] w fun e w' => e = .returned (.int .i64 2) ∧ w' = w := by
      clear hR
      go_enter Try.func29, Try.ntmps29
      go_wp2
      go_ret
      exact ⟨rfl, rfl⟩
    refine Q1.mono ?_
    rintro e w' ⟨rfl, rfl⟩
    exact ⟨2, N, a, c, R, rfl, .inl ⟨h0, rfl, rfl, rfl⟩, hR, RGrew.refl _ _ _ _, Upd.refl _ _⟩
  by_cases h1 : 1073741824 < x
  · have Q1 : Calls Try.prog 29 #[.pointer (some ⟨b, 0, none⟩), .int .i64 x] w fun e w' => e = .returned (.int .i64 3) ∧ w' = w := by
      clear hR
      go_enter Try.func29, Try.ntmps29
      go_wp2
      go_ret
      exact ⟨rfl, rfl⟩
    refine Q1.mono ?_
    rintro e w' ⟨rfl, rfl⟩
    exact ⟨3, N, a, c, R, rfl, .inr (.inl ⟨h1, rfl, rfl, rfl⟩), hR, RGrew.refl _ _ _ _, Upd.refl _ _⟩
  obtain ⟨y, rfl⟩ : ∃ y : Nat, x = y := ⟨x.toNat, by omega⟩
  have hN := hR.inv.size
  obtain ⟨c0, c1, f0, f1⟩ := hR.obj.cells
  have key : Calls Try.prog 29 #[.pointer (some ⟨b, 0, none⟩), .int .i64 (y : Int)] w fun e w' => e = .returned (.int .i64 0) ∧ BoolIs (∃ a' c' R', RObj w' b y a' c' R' ∧ Erased (pls R) (pls R') y N ∧ RGrew b a R w a' R' ∧ Upd (fun k => k = b) w w') := by
    by_cases h2 : y < N
    · have t1 : (y : Int) < (N : Int) := by omega
      have hlen := hR.len
      have T1 := aside (takenRef_walk b N a c R y N w hR.obj.ref (by omega) (by omega) hlen)
      have hTl := takenR_len y N R
      have hTp := takenR_pls y N R
      have hTk : ∀ r, r ∈ takenR y N R → PcOk w r ∧ ∃ q, q ∈ R ∧ r.blk = q.blk := fun r hr => takenR_ok (fun q hq => hR.obj.ps.ok hq) (by omega) hr
      have hE := taken_erased (x := y) (y := N) hR.inv.sep hR.inv.ne h2
      rw [← hTp] at hE
      generalize takenR y N R = T at *
      have HTK := aside hTk
      have HR := aside hR
      have HE := aside hE
      clear hR hTk hTp hE
      go_enter Try.func29, Try.ntmps29
      go_wp2_with fail
      refine T1.out.mono ?_
      rintro e w1 ⟨v, rfl, hrow, hb1⟩
      obtain ⟨a', c', rfl, hO, hG, hU⟩ := robj_list HR.out.obj hb1 hrow HTK.out (by omega)
      have ho1 := HR.out.obj.below hb1
      obtain ⟨d0, -, g0, -⟩ := ho1.cells
      obtain ⟨-, e1, -, g1⟩ := hO.cells
      have RS := aside (robj_size hO y)
      have HG := aside hG
      have HU := aside hU
      clear hrow hb1 ho1 hO hG hU
      go_wp2_with fail
      go_ret
      exact ⟨rfl, a', c', T, RS.out.1, HE.out, HG.out, HU.out.trans RS.out.2 (fun _ _ h => h)⟩
    · have t1 : ¬ ((y : Int) < (N : Int)) := by omega
      have RS := aside (robj_size hR.obj y)
      have HE := aside (erased_none hR.inv (x := y) (y := N) (by omega))
      clear hR
      go_enter Try.func29, Try.ntmps29
      go_wp2_with fail
      go_ret
      exact ⟨rfl, a, c, R, RS.out.1, HE.out, RGrew.refl _ _ _ _, RS.out.2⟩
  refine key.mono ?_
  rintro e w' ⟨rfl, a', c', R', h1, h2, h3, h4⟩
  refine ⟨0, y, a', c', R', rfl, .inr (.inr ⟨by omega, by omega, rfl, by omega, by rw [Int.toNat_natCast]; exact h2⟩), ⟨h1, inv_erased hR.inv h2 (by omega) fun d hd => ?_⟩, h3, h4⟩
  obtain ⟨e, he, k1, k2, k3⟩ := h2.inn d hd
  have k4 := hR.inv.fin e he
  have k5 := h2.ne d hd
  have k6 : d.fin = d.org + d.bs.length := rfl
  omega

set_option maxHeartbeats 1000000 in
theorem punchRef_all (b N : Nat) (a : Option Addr) (c : Nat) (R : List RP) (x n : Int) (w : World) (hR : RRep w b N a c R) :
    Calls Try.prog 30 #[.pointer (some ⟨b, 0, none⟩), .int .i64 x, .int .i64 n] w fun e w' => ∃ r N' a' c' R', e = .returned (.int .i64 r) ∧ PunchR N (pls R) x n r N' (pls R') ∧ RRep w' b N' a' c' R' ∧ RGrew b a R w a' R' ∧ Upd (fun k => k = b) w w' := by
  by_cases h0 : x < 0 ∨ n < 0
  · have Q1 : Calls Try.prog 30 #[.pointer (some ⟨b, 0, none⟩), .int .i64 x, .int .i64 n] w fun e w' => e = .returned (.int .i64 2) ∧ w' = w := by
      clear hR
      by_cases h1 : x < 0
      · have d1 : decide (x < 0) = true := by simpa using h1
        go_enter Try.func30, Try.ntmps30
        go_wp2
        go_ret
        exact ⟨rfl, rfl⟩
      · have d1 : decide (x < 0) = false := by simpa using h1
        have d2 : decide (n < 0) = true := by simp; omega
        go_enter Try.func30, Try.ntmps30
        go_wp2
        go_ret
        exact ⟨rfl, rfl⟩
    refine Q1.mono ?_
    rintro e w' ⟨rfl, rfl⟩
    exact ⟨2, N, a, c, R, rfl, .inl ⟨h0, rfl, rfl, rfl⟩, hR, RGrew.refl _ _ _ _, Upd.refl _ _⟩
  obtain ⟨y, rfl⟩ : ∃ y : Nat, x = y := ⟨x.toNat, by omega⟩
  obtain ⟨m, rfl⟩ : ∃ m : Nat, n = m := ⟨n.toNat, by omega⟩
  have d1 : decide ((y : Int) < 0) = false := by simp
  have d2 : decide ((m : Int) < 0) = false := by simp
  have hN := hR.inv.size
  obtain ⟨c0, c1, f0, f1⟩ := hR.obj.cells
  by_cases h1 : N ≤ y ∨ m = 0
  · have Q1 : Calls Try.prog 30 #[.pointer (some ⟨b, 0, none⟩), .int .i64 (y : Int), .int .i64 (m : Int)] w fun e w' => e = .returned (.int .i64 0) ∧ w' = w := by
      clear hR
      by_cases h2 : N ≤ y
      · have d3 : decide ((N : Int) ≤ (y : Int)) = true := by simp; omega
        have d4 : decide (N ≤ y) = true := by simpa using h2
        go_enter Try.func30, Try.ntmps30
        go_wp2
        go_ret
        exact ⟨rfl, rfl⟩
      · have d3 : decide ((N : Int) ≤ (y : Int)) = false := by simp; omega
        have d4 : decide (N ≤ y) = false := by simpa using h2
        obtain rfl : m = 0 := by omega
        go_enter Try.func30, Try.ntmps30
        go_wp2
        go_ret
        exact ⟨rfl, rfl⟩
    refine Q1.mono ?_
    rintro e w' ⟨rfl, rfl⟩
    exact ⟨0, N, a, c, R, rfl, .inr ⟨by omega, by omega, rfl, rfl, erased_none hR.inv (by simp only [Int.toNat_natCast]; omega)⟩, hR, RGrew.refl _ _ _ _, Upd.refl _ _⟩
  · have d3 : decide ((N : Int) ≤ (y : Int)) = false := by simp; omega
    have d4 : decide (N ≤ y) = false := by simp; omega
    have d5 : ¬ ((m : Int) = 0) := by omega
    have d6 : ¬ (m = 0) := by omega
    have hlen := hR.len
    obtain ⟨z, hz⟩ : ∃ z : Nat, z = min m (N - y) := ⟨_, rfl⟩
    have hmn : min (m : Int) ((N : Int) - (y : Int)) = (z : Int) := by omega
    have T1 := takenRef_walk b N a c R y (y + z) w hR.obj.ref (by omega) (by omega) hlen
    rw [Int.natCast_add] at T1
    have T1 := aside T1
    have hTl := takenR_len y (y + z) R
    have hTp := takenR_pls y (y + z) R
    have hTk : ∀ r, r ∈ takenR y (y + z) R → PcOk w r ∧ ∃ q, q ∈ R ∧ r.blk = q.blk := fun r hr => takenR_ok (fun q hq => hR.obj.ps.ok hq) (by omega) hr
    have hE := taken_erased (x := y) (y := y + z) hR.inv.sep hR.inv.ne (by omega)
    rw [← hTp] at hE
    generalize takenR y (y + z) R = T at *
    have HTK := aside hTk
    have HR := aside hR
    have HE := aside hE
    have HMN := aside hmn
    have HZ := aside hz
    have hzN : y + z ≤ N := by omega
    clear hTk hTp hE hmn hz
    have key : Calls Try.prog 30 #[.pointer (some ⟨b, 0, none⟩), .int .i64 (y : Int), .int .i64 (m : Int)] w fun e w' => e = .returned (.int .i64 0) ∧ BoolIs (∃ a' c', RObj w' b N a' c' T ∧ RGrew b a R w a' T ∧ Upd (fun k => k = b) w w') := by
      clear hR
      go_enter Try.func30, Try.ntmps30
      go_wp2_with ((with_reducible refine wpList_min2 _ rfl _ _ _ rfl (m : Int) ((N : Int) - (y : Int)) (z : Int) ?_ ?_ HMN.out ?_); rfl; rfl)
      refine T1.out.mono ?_
      rintro e w1 ⟨v, rfl, hrow, hb1⟩
      obtain ⟨a', c', rfl, hO, hG, hU⟩ := robj_list HR.out.obj hb1 hrow HTK.out (by omega)
      have ho1 := HR.out.obj.below hb1
      obtain ⟨d0, -, g0, -⟩ := ho1.cells
      have RS := aside hO
      have HG := aside hG
      have HU := aside hU
      clear hrow hb1 ho1 hO hG hU
      go_wp2_with fail
      go_ret
      exact ⟨rfl, a', c', RS.out, HG.out, HU.out⟩
    refine key.mono ?_
    rintro e w' ⟨rfl, a', c', h1, h3, h4⟩
    refine ⟨0, N, a', c', T, rfl, .inr ⟨by omega, by omega, rfl, rfl, by simp only [Int.toNat_natCast]; rw [← HZ.out]; exact HE.out⟩, ⟨h1, inv_erased hR.inv HE.out hN fun d hd => ?_⟩, h3, h4⟩
    obtain ⟨e, he, k1, k2, k3⟩ := HE.out.inn d hd
    have k4 := hR.inv.fin e he
    omega
end Go.Proofs.Ytkekaljcbmkomaa

namespace Go.Proofs.Ytkekaljcbmkomaa
open Go.RowKit
attribute [local simp] lcells_nil readB_length bcells_length

theorem layNone_any (p : Value) (x : Int) (ba : Option Addr) (bc : Nat) (w : World) : Calls Try.prog 25 #[p, .int .i64 x, .slice ba 0 bc] w fun e w' => e = .returned (.tuple #[]) ∧ w' = w := by
  go_enter Try.func25, Try.ntmps25
  go_wp2
  refine bodyPost_ret (results_none rfl _ _ _) rfl ?_
  exact ⟨rfl, rfl⟩

theorem laid_first {L : List Piece} {l : List UInt8} (h0 : 0 < l.length) (h : Laid [] L 0 l) : ct L = [(0, l)] := by
  have k := lay_laid (L := []) (x := 0) (l := l) (by simp) (by simp) h0 ⟨0, 0, 0, l⟩ (by simp [takenP, lfP]) (by simp [takenP, lfP, rtP])
  have e := laid_ct h k rfl
  rw [e]
  simp [takenP, ahP, bhP, ct]

theorem robj_new (w : World) (N : Nat) : RObj (w.alloc (.cells #[.slice none 0 0, .int .i64 N] 53)) w.heap.size N none 0 [] :=
  ⟨heap_alloc_new w _, ⟨fun h => absurd rfl h, by simp, by simp, by simp, by simp⟩, by simp, by simp⟩

set_option maxHeartbeats 1000000 in
theorem newRef_all (ba : Option Addr) (l : List UInt8) (bc : Nat) (w : World) (hbs : BsAt w ba l) (hl : l.length ≤ 4194304) :
    Calls Try.prog 12 #[.slice ba l.length bc] w fun e w' => e = .returned (.pointer (some ⟨w.heap.size, 0, none⟩)) ∧ BoolIs (∃ a c R, RRep w' w.heap.size l.length a c R ∧ ct (pls R) = ini l ∧ (∀ k, RFoot w.heap.size a R k → w.heap.size ≤ k) ∧ Below w.heap.size w w') := by
  have t1 : ¬ ((4194304 : Int) < l.length) := by omega
  have t2 : ¬ (4194304 < l.length) := by omega
  have hA := below_al w (.cells #[.slice none 0 0, .int .i64 l.length] 53)
  have ini_eq : ini l = if l = [] then [] else [(0, l)] := by unfold ini; rw [List.take_of_length_le hl]
  by_cases hn : l = []
  · subst hn
    have HO := aside (robj_new w 0)
    have HA := aside hA
    clear hA hbs
    go_enter Try.func12, Try.ntmps12
    go_wp2_with fail
    refine (layNone_any _ _ _ _ _).mono ?_
    rintro e w' ⟨rfl, rfl⟩
    go_wp2_with fail
    go_ret
    refine ⟨rfl, none, 0, [], ⟨HO.out, ⟨by simp [pls], by simp [pls], by simp [pls], by simp, by simp [pls, heldOf]⟩⟩, by rw [ini_eq]; simp [pls, ct], fun k hk => ?_, HA.out⟩
    rcases hk with rfl | ⟨-, ad, h, -⟩ | ⟨r, h, -⟩
    · exact Nat.le_refl _
    · cases h
    · simp at h
  · have hpos : 0 < l.length := List.length_pos_iff.2 hn
    have HA := aside hA
    have LY := aside (layRef_walk w.heap.size l.length none 0 [] 0 ba l bc _ (robj_new w l.length) (by simp) (by simp [pls]) (by simp [heldR, pls, heldOf]) (hbs.below hA) hpos hl (by omega))
    clear hA hbs
    go_enter Try.func12, Try.ntmps12
    go_wp2_with fail
    refine LY.out.mono ?_
    rintro e w1 ⟨rfl, a, c, R, hO, hL, hG, hu⟩
    have HO := aside hO
    have HL := aside hL
    have HG := aside hG
    have HU := aside hu
    clear hO hL hG hu
    go_wp2_with fail
    go_ret
    have hL : Laid [] (pls R) 0 l := HL.out
    refine ⟨rfl, a, c, R, ⟨HO.out, ⟨hL.sep, hL.ne, fun d hd => ?_, by omega, ?_⟩⟩, ?_, fun k hk => ?_, HA.out.trans (HU.out.below HA.out.size (fun k hk => by omega))⟩
    · rcases hL.fin d hd with h | ⟨e, he, -⟩
      · omega
      · simp at he
    · have := hL.held
      simp [heldOf, ovls] at this
      unfold heldOf
      omega
    · rw [ini_eq, if_neg hn]; exact laid_first hpos hL
    · rcases HG.out k hk with h | h
      · rcases h with rfl | ⟨-, ad, h, -⟩ | ⟨r, h, -⟩
        · exact Nat.le_refl _
        · cases h
        · simp at h
      · exact Nat.le_trans HA.out.size h

theorem read_skip {A : List Piece} {d : Piece} {x m : Nat} (h : d.fin ≤ x ∨ x + m ≤ d.org ∨ m = 0) : readB (A ++ [d]) x m = readB A x m := by
  apply List.map_congr_left
  intro i hi
  have hi := List.mem_range.1 hi
  rw [byteAt_append_left (fun e he => by rw [List.mem_singleton] at he; subst he; omega)]

theorem copy_rp (W : World) (ty : TypeId) (c1 c2 g : Nat) (A : List Piece) (r : RP) (x m lo lo2 cnt : Nat) (hbs : BsAt W (some ⟨r.blk, r.off, none⟩) r.bs) (hout : W.heap[g]? = some (.cells (bcells (readB A x m)).toArray 5 (0, 0)))
    (hA : ∀ e, e ∈ A → e.fin ≤ r.at_) (h1 : x < r.at_ + r.bs.length) (h2 : r.at_ < x + m) (hlo : max x r.at_ - x = lo) (hlo2 : max x r.at_ - r.at_ = lo2) (hcnt : cnt = min (m - lo) (r.bs.length - lo2)) :
    (Builtin.copy_ #[22, 22] ty #[.slice (some ⟨g, lo, none⟩) cnt c1, .slice (some ⟨r.blk, r.off + lo2, none⟩) cnt c2]).run Try.prog W = .ok (goInt (cnt : Int)) (W.setRow g (bcells (readB (A ++ [r.pl]) x m)).toArray) := by
  have hsp := read_splice (A := A) (d := r.pl) (x := x) (m := m) hA h1 (.inl h2)
  have hsp2 : splice (readB A x m) lo ((r.bs.drop lo2).take (m - lo)) = readB (A ++ [r.pl]) x m := by rw [← hlo, ← hlo2]; exact hsp
  have hlen : ((r.bs.drop lo2).take (m - lo)).length = cnt := by rw [hcnt]; simp
  have := run_copy_bytes W ty (some ⟨g, lo, none⟩) (some ⟨r.blk, r.off + lo2, none⟩) cnt c1 cnt c2 g lo (bcells (readB A x m)) hout (bcells ((r.bs.drop lo2).take (m - lo))) (by rw [bcells_length, hlen]; omega)
    (fun hp => ⟨rfl, _, rfl, fun j v hj => by
      have hb := bs_take (m - lo) (bs_drop lo2 hbs)
      obtain ⟨ad, e, hc⟩ := hb (by intro e; rw [e] at hp; simp [bcells] at hp)
      cases e
      exact hc j v hj⟩) (by rw [bcells_length, bcells_length, hlen, readB_length]; omega) (bcells_one _)
  rw [this, bcells_splice, hsp2, bcells_length, hlen]

theorem getRefOut_any (b N : Nat) (x n : Int) (w : World) (hs : w.cell? ⟨b, 1, none⟩ = some (.int .i64 N)) (h : x < 0 ∨ n < 0 ∨ (N : Int) ≤ x) :
    Calls Try.prog 32 #[.pointer (some ⟨b, 0, none⟩), .int .i64 x, .int .i64 n] w fun e w' => e = .returned (.slice none 0 0) ∧ w' = w := by
  by_cases h1 : x < 0
  · have d1 : decide (x < 0) = true := by simpa using h1
    go_enter Try.func32, Try.ntmps32
    go_wp2
    go_ret
    exact ⟨rfl, rfl⟩
  · have d1 : decide (x < 0) = false := by simpa using h1
    by_cases h2 : n < 0
    · have d2 : decide (n < 0) = true := by simpa using h2
      go_enter Try.func32, Try.ntmps32
      go_wp2
      go_ret
      exact ⟨rfl, rfl⟩
    · have d2 : decide (n < 0) = false := by simpa using h2
      have h3 : (N : Int) ≤ x := by omega
      go_enter Try.func32, Try.ntmps32
      go_wp2
      go_ret
      exact ⟨rfl, rfl⟩

set_option maxHeartbeats 4000000 in
theorem getRef_walk (b N : Nat) (a : Option Addr) (c : Nat) (R : List RP) (x n : Nat) (w : World) (hR : RRep w b N a c R) (hx : x < N) (hn : n ≤ 4611686018427387904) :
    Calls Try.prog 32 #[.pointer (some ⟨b, 0, none⟩), .int .i64 x, .int .i64 n] w fun e w' => ∃ m, m = min n (min 65536 (N - x)) ∧ e = .returned (.slice (some ⟨w.heap.size, 0, none⟩) m m) ∧ w'.heap[w.heap.size]? = some (.cells (bcells (readB (pls R) x m)).toArray 5 (0, 0)) ∧ Below w.heap.size w w' := by
  have hN := hR.inv.size
  have g1 : decide ((x : Int) < 0) = false := by simp
  have g2 : decide ((n : Int) < 0) = false := by simp
  have g3 : decide ((N : Int) ≤ (x : Int)) = false := by simp; omega
  have g4 : decide (N ≤ x) = false := by simp; omega
  obtain ⟨m, hm⟩ : ∃ m, m = min n (min 65536 (N - x)) := ⟨_, rfl⟩
  obtain ⟨m1, hm1⟩ : ∃ m1, m1 = min n 65536 := ⟨_, rfl⟩
  have hmn : min (n : Int) 65536 = (m1 : Int) := by omega
  have hmk := fun w => make_bytes w m (by omega)
  have hmb : m ≤ 65536 := by omega
  have hmz : x + m ≤ N := by omega
  have HM := aside hm
  have HM1 := aside hm1
  have hm1b : m1 ≤ 65536 := by omega
  have HMN := aside hmn
  have hsep := hR.inv.sep
  have HSEP := aside hsep
  obtain ⟨c0, c1, -, -⟩ := hR.obj.cells
  have HR := aside hR
  have hlen := hR.len
  clear hm hm1 hmn hsep hR
  go_enter Try.func32, Try.ntmps32
  go_upto_if 35 with ((with_reducible refine wpList_min2 _ rfl _ _ _ rfl (n : Int) 65536 (m1 : Int) ?_ ?_ HMN.out ?_); rfl; rfl)
  go_cut [2] from 36 to 41 (fun s2 wc => s2 = .int .i64 m ∧ wc = w)
  case first =>
    by_cases hc : N - x < m1
    · have t1 : (N : Int) - (x : Int) < (m1 : Int) := by omega
      have e1 : (N : Int) - (x : Int) = (m : Int) := by have := HM.out; have := HM1.out; omega
      have E1 := aside e1
      clear e1
      go_wp2_with fail
      go_meet
      exact ⟨by rw [E1.out], rfl⟩
    · have t1 : ¬ ((N : Int) - (x : Int) < (m1 : Int)) := by omega
      have e1 : m1 = m := by have := HM.out; have := HM1.out; omega
      have E1 := aside e1
      clear e1
      go_wp2_with fail
      go_meet
      exact ⟨by rw [E1.out], rfl⟩
  case rest =>
    obtain ⟨rfl, hcw⟩ := hcut
    have hcw' := hcw.symm
    subst hcw'
    clear hcw
    go_wp2_with fail
    have hA := below_al w (.cells (bcells (List.replicate m 0)).toArray 5)
    go_loopw [8] (fun s8 wr => ∃ k : Nat, k ≤ R.length ∧ s8 = .int .i64 k ∧ wr.heap[w.heap.size]? = some (.cells (bcells (readB (pls (R.take k)) x m)).toArray 5 (0, 0)) ∧ Aside (Below w.heap.size w wr)) (fun s8 _ => R.length - (intOf s8).toNat)
    case atStart =>
      refine ⟨0, Nat.zero_le _, rfl, ?_, hA⟩
      rw [List.take_zero, show pls [] = [] from rfl, readB_nil]
      exact heap_alloc_new w _
    case round =>
      obtain ⟨k, hk, rfl, hout, hB⟩ := hrel
      have HRr := aside (HR.out.obj.below hB.out)
      obtain ⟨d0, d1, -, -⟩ := HRr.out.cells
      by_cases h1 : k < R.length
      · have t1 : (k : Int) < (R.length : Int) := by omega
        have hkm : R[k]? = some R[k] := List.getElem?_eq_getElem h1
        have hok := HRr.out.ps.ok (List.getElem_mem h1)
        obtain ⟨blk, off, rfl, hrd⟩ := HRr.out.ps.rd (by intro h; simp [h] at h1)
        obtain ⟨r0, r1⟩ := hrd k _ hkm
        clear hrd
        have TS := aside (show pls (R.take (k + 1)) = pls (R.take k) ++ [R[k].pl] by rw [take_snoc hkm]; unfold pls; rw [List.map_append]; rfl)
        have hsub : ∀ e, e ∈ pls (R.take k) → e.fin ≤ R[k].at_ := fun e he => by
          have hp := HSEP.out
          have e1 : pls R = pls (R.take k) ++ pls (R.drop k) := by unfold pls; rw [← List.map_append, List.take_append_drop]
          rw [e1, List.pairwise_append] at hp
          have hm2 : R[k].pl ∈ pls (R.drop k) := List.mem_map.2 ⟨R[k], by rw [List.mem_iff_getElem?]; exact ⟨0, by rw [List.getElem?_drop, Nat.add_zero, hkm]⟩, rfl⟩
          have := hp.2.2 e he _ hm2
          exact Nat.le_of_lt this
        clear hkm
        generalize R[k] = r at *
        have hle := hok.le
        have hne := hok.ne
        have hcp := hok.cp
        have HOK := aside hok
        have HSUB := aside hsub
        have HOUT := aside hout
        clear hok hsub hout
        have EN := aside (fun W => end_any r.at_ r.bs.length (some ⟨r.blk, r.off, none⟩) r.c W (by omega))
        obtain ⟨f, hf⟩ : ∃ f, f = max x r.at_ := ⟨_, rfl⟩
        obtain ⟨u, hu⟩ : ∃ u, u = min (x + m) (r.at_ + r.bs.length) := ⟨_, rfl⟩
        have hmf : max (x : Int) (r.at_ : Int) = (f : Int) := by omega
        have hmu : min ((x : Int) + (m : Int)) (((r.at_ + r.bs.length : Nat) : Int)) = (u : Int) := by omega
        have HMF := aside hmf
        have HMU := aside hmu
        have HF := aside hf
        have HU := aside hu
        have hfb : f ≤ 1073741824 := by omega
        have hub : u ≤ 1073741824 := by omega
        clear hf hu hmf hmu
        go_wp2_with ((with_reducible refine wpList_max2 _ rfl _ _ _ rfl (x : Int) (r.at_ : Int) (f : Int) ?_ ?_ HMF.out ?_); rfl; rfl)
        refine (EN.out _).mono ?_
        rintro e w1 ⟨rfl, hb1⟩
        have al := below_al wr (.cells #[.int .i64 r.at_, .slice (some ⟨r.blk, r.off, none⟩) r.bs.length r.c] 59)
        have hw1 := below_tr al hb1
        have bx : w1.heap[wr.heap.size]? = some (.cells #[.int .i64 r.at_, .slice (some ⟨r.blk, r.off, none⟩) r.bs.length r.c] 59 (0, 0)) := (hb1.block _ (by simp)).trans (heap_alloc_new wr _)
        have p0 : w1.cell? ⟨wr.heap.size, 0, none⟩ = some (.int .i64 r.at_) := by rw [cell_of_row _ _ 0 _ _ _ bx]; rfl
        have p1 : w1.cell? ⟨wr.heap.size, 1, none⟩ = some (.slice (some ⟨r.blk, r.off, none⟩) r.bs.length r.c) := by rw [cell_of_row _ _ 1 _ _ _ bx]; rfl
        have hgl : w.heap.size < wr.heap.size := (Array.getElem?_eq_some_iff.1 HOUT.out).1
        have B1 := aside (hB.out.trans (hw1.mono hB.out.size))
        have HW1 := aside hw1
        clear al hb1 hw1 bx r0 r1 d0 d1
        by_cases h2 : f < u
        · have t2 : (f : Int) < (u : Int) := by omega
          have q1 : x < r.at_ + r.bs.length := by have := HF.out; have := HU.out; omega
          have q2 : r.at_ < x + m := by have := HF.out; have := HU.out; omega
          obtain ⟨lo, hlo⟩ : ∃ lo : Nat, (f : Int) - (x : Int) = (lo : Int) := ⟨f - x, by have := HF.out; omega⟩
          obtain ⟨hi, hhi⟩ : ∃ hi : Nat, (u : Int) - (x : Int) = (hi : Int) := ⟨u - x, by have := HF.out; omega⟩
          obtain ⟨lo2, hlo2⟩ : ∃ lo2 : Nat, (f : Int) - (r.at_ : Int) = (lo2 : Int) := ⟨f - r.at_, by have := HF.out; omega⟩
          obtain ⟨hi2, hhi2⟩ : ∃ hi2 : Nat, (u : Int) - (r.at_ : Int) = (hi2 : Int) := ⟨u - r.at_, by have := HF.out; omega⟩
          have k1 : lo < hi := by omega
          have k2 : hi ≤ m := by have := HU.out; omega
          have k3 : lo2 < hi2 := by omega
          have k4 : hi2 ≤ r.c := by have := HU.out; omega
          have w1' : IntKind.i64.wrap (lo : Int) = (lo : Int) := by rw [IntKind.wrap_i64]; omega
          have w2' : IntKind.i64.wrap (hi : Int) = (hi : Int) := by rw [IntKind.wrap_i64]; omega
          have w3' : IntKind.i64.wrap (lo2 : Int) = (lo2 : Int) := by rw [IntKind.wrap_i64]; omega
          have w4' : IntKind.i64.wrap (hi2 : Int) = (hi2 : Int) := by rw [IntKind.wrap_i64]; omega
          have i1 : (lo : Int) ≤ (hi : Int) := by omega
          have i2 : (hi : Int) ≤ (m : Int) := by omega
          have i3 : (lo2 : Int) ≤ (hi2 : Int) := by omega
          have i4 : (hi2 : Int) ≤ (r.c : Int) := by omega
          have n1 : lo ≤ hi := by omega
          have n3 : lo2 ≤ hi2 := by omega
          have z1 : ¬ (m = lo) := by omega
          have z2 : ¬ (r.c = lo2) := by omega
          have hee : hi2 - lo2 = hi - lo := by omega
          have hcp2 : ∀ ty W, Below wr.heap.size wr W → ∀ c1 c2, (Builtin.copy_ #[22, 22] ty #[.slice (some ⟨w.heap.size, lo, none⟩) (hi - lo) c1, .slice (some ⟨r.blk, r.off + lo2, none⟩) (hi2 - lo2) c2]).run Try.prog W = .ok (goInt ((hi - lo : Nat) : Int)) (W.setRow w.heap.size (bcells (readB (pls (R.take (k + 1))) x m)).toArray) := by
            intro ty W hW c1 c2
            rw [TS.out, hee]
            exact copy_rp W ty c1 c2 w.heap.size (pls (R.take k)) r x m lo lo2 (hi - lo) (HOK.out.bs.below hW) ((hW.block _ hgl).trans HOUT.out) HSUB.out q1 q2 (by rw [← HF.out]; omega) (by rw [← HF.out]; omega) (by have := HF.out; have := HU.out; omega)
          have HCP := aside hcp2
          have HB1 := aside (HW1.out.drew)
          clear hcp2 hee q1 q2
          go_wp2_with ((with_reducible refine wpList_min2 _ rfl _ _ _ rfl ((x : Int) + (m : Int)) (((r.at_ + r.bs.length : Nat) : Int)) (u : Int) ?_ ?_ HMU.out ?_); rfl; rfl)
          go_region_law (refine step_copy_to rfl _ _ 22 22 rfl _ _ (by simp [Act.eval, Act.put]; rfl) (by simp [Act.eval, Act.put]; rfl) (HCP.out _ _ HB1.out _ _) ?_)
          all_goals
            go_wp2_with fail
            go_roundw
            case rel => exact ⟨k + 1, by omega, by go_num, setRow_heap _ _ _ _ _ _ ((HB1.out.block _ hgl).trans HOUT.out), below_setRow_new (hB.out.trans (HB1.out.mono hB.out.size)) (Nat.le_refl _) _⟩
            case measure => simp [intOf]; omega
        · have t2 : ¬ ((f : Int) < (u : Int)) := by omega
          have hs := aside (read_skip (A := pls (R.take k)) (d := r.pl) (x := x) (m := m) (by have := HF.out; have := HU.out; have : r.pl.fin = r.at_ + r.bs.length := rfl; have : r.pl.org = r.at_ := rfl; omega))
          go_wp2_with ((with_reducible refine wpList_min2 _ rfl _ _ _ rfl ((x : Int) + (m : Int)) (((r.at_ + r.bs.length : Nat) : Int)) (u : Int) ?_ ?_ HMU.out ?_); rfl; rfl)
          go_roundw
          case rel => exact ⟨k + 1, by omega, by go_num, by rw [TS.out, hs.out]; exact (HW1.out.block _ hgl).trans HOUT.out, B1⟩
          case measure => simp [intOf]; omega
      · obtain rfl : k = R.length := by omega
        have t1 : ¬ ((R.length : Int) < (R.length : Int)) := by omega
        rw [List.take_length] at hout
        have HOUT := aside hout
        clear hout
        go_wp2_with fail
        go_ret
        rw [← HM.out]
        exact ⟨rfl, HOUT.out, hB.out⟩
end Go.Proofs.Ytkekaljcbmkomaa

namespace Go.Proofs.Ytkekaljcbmkomaa
open Go.RowKit
attribute [local simp] lcells_nil readB_length bcells_length

theorem getRef_all (b N : Nat) (a : Option Addr) (c : Nat) (R : List RP) (x n : Int) (w : World) (hR : RRep w b N a c R) (hn : n ≤ 4611686018427387904) :
    Calls Try.prog 32 #[.pointer (some ⟨b, 0, none⟩), .int .i64 x, .int .i64 n] w fun e w' => ∃ a' c', e = .returned (.slice a' (getL (pls R) N x n).length c') ∧ NewB w' w.heap.size a' (getL (pls R) N x n) ∧ Below w.heap.size w w' := by
  by_cases h : x < 0 ∨ n < 0 ∨ (N : Int) ≤ x
  · refine (getRefOut_any b N x n w hR.obj.cells.2.1 h).mono ?_
    rintro e w' ⟨rfl, rfl⟩
    have e1 : getL (pls R) N x n = [] := by unfold getL; rw [if_pos h]
    rw [e1]
    exact ⟨none, 0, rfl, .inl rfl, Below.refl _ _⟩
  · obtain ⟨y, rfl⟩ : ∃ y : Nat, x = y := ⟨x.toNat, by omega⟩
    obtain ⟨m, rfl⟩ : ∃ m : Nat, n = m := ⟨n.toNat, by omega⟩
    have e1 : getL (pls R) N y m = readB (pls R) y (min m (min 65536 (N - y))) := by unfold getL; rw [if_neg h]; simp
    rw [e1, readB_length]
    refine (getRef_walk b N a c R y m w hR (by omega) (by omega)).mono ?_
    rintro e w' ⟨q, rfl, rfl, hh, hb⟩
    exact ⟨_, _, rfl, .inr ⟨rfl, hh⟩, hb⟩

theorem step_append_any {ops : Array Oper} {o : Oper} {a : Act} {w : World} {K : Act → World → Prop} {Q : Exit → Act → World → Prop} {E : Prop} (hgd : o.guard = none) (s x : Operand) (t : TypeId)
    (ho : o.op = .call { callee := .builtin .append, args := #[s, x], argTypes := #[t, t] }) (e : TypeId) (z : Value) (size bytes : Nat) (ht : Try.prog.underlying t = some (.slice e)) (hinfo : (Try.prog.info? e).map (fun i => (i.zero, i.size, i.bytes)) = some (some z, size, bytes))
    (hzs : z.cells.size = size) (hsz : 0 < size) (v : Value) (n : Nat) (xs : List Value) (hs : a.eval s = v) (hown : w.ownsRow 0 e size v n xs)
    (ad : Addr) (m c : Nat) (news : List Value) (hx : a.eval x = .slice (some ad) m c) (hl : news.length = m * size) (hnews : ∀ j u, news[j]? = some u → w.cell? (ad.add j) = some u) (h1 : ∀ u ∈ news, u.oneCell' = true)
    (h63 : n + m ≤ maxLen) (hbytes : (n + m) * bytes ≤ 140737488355328) (hm : 0 < m)
    (h : ∀ v' w', w'.ownsRow 0 e size v' (n + m) (xs ++ news) → Upd (fun k => v.ownBlock = some k) w w' → (v'.ownBlock = v.ownBlock ∨ v'.ownBlock = some w.heap.size) → K (a.put o.dst v') w') :
    if Region.wanted o (yielded ops a.tmps) = true then Oper.wp Try.prog o a w K Q else E := by
  rw [if_pos (by simp [Region.wanted, hgd])]
  obtain ⟨v', w', hr, h2, h3, h4⟩ := run_append_where (P := Try.prog) w t o.type e z size bytes ht hinfo hzs hsz v n xs hown ad m c news hl hnews h1 h63 hbytes hm
  unfold Oper.wp execOp
  simp only [ho, resolve, invoke, builtin, Sem.run_bind, Sem.run_pure, Result.andThen_ok, List.map_toArray, List.map_cons, List.map_nil, hs, hx, hr]
  exact h v' w' h2 (Upd.of_grown h3 fun k hk => hk) (h4.imp And.left And.left)

structure TwinS (W : World) (base tb N : Nat) (v : Value) (T : List RP) : Prop where
  obj : W.heap[tb]? = some (.cells #[v, .int .i64 N] 53 (0, 0))
  row : W.ownsRow 0 59 2 v T.length (rcells T)
  gv : ∀ k, v.ownBlock = some k → base ≤ k ∧ k ≠ tb ∧ ∀ r, r ∈ T → r.blk ≠ k
  ok : ∀ r, r ∈ T → PcOk W r ∧ base ≤ r.blk ∧ r.blk ≠ tb
theorem TwinS.below {W W' : World} {base tb N : Nat} {v : Value} {T : List RP} (h : TwinS W base tb N v T) (hb : Below W.heap.size W W') : TwinS W' base tb N v T :=
  ⟨(hb.block _ (Array.getElem?_eq_some_iff.1 h.obj).1).trans h.obj, row_below h.row hb, h.gv, fun r hr => ⟨(h.ok r hr).1.below hb, (h.ok r hr).2⟩⟩
theorem TwinS.step {W W' : World} {base tb N : Nat} {v : Value} {T : List RP} {q : RP} {va : Option Addr} {vn vc : Nat} (h : TwinS W base tb N v T) (hw : base ≤ W.heap.size) (hq : PcOk W q) (hqb : base ≤ q.blk) (hqt : q.blk ≠ tb) (hqv : v.ownBlock ≠ some q.blk)
    (hvn : vn = (T ++ [q]).length) (hr : W'.ownsRow 0 59 2 (.slice va vn vc) vn (rcells (T ++ [q]))) (hu : Upd (fun k => v.ownBlock = some k) W W') (hv : (Value.slice va vn vc).ownBlock = v.ownBlock ∨ (Value.slice va vn vc).ownBlock = some W.heap.size) :
    W'.heap[tb]? = some (.cells #[v, .int .i64 N] 53 (0, 0)) ∧ TwinS (W'.setCell ⟨tb, 0, none⟩ (.slice va vn vc)) base tb N (.slice va vn vc) (T ++ [q]) := by
  have htb := (Array.getElem?_eq_some_iff.1 h.obj).1
  have ho := (hu.block tb htb (fun e => (h.gv tb e).2.1 rfl)).trans h.obj
  refine ⟨ho, ?_⟩
  have u2 : Upd (fun k => k = tb) W' (W'.setCell ⟨tb, 0, none⟩ (.slice va vn vc)) := Upd.setCell (F := fun k => k = tb) (p := ⟨tb, 0, none⟩) rfl _
  have hall : ∀ r, r ∈ T ++ [q] → PcOk W r ∧ base ≤ r.blk ∧ r.blk ≠ tb ∧ v.ownBlock ≠ some r.blk := fun r hm => by
    rcases List.mem_append.1 hm with hm | hm
    · exact ⟨(h.ok r hm).1, (h.ok r hm).2.1, (h.ok r hm).2.2, fun e => (h.gv _ e).2.2 r hm rfl⟩
    · rw [List.mem_singleton] at hm; subst hm; exact ⟨hq, hqb, hqt, hqv⟩
  have hgv : ∀ k, (Value.slice va vn vc).ownBlock = some k → base ≤ k ∧ k ≠ tb ∧ ∀ r, r ∈ T ++ [q] → r.blk ≠ k := fun k hk => by
    rcases hv with hv | hv
    · rw [hv] at hk
      exact ⟨(h.gv k hk).1, (h.gv k hk).2.1, fun r hm e => (hall r hm).2.2.2 (by rw [e]; exact hk)⟩
    · rw [hv] at hk
      obtain rfl : W.heap.size = k := by simpa using hk
      exact ⟨hw, by omega, fun r hm e => by have := pc_lt (hall r hm).1; omega⟩
  refine ⟨?_, ?_, hgv, fun r hm => ?_⟩
  · rw [setCell_eq_setRow W' tb 0 _ _ _ _ ho, setRow_heap W' tb _ _ _ _ ho]; rfl
  · rw [← hvn]; exact u2.row hr (fun k hk => (hgv k hk).2.1)
  · obtain ⟨h1, h2, h3, h4⟩ := hall r hm
    exact ⟨⟨(h1.bs.upd hu h4).upd u2 h3, h1.ne, h1.cp, h1.le⟩, h2, h3⟩

theorem ct_sep : ∀ {L M : List Piece}, ct L = ct M → M.Pairwise (fun a b => a.fin < b.org) → L.Pairwise (fun a b => a.fin < b.org) := by
  intro L
  induction L with
  | nil => intro M _ _; simp
  | cons d L ih =>
    intro M h hM
    rcases ct_cases h with ⟨h1, -⟩ | ⟨d', L', e, M', h1, rfl, h2, h3, h4⟩
    · simp at h1
    · obtain ⟨rfl, rfl⟩ := List.cons.inj h1
      have hM' := List.pairwise_cons.1 hM
      refine List.pairwise_cons.2 ⟨fun x hx => ?_, ih h4 hM'.2⟩
      have : (x.org, x.bs) ∈ ct M' := by rw [← h4]; exact List.mem_map.2 ⟨x, hx, rfl⟩
      obtain ⟨y, hy, h5⟩ := List.mem_map.1 this
      simp only [Prod.mk.injEq] at h5
      have := hM'.1 y hy
      unfold Piece.fin at *
      rw [h2, h3, ← h5.1]; exact this

theorem ct_snoc {T R : List RP} {q r : RP} (h : ct (pls T) = ct (pls R)) (h1 : q.at_ = r.at_) (h2 : q.bs = r.bs) : ct (pls (T ++ [q])) = ct (pls (R ++ [r])) := by
  unfold pls ct at *
  rw [List.map_append, List.map_append, List.map_append, List.map_append, h]
  simp [RP.pl, h1, h2]

set_option maxHeartbeats 4000000 in
theorem twinRef_any (b N : Nat) (a : Option Addr) (c : Nat) (R : List RP) (w : World) (hR : RRep w b N a c R) :
    Calls Try.prog 14 #[.pointer (some ⟨b, 0, none⟩)] w fun e w' => e = .returned (.pointer (some ⟨w.heap.size, 0, none⟩)) ∧ BoolIs (∃ a' c' R', RRep w' w.heap.size N a' c' R' ∧ ct (pls R') = ct (pls R) ∧ (∀ k, RFoot w.heap.size a' R' k → w.heap.size ≤ k) ∧ Below w.heap.size w w') := by
  obtain ⟨c0, c1, -, -⟩ := hR.obj.cells
  have HR := aside hR
  have hlen := hR.len
  have hhd := hR.inv.held
  clear hR
  go_enter Try.func14, Try.ntmps14
  go_wp2_with fail
  go_loopw [4] (fun s4 wr => ∃ (k : Nat) (v : Value) (T : List RP), k ≤ R.length ∧ T.length = k ∧ s4 = .int .i64 k ∧ Aside (TwinS wr w.heap.size w.heap.size N v T) ∧ Aside (ct (pls T) = ct (pls (R.take k))) ∧ Aside (Below w.heap.size w wr)) (fun s4 _ => R.length - (intOf s4).toNat)
  case atStart =>
    exact ⟨0, .slice none 0 0, [], Nat.zero_le _, rfl, rfl, ⟨heap_alloc_new w _, World.ownsRow_nil _ _ _ _, by simp [Value.ownBlock], by simp⟩, rfl, below_al w _⟩
  case round =>
    obtain ⟨k, v, T, hk, hTk, rfl, hS, hct, hB⟩ := hrel
    have HRr := aside (HR.out.obj.below hB.out)
    obtain ⟨d0, d1, -, -⟩ := HRr.out.cells
    by_cases h1 : k < R.length
    · have t1 : (k : Int) < (R.length : Int) := by omega
      have hkm : R[k]? = some R[k] := List.getElem?_eq_getElem h1
      have hok := HRr.out.ps.ok (List.getElem_mem h1)
      obtain ⟨blk, off, rfl, hrd⟩ := HRr.out.ps.rd (by intro h; simp [h] at h1)
      obtain ⟨r0, r1⟩ := hrd k _ hkm
      clear hrd
      have TS := aside (take_snoc hkm)
      have hbt : R[k].bs.length ≤ 4194304 := by
        have h1 := heldR_take hkm
        have h2 := heldR_take_le R (k + 1)
        unfold heldR at h1 h2
        omega
      clear hkm
      generalize R[k] = r at *
      have hne := hok.ne
      have HOK := aside hok
      have SR : Aside (SrcAt wr (.slice (some ⟨r.blk, r.off, none⟩) r.bs.length r.c) r.bs.length (bcells r.bs)) := ⟨_, _, rfl, fun hp => HOK.out.bs (List.length_pos_iff.1 hp)⟩
      have RM := aside (room_bytes (n := 0) (m := r.bs.length) (by omega))
      have hll := aside (show (bcells r.bs).length = r.bs.length * 1 by simp)
      clear hok
      go_wp2_with (at_builtin; refine wpList_append_any _ rfl _ _ 22 rfl 5 (.int .u8 0) 1 1 Try.underlying22 info5 rfl (by decide) (.slice none 0 0) 0 [] rfl (World.ownsRow_nil _ _ _ _) _ r.bs.length (bcells r.bs) rfl hll.out SR.out (bcells_one _) RM.out.1 RM.out.2 ?_)
      intro v5 w1 ho hu hv
      rcases ho.2 with ⟨-, hz⟩ | ⟨g, cap, cur, rfl, -, -, hnc, -⟩
      · omega
      have hg : g = wr.heap.size := by
        rcases hv with hv | hv
        · simp [Value.ownBlock] at hv
        · simpa [Value.ownBlock] using hv
      subst hg
      have hb1 : Below wr.heap.size wr w1 := hu.below (Nat.le_refl _) (fun k hk => by simp [Value.ownBlock] at hk)
      obtain ⟨q, hq⟩ : ∃ q : RP, q = ⟨r.at_, wr.heap.size, 0, cap, r.bs⟩ := ⟨_, rfl⟩
      have hqk : PcOk w1 q := by rw [hq]; exact ⟨bs_own ho, hne, hnc, HOK.out.le⟩
      have s1 := hS.out.below hb1
      have HS1 := aside s1
      have e0 : w1.cell? ⟨b, 0, none⟩ = some (.slice (some ⟨blk, off, none⟩) R.length c) := (hb1.cell (World.block_lt_of_cell? wr _ d0)).trans d0
      have e1 : w1.cell? ⟨blk, off + k * 2, none⟩ = some (.int .i64 r.at_) := (hb1.cell (World.block_lt_of_cell? wr _ r0)).trans r0
      have e2 : w1.cell? ⟨w.heap.size, 0, none⟩ = some v := by rw [cell_of_row w1 _ _ _ _ _ s1.obj]; rfl
      have f2 : w1.frozen? ⟨w.heap.size, 0, none⟩ = false := frozen_of_row w1 _ 0 _ _ s1.obj
      have e3 : (w1.alloc (.cells #[.int .i64 r.at_, .slice (some ⟨wr.heap.size, 0, none⟩) r.bs.length cap] 59)).cell? ⟨w.heap.size, 0, none⟩ = some v := ((below_al w1 _).cell (World.block_lt_of_cell? w1 _ e2)).trans e2
      have hB1 := aside (hB.out.trans (hb1.mono hB.out.size))
      have hs1 := hB1.out.size
      have hvq : v.ownBlock ≠ some wr.heap.size := fun e => by have := own_lt hS.out.row e; omega
      have htb : w.heap.size < wr.heap.size := (Array.getElem?_eq_some_iff.1 hS.out.obj).1
      have bal := below_tr (below_dr w1) (below_al w1.drew (.cells #[.int .i64 r.at_, .slice (some ⟨wr.heap.size, 0, none⟩) r.bs.length cap] 59))
      have S2 := aside (s1.below bal)
      have L2 := aside S2.out.row
      have PQ := aside (hqk.below bal)
      have hBz := aside (hB1.out.trans (bal.mono hs1))
      have SQ : Aside (∀ j u, (rcells [q])[j]? = some u → (w1.drew.alloc (.cells #[.int .i64 r.at_, .slice (some ⟨wr.heap.size, 0, none⟩) r.bs.length cap] 59)).cell? (Addr.add ⟨w1.heap.size, 0, none⟩ j) = some u) := fun j u hj => by
        have := new_cells w1.drew (rcells [q]) 59 j u hj
        rw [hq] at this
        exact this
      have RM2 := aside (room_row (n := T.length) (m := 1) (by omega))
      have HQ := aside hq
      clear ho hu hv hqk s1 hb1 d0 d1 r0 r1 bal hq hll RM SR cur
      go_wp2_with fail
      go_region_law (refine step_append_any rfl _ _ 51 rfl 59 (.agg #[.int .i64 0, .slice none 0 0]) 2 32 Try.underlying51 info59 rfl (by decide) v T.length (rcells T) rfl L2.out ⟨w1.heap.size, 0, none⟩ 1 1 (rcells [q]) rfl rfl SQ.out (rcells_one _) RM2.out.1 RM2.out.2 (by decide) ?_; intro v' w2 ho hu hv; obtain ⟨ka, kc, rfl, -⟩ := own_slice ho; obtain ⟨ob2, ST⟩ := S2.out.step (q := q) (va := ka) (vn := T.length + 1) (vc := kc) hBz.out.size PQ.out (by rw [HQ.out]; exact hB.out.size) (by rw [HQ.out]; exact (Nat.ne_of_gt htb)) (by rw [HQ.out]; exact hvq) (by rw [List.length_append]; rfl) (by rw [rcells_append]; exact ho) hu hv; have z0 : w2.cell? ⟨w.heap.size, 0, none⟩ = some v := (by rw [cell_of_row w2 _ _ _ _ _ ob2]; rfl); have z1 : w2.frozen? ⟨w.heap.size, 0, none⟩ = false := frozen_of_row w2 _ 0 _ _ ob2; have ST := aside ST; have BU : Aside (Below w.heap.size w w2) := hBz.out.trans (hu.below hBz.out.size (fun k hk => (S2.out.gv k hk).1)); clear ho hu hv ob2)
      all_goals
        go_wp2_with fail
        go_roundw
        case rel =>
          rw [hTk] at ST
          refine ⟨k + 1, _, T ++ [q], by omega, by rw [List.length_append, hTk]; rfl, by go_num, ST, ?_, ?_⟩
          · show ct (pls (T ++ [q])) = _
            rw [TS.out]
            exact ct_snoc hct.out (by rw [HQ.out]) (by rw [HQ.out])
          · exact BU.out.trans ((Upd.setCell (F := fun k => k = w.heap.size) (p := ⟨w.heap.size, 0, none⟩) (w := w2) rfl _).below BU.out.size (fun q hq => by omega))
        case measure => simp [intOf]; omega
    · obtain rfl : k = R.length := by omega
      have t1 : ¬ ((R.length : Int) < (R.length : Int)) := by omega
      rw [List.take_length] at hct
      go_wp2_with fail
      go_ret
      obtain ⟨a', c', e, hps, -⟩ := ps_row (base := 0) hS.out.row (fun r hr => (hS.out.ok r hr).1) (by omega)
      have hva : ∀ ad, a' = some ad → w.heap.size ≤ ad.block ∧ ad.block ≠ w.heap.size := fun ad ha => by
        have hk : v.ownBlock = some ad.block := by
          rcases hS.out.row.2 with ⟨h1, h2⟩ | ⟨g', cap', cur', h1, -⟩
          · rw [e, ha] at h1; cases h1
          · rw [h1]
            rw [e, ha] at h1
            injection h1 with h1
            injection h1 with h1
            rw [h1]; rfl
        exact ⟨(hS.out.gv _ hk).1, (hS.out.gv _ hk).2.1⟩
      have hinv : Inv N (pls T) := by
        have hI := HR.out.inv
        have hl : ∀ d, d ∈ pls T → ∃ e, e ∈ pls R ∧ d.org = e.org ∧ d.bs = e.bs := fun d hd => by
          have : (d.org, d.bs) ∈ ct (pls R) := by rw [← hct.out]; exact List.mem_map.2 ⟨d, hd, rfl⟩
          obtain ⟨e, he, h3⟩ := List.mem_map.1 this
          simp only [Prod.mk.injEq] at h3
          exact ⟨e, he, h3.1.symm, h3.2.symm⟩
        refine ⟨ct_sep hct.out hI.sep, fun d hd => ?_, fun d hd => ?_, hI.size, by rw [ct_held hct.out]; exact hI.held⟩
        · obtain ⟨e, he, -, h2⟩ := hl d hd
          rw [h2]; exact hI.ne e he
        · obtain ⟨e, he, h2, h3⟩ := hl d hd
          have := hI.fin e he
          unfold Piece.fin at *
          rw [h2, h3]; exact this
      refine ⟨rfl, a', c', T, ⟨⟨by rw [hS.out.obj, e], hps, fun r hr => (hS.out.ok r hr).2.2, fun ad ha => (hva ad ha).2⟩, hinv⟩, hct.out, fun j hj => ?_, hB.out⟩
      rcases hj with rfl | ⟨-, ad, ha, rfl⟩ | ⟨r, hr, rfl⟩
      · exact Nat.le_refl _
      · exact (hva ad ha).1
      · exact (hS.out.ok r hr).2.1
end Go.Proofs.Ytkekaljcbmkomaa
