/-
  SumsByte: of two texts of one length that differ in just one byte the sums differ (and are the same where that byte is the same); for every input, with no condition of ours.
-/
import Derived.Test.YtoagjgcpgpjjeaaOpen
import Derived.Test.YtoagjgcpgpjjeaaSumWake
import Derived.ProofKit
import Derived.OpenShut
import Derived.ShutString
import Derived.ChangeOld
import Derived.Below
import Derived.SizedLaws
import Derived.Lib.SmallJoins
namespace Go.Proofs.Ytoagjgcpgpjjeaa
open Go.ChangeShapes Go.WideShapes Go.ChangeAt Go.RowKit Go.Joins
attribute [local simp] lcells_nil readB_length bcells_length

theorem fnv0_set {l : List UInt8} {k : Nat} {b x : UInt8} (hk : l[k]? = some b) : fnv0 l = fnv0 (l.set k x) ↔ b = x := by unfold fnv0; exact fnv_set (by decide) hk
/-- One byte of a row of its own, written over. -/
theorem own_set {w : World} {g cap k : Nat} {l : List UInt8} (x : UInt8) (h : w.ownsRow 0 5 1 (.slice (some ⟨g, 0, none⟩) l.length cap) l.length (bcells l)) (hk : k < l.length) :
    (∃ v, w.cell? ⟨g, k, none⟩ = some v) ∧ w.frozen? ⟨g, k, none⟩ = false ∧ l.length ≤ cap ∧ ∀ j v, (bcells (l.set k x))[j]? = some v → (w.setCell ⟨g, k, none⟩ (.int .u8 x.toNat)).cell? ((⟨g, 0, none⟩ : Addr).add j) = some v := by
  rcases h.2 with ⟨h1, -⟩ | ⟨g', cap', cur, h1, -, hh, hn, -, hcs, ht⟩
  · cases h1
  · injection h1 with h1 h2 h3
    injection h1 with h1
    injection h1 with h1
    subst h1 h3
    have hlen : l.length ≤ cur.size := by rw [hcs]; omega
    have hcur : ∀ j, j < l.length → cur[j]? = (bcells l)[j]? := fun j hj => by
      rw [← ht, List.getElem?_take, if_pos (by omega), Array.getElem?_toList]
    refine ⟨⟨cur[k]'(by omega), by rw [cell_of_row w g k _ _ _ hh]; exact Array.getElem?_eq_getElem (by omega)⟩, frozen_of_row w g k _ _ hh, hn, fun j v hj => ?_⟩
    have hjl : j < l.length := by have := (List.getElem?_eq_some_iff.1 hj).1; rwa [bcells_length, List.length_set] at this
    rw [setCell_eq_setRow w g k _ _ _ _ hh, Addr.add_lit, Nat.zero_add, cell_of_row _ g j _ _ _ (setRow_heap w g _ _ _ _ hh)]
    rw [Array.getElem?_setIfInBounds]
    by_cases hjk : k = j
    · subst hjk
      rw [if_pos rfl, if_pos (by omega)]
      have e : (bcells (l.set k x))[k]? = some (.int .u8 x.toNat) := by simp [bcells, hk]
      rw [e] at hj
      exact hj
    · rw [if_neg hjk, hcur j hjl]
      simp only [bcells, List.getElem?_map, List.getElem?_set, if_neg hjk] at hj ⊢
      exact hj
/-- append([]byte{}, b...): a row of its own. -/
theorem app_own {w w1 : World} {l : List UInt8} {v1 : Value} (h0 : 0 < l.length) (ho : w1.ownsRow 0 5 1 v1 (0 + l.length) ([] ++ bcells l)) (hg : (w.alloc (.cells #[] 5)).grownBy w1 (Value.slice (some ⟨w.heap.size, 0, none⟩) 0 0).ownBlock)
    (hwh : (v1.ownBlock = (Value.slice (some ⟨w.heap.size, 0, none⟩) 0 0).ownBlock ∧ ∃ g, (Value.slice (some ⟨w.heap.size, 0, none⟩) 0 0).ownBlock = some g) ∨ v1.ownBlock = some (w.alloc (.cells #[] 5)).heap.size ∧ Below (w.alloc (.cells #[] 5)).heap.size (w.alloc (.cells #[] 5)) w1) :
    ∃ g cap, v1 = .slice (some ⟨g, 0, none⟩) l.length cap ∧ w.heap.size ≤ g ∧ w1.ownsRow 0 5 1 (.slice (some ⟨g, 0, none⟩) l.length cap) l.length (bcells l) ∧ Below w.heap.size w w1 := by
  simp only [Nat.zero_add, List.nil_append] at ho
  rcases ho.2 with ⟨-, hz⟩ | ⟨g, cap, cur, rfl, r⟩
  · omega
  · refine ⟨g, cap, rfl, ?_, ho, ?_⟩
    · rcases hwh with ⟨e1, -⟩ | ⟨e1, -⟩
      · simp only [Value.ownBlock, Option.some.injEq] at e1; omega
      · simp only [Value.ownBlock, Option.some.injEq, World.size_alloc] at e1; omega
    · exact (below_al w _).grown hg (by simp) (fun k hk => by simp only [Value.ownBlock, Option.some.injEq] at hk; omega)
theorem idx_of (p : Int) (n : Nat) (h0 : 0 < n) (h1 : n ≤ 65536) : ∃ k : Nat, k < n ∧ (wrap64 (p.tmod n + n)).tmod n = (k : Int) := by
  have a1 := Int.tmod_lt_of_pos p (show (0 : Int) < n by omega)
  have a2 : -(n : Int) < p.tmod n := Int.lt_tmod_of_pos p (show (0 : Int) < n by omega)
  have e : wrap64 (p.tmod n + n) = p.tmod n + n := by unfold wrap64; omega
  rw [e]
  have b1 := Int.tmod_lt_of_pos (p.tmod n + n) (show (0 : Int) < n by omega)
  have b2 := Int.tmod_nonneg (n : Int) (show 0 ≤ p.tmod n + n by omega)
  exact ⟨((p.tmod n + n).tmod n).toNat, by omega, by omega⟩

set_option maxRecDepth 20000 in
set_option maxHeartbeats 1000000 in
theorem sumsByte_walk (a : Option Addr) (l : List UInt8) (c : Nat) (p : Int) (x : UInt8) (w : World) (h : BsAt w a l) (hl : l.length ≤ 4611686018427387904) (hlc : l.length ≤ c) :
    Calls Try.prog 5 #[.slice a l.length c, .int .i64 p, .int .u8 x.toNat] w fun e w' => e = .returned (.bool true) ∧ Below w.heap.size w w' := by
  have HWK := aside wakes10_any
  have H := aside h
  clear h
  by_cases h0 : l.length = 0
  · obtain rfl := List.length_eq_zero_iff.1 h0
    go_enter Try.func5, Try.ntmps5
    go_wp2_with fail
    refine (HWK.out w).mono ?_
    rintro e w1 ⟨rfl, hb⟩
    go_wp2
    go_ret
    exact ⟨rfl, hb⟩
  · have t0 : ¬ ((l.length : Int) = 0) := by omega
    by_cases h1 : 65536 < l.length
    · have t1 : (65536 : Int) < (l.length : Int) := by omega
      go_enter Try.func5, Try.ntmps5
      go_wp2_with fail
      refine (HWK.out w).mono ?_
      rintro e w1 ⟨rfl, hb⟩
      go_wp2
      go_ret
      exact ⟨rfl, hb⟩
    · have t1 : ¬ ((65536 : Int) < (l.length : Int)) := by omega
      obtain ⟨k, hk, hidx⟩ := idx_of p l.length (by omega) (by omega)
      obtain ⟨ad, rfl, hc⟩ := H.out (by intro e; simp [e] at h0)
      have hB : Below w.heap.size w (w.alloc (.cells #[] 5)) := below_al w _
      have hown : (w.alloc (.cells #[] 5)).ownsRow 0 5 1 (.slice (some ⟨w.heap.size, 0, none⟩) 0 0) 0 [] := World.ownsRow_made w #[] 0 (Nat.zero_le _) (by decide) (by simp)
      have hs2 : ∀ j v, (bcells l)[j]? = some v → (w.alloc (.cells #[] 5)).cell? (ad.add j) = some v := fun j v h => (hB.cell (World.block_lt_of_cell? w _ (hc j v h))).trans (hc j v h)
      have h63 : 0 + l.length ≤ maxLen := by unfold maxLen; omega
      have hby : (0 + l.length) * 1 ≤ 140737488355328 := by omega
      have hpos : 0 < l.length := by omega
      have HLL := aside (show (bcells l).length = l.length * 1 by simp)
      have HO := aside hown
      have HS := aside hs2
      have HB := aside hB
      have H63 := aside h63
      have HC := aside hc
      clear hs2 hown hB h63 hc
      have r0 := HC.out k (.int .u8 (l[k].toNat : Nat)) (by simp [bcells, List.getElem?_eq_getElem hk])
      have hkm : l[k]? = some l[k] := List.getElem?_eq_getElem hk
      have HEQ := aside (fnv0_set (x := x) hkm)
      have hbl : ad.block < w.heap.size := by have := World.block_lt_of_cell? w _ r0; rwa [show (ad.add k).block = ad.block by unfold Addr.add; split <;> rfl] at this
      generalize l[k] = b at *
      clear hkm
      have k1 : (k : Int) < (l.length : Int) := by omega
      have k2 : (0 : Int) ≤ (k : Int) := by omega
      go_enter Try.func5, Try.ntmps5
      go_wp2_with (at_builtin; refine wpList_append_where _ rfl _ _ 22 rfl 5 (.int .u8 0) 1 1 Try.underlying22 info5 rfl (by decide) (.slice (some ⟨w.heap.size, 0, none⟩) 0 0) 0 [] rfl HO.out _ l.length _ (bcells l) rfl HLL.out HS.out (bcells_one _) H63.out hby hpos ?_; intro v1 w1 ho hg hwh; obtain ⟨g, cap, rfl, hg1, ho1, hb1⟩ := app_own hpos ho hg hwh; obtain ⟨⟨v0, z0⟩, z1, z2, z3⟩ := own_set x ho1 hk; have Z3 := aside z3; have HB1 := aside hb1; clear ho hg hwh ho1 hb1 z3)
      obtain ⟨W, hW⟩ : ∃ W, W = w1.setCell ⟨g, k, none⟩ (.int .u8 x.toNat) := ⟨_, rfl⟩
      rw [← hW]
      rw [← hW] at Z3
      have hBW : Below w.heap.size w W := by rw [hW]; exact HB1.out.trans ((Upd.setCell (F := fun j => j = g) (p := ⟨g, k, none⟩) (w := w1) rfl _).below HB1.out.size (fun q hq => by omega))
      clear hW
      have q0 : ∀ d os, (ext W d os).cell? (ad.add k) = some (.int .u8 (b.toNat : Nat)) := fun d os => ext_cell ((hBW.cell (World.block_lt_of_cell? w _ r0)).trans r0) d os
      have S1 : ∀ V, Below W.heap.size W V → Calls Try.prog 13 #[.slice (some ad) l.length c] V fun e w' => e = .returned (.int .u64 (fnv0 l : Nat)) ∧ w' = V := fun V hV => sum_any (some ad) l c V (H.out.below (hBW.trans (hV.mono hBW.size))) hl
      have S2 : ∀ V, Below W.heap.size W V → Calls Try.prog 13 #[.slice (some ⟨g, 0, none⟩) l.length cap] V fun e w' => e = .returned (.int .u64 (fnv0 (l.set k x) : Nat)) ∧ w' = V := fun V hV => by
        have := sum_any (some ⟨g, 0, none⟩) (l.set k x) cap V (fun _ => ⟨_, rfl, fun j v hj => (hV.cell (World.block_lt_of_cell? W _ (Z3.out j v hj))).trans (Z3.out j v hj)⟩) (by rw [List.length_set]; exact hl)
        rwa [List.length_set] at this
      have HBW := aside hBW
      have HQ := HEQ.out
      clear hBW z0 z1 r0 HEQ HC HS HO HB H63 HLL Z3 HB1 hidx
      generalize fnv0 l = A at *
      generalize fnv0 (l.set k x) = B at *
      have HS1 := aside S1
      have HS2 := aside S2
      clear S1 S2
      by_cases hx : b = x
      · obtain rfl : A = B := HQ.2 hx
        subst hx
        clear HQ
        refine region_ext (by kernel_rfl) (by kernel_rfl) ?_
        repeat (any_goals (first
          | go_big_quiet_step ((go_at_call 13; with_reducible exact calls_ext ((HS1.out _ (below_ext _ _ _)).mono fun _ _ hh => ⟨hh.1, hh.2 ▸ Below.refl _ _⟩)))
          | go_big_quiet_step ((go_at_call 13; with_reducible exact calls_ext ((HS2.out _ (below_ext _ _ _)).mono fun _ _ hh => ⟨hh.1, hh.2 ▸ Below.refl _ _⟩)))
          | go_big_quiet_step ((go_at_call 9; exact calls_ext (HWK.out _)))
          | quiet_step ((fail))))
        refine wpQuiet_nil ?_
        intro w4 hb4
        have HB4 := aside hb4
        clear hb4 q0
        go_wp2_with fail
        go_ret
        exact ⟨rfl, below_tr HBW.out HB4.out⟩
      · have hab : ¬ A = B := fun e => hx (HQ.1 e)
        have hab2 : ¬ ((A : Int) = (B : Int)) := by omega
        have hbx : ¬ (b.toNat = x.toNat) := fun e => hx (UInt8.toNat_inj.1 e)
        have hbx2 : ¬ ((b.toNat : Int) = (x.toNat : Int)) := by omega
        have hab3 : ((A : Int) == (B : Int)) = false := by simpa using hab2
        have hbx3 : ((b.toNat : Int) == (x.toNat : Int)) = false := by simpa using hbx2
        clear HQ
        refine region_ext (by kernel_rfl) (by kernel_rfl) ?_
        repeat (any_goals (first
          | go_big_quiet_step ((go_at_call 13; with_reducible exact calls_ext ((HS1.out _ (below_ext _ _ _)).mono fun _ _ hh => ⟨hh.1, hh.2 ▸ Below.refl _ _⟩)))
          | go_big_quiet_step ((go_at_call 13; with_reducible exact calls_ext ((HS2.out _ (below_ext _ _ _)).mono fun _ _ hh => ⟨hh.1, hh.2 ▸ Below.refl _ _⟩)))
          | go_big_quiet_step ((go_at_call 9; exact calls_ext (HWK.out _)))
          | quiet_step ((fail))))
        refine wpQuiet_nil ?_
        intro w4 hb4
        have HB4 := aside hb4
        clear hb4 q0
        go_wp2_with fail
        go_ret
        exact ⟨rfl, below_tr HBW.out HB4.out⟩

set_option maxRecDepth 100000 in
theorem sumsByte_lifted (os : Os) (started : os.Started) (H : Type) (enc : TypeId × Value → H) :
    ReturnsInHanded {} Try.checked os 5 .any (Rows.sumsByteSpec.pre6 enc Try.prog Try.f5 Rows.sumsByteRow.domain false) (Rows.sumsByteSpec.post enc Try.prog Try.f5 false true false false) := by
  refine returnsInHanded_of_change_sized (C := Try.checked) ownT started (by kernel_rfl) Try.func5
    (ChangeSpec.witness6 (enc := enc) (C := Try.checked) false ⟨#[], #[.slice none 0 0, .int .i64 0, .int .u8 0], []⟩ 8 (by kernel_rfl) (by kernel_rfl) (by kernel_rfl) (by kernel_rfl)) ?_
  intro W base args ds gs before hval0 hW hcnd hsz0 _
  have hval : ∀ (j : Nat) t v, Try.f5.params[j]? = some t → args[j]? = some v → Value.okWide Try.prog W .any base t v := hval0
  have hsz : (DataW.weightsEach Try.prog (Try.f5.params.toList ++ Rows.sumsByteSpec.plain.varTypes Try.prog) (ds ++ gs)).all (· ≤ reachBytes) = true := hsz0
  have hW' := hW
  obtain ⟨p, q, hA0, hV, rfl, hfz, hnd⟩ := hW
  have hA : DataW.TrodAll enc Try.prog W 0 (fun _ => true) true Try.f5.params.toList args.toList ds p := hA0
  rw [Try.params5] at hA hval hsz
  obtain ⟨v0, vs0, d0, ds0, p0, q0, hargs, rfl, rfl, h0, r0⟩ := trodAll_cons hA
  obtain ⟨v1, vs1, d1, ds1, p1, q1, hargs1, rfl, rfl, h1, r1⟩ := trodAll_cons r0
  obtain ⟨v2, vs2, d2, ds2, p2, q2, hargs2, rfl, rfl, h2, r2⟩ := trodAll_cons r1
  obtain ⟨rfl, rfl, rfl⟩ := trodAll_nil r2
  obtain rfl : args = #[v0, v1, v2] := by cases args; simp_all
  obtain ⟨rfl, rfl⟩ := trodVars_none hV
  have k0 := h0
  have k1 := h1
  have k2 := h2
  have lt0 : ∀ x ∈ p0, x.block < W.heap.size := by obtain ⟨m, hm⟩ := k0; exact DataW.trod_lt m _ _ _ hm
  have lt1 : ∀ x ∈ p1, x.block < W.heap.size := by obtain ⟨m, hm⟩ := k1; exact DataW.trod_lt m _ _ _ hm
  have lt2 : ∀ x ∈ p2, x.block < W.heap.size := by obtain ⟨m, hm⟩ := k2; exact DataW.trod_lt m _ _ _ hm
  have ww : ∀ (j : Nat) (t : TypeId) (d : DataW H), ([22, 3, 5] : List TypeId)[j]? = some t → ([d0, d1, d2] : List (DataW H))[j]? = some d → ∀ n ∈ d.weights Try.prog t, n ≤ reachBytes := fun j t d ht hd n hn => by
    have hall := List.all_eq_true.1 hsz n (DataW.weights_mem_each (j := j) (t := t) (d := d) (by
      rw [List.getElem?_append_left (by have := (List.getElem?_eq_some_iff.1 ht).1; simpa using this)]; exact ht) (by simpa using hd) n hn)
    simpa using hall
  obtain ⟨a0, c0, l0, rfl, hb0, hlc, hc0⟩ : ∃ (a : Option Addr) (c : Nat) (l : List UInt8), v0 = .slice a l.length c ∧ BsAt W a l ∧ l.length ≤ c ∧ c ≤ 140737488351232 := by
    obtain ⟨x0, x1, x2, rfl⟩ := okWide_slice Try.underlying22 (hval 0 22 v0 rfl rfl)
    obtain ⟨fuel, hf⟩ := h0
    exact open_bs hf (ww 0 22 d0 rfl rfl)
  obtain ⟨at_, rfl, -, -, -⟩ := open_int Try.underlying3 (hval 1 3 v1 rfl rfl) h1
  obtain ⟨z, rfl, -, -, hz⟩ := open_int Try.underlying5 (hval 2 5 v2 rfl rfl) h2
  obtain ⟨x, rfl⟩ : ∃ x : UInt8, z = (x.toNat : Int) := by
    have hb := bounds_u8 hz
    refine ⟨UInt8.ofNat z.toNat, ?_⟩
    have e3 : (UInt8.ofNat z.toNat).toNat = z.toNat % 256 := by simp
    omega
  clear hA0 hval0
  refine (sumsByte_walk a0 l0 c0 at_ x W hb0 (by omega) hlc).mono fun e W' ⟨he, bel⟩ => ?_
  subst he
  exact ⟨_, rfl, _, _, _, [], _, [], hW', trodAll_mk1 (shut_bool Try.underlying4 _), (trodAll_cons_mk (Below.trod laidOutT (by kernel_rfl) (of_decide_eq_true (by kernel_rfl)) k0 bel lt0) (trodAll_cons_mk (Below.trod laidOutT (by kernel_rfl) (of_decide_eq_true (by kernel_rfl)) k1 bel lt1) (trodAll_cons_mk (Below.trod laidOutT (by kernel_rfl) (of_decide_eq_true (by kernel_rfl)) k2 bel lt2) trodAll_mk0))), rfl, bel.frame _, fun h => by cases h⟩

theorem sumsByte_holds : Rows.SumsByteSaid :=
  OpenClaim.holds_of_wide 5 Try.f5 rfl rfl rfl rfl rfl rfl rfl ⟨rfl, rfl, rfl, rfl, rfl⟩ rfl rfl rfl rfl rfl (by kernel_rfl) Try.func5 (by kernel_rfl)
    (of_decide_eq_true (by kernel_rfl)) (by unfold Func.isWrapper; first | (rw [if_pos (by decide +kernel)]; kernel_rfl) | (rw [if_neg (by decide +kernel)]; exact ⟨rfl, rfl⟩))
    (fun os started H enc _ => sumsByte_lifted os started H enc)

#print axioms sumsByte_holds
end Go.Proofs.Ytoagjgcpgpjjeaa
