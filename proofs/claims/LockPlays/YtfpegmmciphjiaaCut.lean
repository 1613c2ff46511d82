/- Slices of locks; without, withoutWho. -/
import Derived.Test.YtfpegmmciphjiaaTry
namespace Go.Proofs.Ytfpegmmciphjiaa
open Go.RowKit

theorem elem36 : Try.prog.underlying 36 = some (.slice (Try.prog.elem 36)) := by kernel_rfl
theorem size36 (w : World) : (sizeOf (Try.prog.elem 36)).run Try.prog w = .ok 4 w := by kernel_rfl

theorem rd_drop {w : World} {g o i : Nat} {L : List Lk} (h : Rd w g o (lks L)) : Rd w g (o + i * 4) (lks (L.drop i)) := fun j u hj => by
  rw [← lks_drop, List.getElem?_drop] at hj
  have := h _ _ hj
  rwa [← Nat.add_assoc] at this
theorem rd_take {w : World} {g o i : Nat} {L : List Lk} (h : Rd w g o (lks L)) : Rd w g o (lks (L.take i)) := fun j u hj => by
  rw [← lks_take, List.getElem?_take] at hj
  split at hj
  · exact h _ _ hj
  · cases hj
theorem ls_drop {w : World} {a : Option Addr} {L : List Lk} {c i : Nat} (h : LsAt w a L) (hc : L.length ≤ c) : LsAt w (if c = i then a else a.map (·.add (i * 4))) (L.drop i) := fun hn => by
  have hlt : i < L.length := by
    rcases Nat.lt_or_ge i L.length with h1 | h1
    · exact h1
    · exact absurd (List.drop_of_length_le h1) hn
  obtain ⟨g, o, rfl, hr⟩ := h (fun h0 => by rw [h0] at hlt; simp at hlt)
  rw [if_neg (by omega), Option.map_some, Addr.add_lit]
  exact ⟨g, o + i * 4, rfl, rd_drop hr⟩
theorem ls_take {w : World} {a : Option Addr} {L : List Lk} (i : Nat) (h : LsAt w a L) : LsAt w a (L.take i) := fun hn => by
  obtain ⟨g, o, rfl, hr⟩ := h (fun h0 => hn (by rw [h0]; simp))
  exact ⟨g, o, rfl, rd_take hr⟩
/-- list[i:] -/
theorem slice_l (a : Option Addr) (n c i : Nat) (hi : i ≤ n) (hc : n ≤ c) :
    ∃ a', (∀ W, (Instr.slice 36 (.slice a n c) (some (.int .i64 (i : Int))) none none).run Try.prog W = .ok (.slice a' (n - i) (c - i)) W) ∧ ∀ w L, L.length = n → LsAt w a L → LsAt w a' (L.drop i) := by
  refine ⟨if c = i then a else a.map (·.add (i * 4)), fun W => ?_, fun w L hl h => ls_drop h (by omega)⟩
  rw [run_slice_l W 36 a n c elem36 .i64 _ (by omega) (by omega), size36]
  simp only [Result.andThen, sliced, Int.toNat_natCast]
/-- list[:j] -/
theorem slice_h (a : Option Addr) (n c j : Nat) (hj : j ≤ n) (hc : n ≤ c) :
    ∀ W, (Instr.slice 36 (.slice a n c) none (some (.int .i64 (j : Int))) none).run Try.prog W = .ok (.slice a j c) W := by
  intro W
  rw [run_slice_h W 36 a n c elem36 .i64 _ (by omega) (by omega), size36]
  simp only [Result.andThen, sliced, Int.toNat_natCast, Nat.sub_zero, Nat.zero_mul]
  congr 2
  split
  · rfl
  · cases a with
    | none => rfl
    | some x => simp [Addr.add]
theorem own_take {w : World} {g n cap : Nat} {L : List Lk} (h : Own w (.slice (some ⟨g, 0, none⟩) n cap) L) (hn : L.length = n) (i : Nat) (hi : i ≤ n) : Own w (.slice (some ⟨g, 0, none⟩) i cap) (L.take i) := by
  rcases h.2 with ⟨hbad, -⟩ | ⟨g', cap', cur, hgv, -, hgc, hg1, hg2, hg3, hg4⟩
  · simp at hbad
  · simp only [Value.slice.injEq, Option.some.injEq, Addr.mk.injEq, and_true] at hgv
    obtain ⟨rfl, -, rfl⟩ := hgv
    unfold Own
    rw [List.length_take, Nat.min_eq_left (by omega)]
    refine ⟨by rw [lks_length, List.length_take, Nat.min_eq_left (by omega)], .inr ⟨g, cap, cur, rfl, Nat.zero_le _, hgc, by omega, hg2, hg3, ?_⟩⟩
    rw [← lks_take, ← hg4, List.take_take]
    congr 1
    have : i * 4 ≤ L.length * 4 := Nat.mul_le_mul_right _ (by omega)
    omega

set_option maxHeartbeats 1000000 in
theorem without_any (v : Value) (L : List Lk) (i : Nat) (w : World) (h : Own w v L) (hi : i < L.length) (hn : L.length ≤ 1048576) :
    Calls Try.prog 33 #[v, .int .i64 (i : Int)] w fun e w' => ∃ a' c', e = .returned (.slice a' (L.length - 1) c') ∧ Own w' (.slice a' (L.length - 1) c') (L.eraseIdx i) ∧ Upd (fun k => v.ownBlock = some k) w w' ∧ ∀ k, (Value.slice a' (L.length - 1) c').ownBlock = some k → v.ownBlock = some k ∨ w.heap.size ≤ k := by
  rcases h.2 with ⟨rfl, hz⟩ | ⟨g, cap, cur, rfl, -, hh, hnc, hcm, -⟩
  · omega
  · have hrd : LsAt w.drew (some ⟨g, 0, none⟩) L := fun _ => ⟨g, 0, rfl, rd_of_row (h.below (below_dr w))⟩
    generalize hln : L.length = n at *
    have OT := aside (own_take (h.below (below_dr w)) hln i (by omega))
    obtain ⟨a2, hs2, hl2⟩ := slice_l (some ⟨g, 0, none⟩) n cap (i + 1) (by omega) hnc
    have hs1 := slice_h (some ⟨g, 0, none⟩) n cap i (by omega) hnc
    have LT := aside (hl2 w.drew L hln hrd)
    obtain ⟨m, hm⟩ : ∃ m, m = n - (i + 1) := ⟨_, rfl⟩
    have hRl : (L.drop (i + 1)).length = m := by rw [List.length_drop]; omega
    have hTl : (L.take i).length = i := by rw [List.length_take]; omega
    have hER : L.eraseIdx i = L.take i ++ L.drop (i + 1) := by rw [List.eraseIdx_eq_take_drop_succ]
    rw [hER]
    rw [← hm] at hs2
    have hsum : (L.take i).length + (L.drop (i + 1)).length = n - 1 := by omega
    have hle : (L.take i).length + (L.drop (i + 1)).length ≤ 33554432 := by omega
    have hw1 : IntKind.i64.wrap ((i : Int) + 1) = ((i + 1 : Nat) : Int) := by rw [show (i : Int) + 1 = ((i + 1 : Nat) : Int) by omega]; rw [IntKind.wrap_i64]; omega
    generalize i + 1 = i1 at *
    have HR := aside hRl
    have HS := aside hsum
    have HL := aside hle
    clear hRl hTl hER hsum hle hl2 h hh hm
    generalize L.take i = A at *
    generalize L.drop i1 = R at *
    generalize n - 1 = n1 at *
    go_enter Try.func33, Try.ntmps33
    go_wp2
    go_region_law (refine step_app rfl _ _ rfl (.slice (some ⟨g, 0, none⟩) i cap) A R a2 m (cap - i1) rfl rfl HR.out OT.out LT.out HL.out n1 HS.out ?_; intro a' c' w' ho hu hv)
    all_goals (go_wp2; go_ret)
    all_goals (refine ⟨a', c', rfl, ho, (Upd.of_below (below_dr w)).trans hu (fun j _ hj => hj), fun k hk => ?_⟩)
    all_goals (rcases hv with h1 | ⟨h1, -⟩; (left; rw [← hk, h1]; rfl); (right; rw [h1] at hk; simp only [Option.some.injEq] at hk; have : w.drew.heap.size = w.heap.size := rfl; omega))

theorem gone_cons (x : Lk) (L : List Lk) (who : Int) : gone (x :: L) who = if x.who = who then gone L who else x :: gone L who := by
  unfold gone
  rw [List.filter_cons]
  by_cases h : x.who = who <;> simp [h]
theorem gone_append (L M : List Lk) (who : Int) : gone (L ++ M) who = gone L who ++ gone M who := by unfold gone; rw [List.filter_append]

theorem Own.form {w : World} {a : Option Addr} {n c : Nat} {L : List Lk} (h : Own w (.slice a n c) L) (hn : 0 < L.length) : L.length = n ∧ ∃ g, a = some ⟨g, 0, none⟩ ∧ Rd w g 0 (lks L) := by
  rcases h.2 with ⟨hbad, hz⟩ | ⟨g, cap, cur, hv, -⟩
  · omega
  · simp only [Value.slice.injEq] at hv
    obtain ⟨rfl, rfl, rfl⟩ := hv
    exact ⟨rfl, g, rfl, rd_of_row h⟩
theorem erase_mid (A R : List Lk) (x : Lk) : (A ++ x :: R).eraseIdx A.length = A ++ R := by
  rw [List.eraseIdx_append_of_length_le (Nat.le_refl _)]; simp

set_option maxHeartbeats 1000000 in
theorem withoutWho_any (v : Value) (L : List Lk) (who : Int) (w : World) (h : Own w v L) (hn : L.length ≤ 1048576) :
    Calls Try.prog 38 #[v, .int .i64 who] w fun e w' => ∃ a' n' c', e = .returned (.slice a' n' c') ∧ Own w' (.slice a' n' c') (gone L who) ∧ Upd (fun k => v.ownBlock = some k) w w' ∧ ∀ k, (Value.slice a' n' c').ownBlock = some k → v.ownBlock = some k ∨ w.heap.size ≤ k := by
  obtain ⟨a0, c0, hv0, -⟩ := own_slice h
  generalize hob : v.ownBlock = ob
  have HOB := aside hob
  clear hob
  subst hv0
  have HO := aside h
  have HNL := aside hn
  obtain ⟨n0, hn0⟩ : ∃ n0, L.length = n0 := ⟨_, rfl⟩
  have HN0 := aside hn0
  rw [hn0] at HO HOB HNL ⊢
  clear h hn hn0
  go_enter Try.func38, Try.ntmps38
  go_wp2
  go_loopg [0, 5] L.length (fun G s0 s5 wr => ∃ (a : Option Addr) (n c k : Nat) (A R : List Lk), s0 = .slice a n c ∧ s5 = .int .i64 (k : Int) ∧ R.length ≤ G ∧ Aside (k = A.length) ∧ Aside (n = A.length + R.length) ∧ n ≤ 1048576 ∧ Aside (Own wr (.slice a n c) (A ++ R)) ∧ Aside (gone L who = A ++ gone R who) ∧ Aside (Upd (fun k => ob = some k) w wr) ∧ Aside (∀ k, (Value.slice a n c).ownBlock = some k → ob = some k ∨ w.heap.size ≤ k))
  case atStart =>
    exact ⟨a0, n0, c0, 0, [], L, rfl, rfl, Nat.le_refl _, aside rfl, aside (by simp [HN0.out]), HNL.out, HO, aside (by simp), aside (Upd.refl _ _), aside (fun k hk => .inl (HOB.out ▸ hk))⟩
  case round =>
    obtain ⟨a, n, c, k, A, R, rfl, rfl, hG, hk, hnl, hn1, hO, hE, hU, hB⟩ := hrel
    cases R with
    | nil =>
      have t1 : ¬ ((k : Int) < (n : Int)) := by have := hnl.out; have := hk.out; simp at *; omega
      go_wp2
      go_ret
      refine ⟨a, n, c, rfl, ?_, hU.out, hB.out⟩
      rw [hE.out]; exact hO.out
    | cons x R =>
      have t1 : (k : Int) < (n : Int) := by have := hnl.out; have := hk.out; simp at *; omega
      have t2 : k < n := by omega
      have hlen : (A ++ x :: R).length = n := by have := hnl.out; simp at *; omega
      obtain ⟨-, g, rfl, hrd⟩ := hO.out.form (by rw [hlen]; omega)
      obtain ⟨q0, -, -, -⟩ := hrd.lock (i := k) (l := x) (by rw [hk.out]; simp)
      rw [Nat.zero_add] at q0
      have W := aside (without_any (.slice (some ⟨g, 0, none⟩) n c) (A ++ x :: R) k wr hO.out (by omega) (by omega))
      have HLEN := aside hlen
      have hER := erase_mid A R x
      rw [← hk.out] at hER
      rw [hER, hlen] at W
      clear hrd hlen hER
      by_cases hx : x.who = who
      · have HG : Aside (gone L who = A ++ gone R who) := by rw [hE.out, gone_cons, if_pos hx]; exact aside rfl
        generalize x.who = xw at *
        subst hx
        go_wp2_with ((go_at_call 33; refine W.out.mono ?_; rintro e w2 ⟨a', c', rfl, ho, hu, hb⟩; have HO2 := aside ho; have HU2 := aside hu; have HB2 := aside hb; clear ho hu hb))
        go_roundg (gk - 1)
        case measure => simp at hG; omega
        case rel =>
          refine ⟨a', n - 1, c', k, A, R, rfl, rfl, by simp at hG; omega, hk, aside (by have := hnl.out; simp at this; omega), by omega, HO2, HG, aside (hU.out.trans HU2.out (fun j hj hg => (hB.out j hg).elim id (fun h => absurd hj (by omega)))), aside (fun j hj => ?_)⟩
          rcases HB2.out j hj with h1 | h1
          · exact hB.out j h1
          · right; have := hU.out.size; omega
      · have HG : Aside (gone L who = (A ++ [x]) ++ gone R who) := by rw [hE.out, gone_cons, if_neg hx]; simp [Aside]
        have hx2 : (x.who == who) = false := by simpa using hx
        generalize x.who = xw at *
        go_wp2_with fail
        go_roundg (gk - 1)
        case measure => simp at hG; omega
        case rel =>
          refine ⟨some ⟨g, 0, none⟩, n, c, k + 1, A ++ [x], R, rfl, by go_num, by simp at hG; omega, aside (by rw [hk.out]; simp), aside (by have := hnl.out; simp at this ⊢; omega), hn1, aside (by rw [List.append_assoc]; exact hO.out), HG, hU, hB⟩
end Go.Proofs.Ytfpegmmciphjiaa
