/- The document's own runs. -/
import Derived.Test.YtlcglnagekmogaaRefMatch
namespace Go.Proofs.Ytlcglnagekmogaa
open Go.RowKit
attribute [local simp] lcells_nil readB_length bcells_length
set_option maxRecDepth 20000

/-- Bytes that a value owns, in memory that is newer than a world. -/
structure Grw (w0 w : World) (v : Value) (l : List UInt8) : Prop where
  own : Own w v l
  below : Below w0.heap.size w0 w
  new : ∀ k, v.ownBlock = some k → w0.heap.size ≤ k
theorem Grw.quiet {w0 w w' : World} {v : Value} {l : List UInt8} (h : Grw w0 w v l) (k : Below w.heap.size w w') : Grw w0 w' v l := ⟨h.own.below k, below_tr h.below k, h.new⟩
theorem Grw.app {w0 w w' : World} {v v' : Value} {l l' : List UInt8} (h : Grw w0 w v l) (ho : Own w' v' l') (hu : Upd (fun k => v.ownBlock = some k) w w') (hv : v'.ownBlock = v.ownBlock ∨ v'.ownBlock = some w.heap.size) : Grw w0 w' v' l' :=
  ⟨ho, (app_below h.below hu h.new hv).1, (app_below h.below hu h.new hv).2⟩

set_option maxHeartbeats 4000000 in
theorem refRun_any (w0 w : World) (v : Value) (L : List UInt8) (a : Option Addr) (l : List UInt8) (c : Nat) (hv : Grw w0 w v L) (hs : BsAt w0 a l) (hlc : l.length ≤ c) (hb : L.length + (runs l).length ≤ 1048576) :
    Calls Try.prog 28 #[v, .slice a l.length c] w fun e w' => ∃ v', e = .returned v' ∧ Grw w0 w' v' (L ++ runs l) := by
  have HV := aside hv
  have HS := aside hs
  clear hv hs
  go_enter Try.func28, Try.ntmps28
  go_wp2_with fail
  go_loopw [0, 1] (fun s0 s1 wr => ∃ (v' : Value) (done r : List UInt8) (a' : Option Addr) (c' : Nat), s0 = v' ∧ s1 = .slice a' r.length c' ∧ r.length ≤ c' ∧ Aside (BsAt w0 a' r) ∧ Aside (Grw w0 wr v' done) ∧ Aside (done ++ runs r = L ++ runs l)) (fun _ s1 _ => lenV s1)
  case atStart => exact ⟨v, L, l, a, c, rfl, rfl, hlc, HS, HV, aside rfl⟩
  case round =>
    obtain ⟨v', done, r, a', c', hv0, rfl, hrc, hS, hG, hE⟩ := hrel
    subst hv0
    by_cases hr : r = []
    · subst hr
      have t1 : ¬ ((0 : Int) < 0) := by omega
      have HE : Aside (done = L ++ runs l) := by
        have := hE.out
        rw [runs_nil, List.append_nil] at this
        exact this
      go_wp2_with fail
      go_ret
      exact ⟨_, rfl, by rw [← HE.out]; exact hG.out⟩
    · have hp := List.length_pos_iff.2 hr
      have t1 : (0 : Int) < (r.length : Int) := by omega
      obtain ⟨n, hn⟩ : ∃ n, n = min 128 r.length := ⟨_, rfl⟩
      have hmin : min (128 : Int) (r.length : Int) = (n : Int) := by omega
      obtain ⟨x, hx⟩ : ∃ x, x = UInt8.ofNat (n - 1) := ⟨_, rfl⟩
      have hxn : (x.toNat : Nat) = n - 1 := by rw [hx, UInt8.toNat_ofNat']; omega
      have hx1 : (n : Int) - 1 = ((x.toNat : Nat) : Int) := by omega
      have hx2 := byte_lt x
      obtain ⟨a1, s1, hb1⟩ := slice_h a' r c' n (by omega) hrc
      obtain ⟨a2, s2, hb2⟩ := slice_l a' r c' n (by omega) hrc
      have hr1 : runs r = x :: r.take 128 ++ runs (r.drop 128) := by rw [runs_cons hr, hx, hn]
      have ht1 : r.take 128 = r.take n := by
        by_cases h : r.length ≤ 128
        · rw [List.take_of_length_le h, List.take_of_length_le (by omega)]
        · rw [show n = 128 by omega]
      have hd1 : r.drop 128 = r.drop n := by
        by_cases h : r.length ≤ 128
        · rw [List.drop_of_length_le h, List.drop_of_length_le (by omega)]
        · rw [show n = 128 by omega]
      have HE : Aside ((done ++ x :: r.take n) ++ runs (r.drop n) = L ++ runs l) := by
        rw [← hE.out, hr1, ht1, hd1]
        exact aside (by simp)
      have hlen : done.length + 1 + n ≤ 1048576 := by
        have := congrArg List.length hE.out
        rw [hr1, ht1] at this
        simp only [List.length_append, List.length_cons, List.length_take] at this
        omega
      have hA := below_al wr (.cells #[.int .u8 (x.toNat : Nat)] 5)
      have HG1 := aside (hG.out.quiet hA)
      have HX1 : Aside (BsAt (wr.alloc (.cells #[.int .u8 (x.toNat : Nat)] 5)) (some ⟨wr.heap.size, 0, none⟩) [x]) := bs_row (heap_new wr _)
      have HMN := aside hmin
      have HB1 := aside (hb1 w0 hS.out)
      have HB2 := aside (hb2 w0 hS.out)
      have hln : (r.take n).length = n := by rw [List.length_take]; omega
      have HLN := aside hln
      have hdl : (r.drop n).length < r.length := by rw [List.length_drop]; omega
      have hdc : (r.drop n).length ≤ c' - n := by rw [List.length_drop]; omega
      have hnn : n ≤ 128 := by omega
      have hn1 : 1 ≤ n := by omega
      generalize r.take n = rt at *
      generalize r.drop n = rd at *
      clear hx hxn hn hmin hr1 ht1 hd1 hA hb1 hb2 hS hG hE hln
      go_wp2_with (first
        | ((with_reducible refine wpList_min2 _ rfl _ _ _ rfl (128 : Int) (r.length : Int) (n : Int) ?_ ?_ HMN.out ?_); rfl; rfl)
        | (at_builtin; refine wpList_app rfl _ _ rfl u0 done [x] _ 1 rfl rfl HG1.out.own HX1.out (by simp; omega) ?_))
      intro v4 w4 ho4 hu4 hv4
      have hg4 := HG1.out.app ho4 hu4 (by simpa using hv4)
      have HG4 := aside hg4
      have HB4 := aside (HB1.out.below hg4.below)
      clear ho4 hu4 hv4 hg4
      go_wp2_with (at_builtin; refine wpList_app rfl _ _ rfl v4 (done ++ [x]) rt _ _ rfl rfl HG4.out.own HB4.out (by have := HLN.out; simp; omega) ?_)
      intro v5 w5 ho5 hu5 hv5
      have HG5 := aside (HG4.out.app ho5 hu5 hv5)
      clear ho5 hu5 hv5
      go_wp2_with fail
      go_roundw
      case rel => exact ⟨v5, done ++ x :: rt, rd, a2, c' - n, rfl, rfl, hdc, HB2, HG5, HE⟩
      case measure => simp [lenV]; omega
end Go.Proofs.Ytlcglnagekmogaa
