/- pack.tell and pack.Unpack: what packed bytes stand for. -/
import Derived.Test.YtlcglnagekmogaaRepeat
import Derived.Deep.LoopGhost
import Derived.ScopeJumps
namespace Go.Proofs.Ytlcglnagekmogaa
open Go.RowKit
attribute [local simp] lcells_nil readB_length bcells_length
set_option maxRecDepth 20000
def lenV : Value → Nat | .slice _ n _ => n | _ => 0

/-- What tell answers. -/
def TellR (w w' : World) (n : Nat) (o : Option (List UInt8)) (e : Ending) : Prop :=
  (∃ t, o = some t ∧ e = .returned (.tuple #[.slice (some ⟨w.heap.size, 0, none⟩) n n, .bool true]) ∧ RowB w' w.heap.size t) ∨ (o = none ∧ e = .returned (.tuple #[.slice none 0 0, .bool false]))

theorem upd_new {w wr w' : World} (hB : Below w.heap.size w wr) (hU : Upd (fun j => j = w.heap.size) wr w') : Below w.heap.size w w' := hB.trans (hU.below hB.size (fun q hq => by omega))

set_option maxHeartbeats 4000000 in
theorem tell_any (a : Option Addr) (l : List UInt8) (c n : Nat) (w : World) (h : BsAt w a l) (hlc : l.length ≤ c) (hc : c ≤ 9223372036854775807) (hn : n ≤ 65536) :
    Calls Try.prog 30 #[.slice a l.length c, .int .i64 (n : Int)] w fun e w' => TellR w w' n (unpk n [] l) e ∧ Below w.heap.size w w' := by
  have hmk := make_bytes w n (by omega)
  have HBS := aside h
  have HR0 : Aside (RowB (w.alloc (.cells (bcells (List.replicate n 0)).toArray 5)) w.heap.size (List.replicate n 0)) := heap_alloc_new w _
  clear h
  go_enter Try.func30, Try.ntmps30
  go_wp2
  go_step3
  go_wp2
  go_step3
  go_wp2
  go_loopw [0, 6] (fun s0 s6 wr => ∃ (r told : List UInt8) (a' : Option Addr) (c' p : Nat), s0 = .slice a' r.length c' ∧ s6 = .int .i64 (p : Int) ∧ r.length ≤ c' ∧ c' ≤ 9223372036854775807 ∧ p ≤ n ∧ Aside (told.length = p) ∧ Aside (BsAt w a' r) ∧ Aside (RowB wr w.heap.size (told ++ List.replicate (n - p) 0)) ∧ Aside (Below w.heap.size w wr) ∧ Aside (unpk n told r = unpk n [] l)) (fun s0 _ _ => lenV s0)
  case atStart => exact ⟨l, [], a, c, 0, rfl, rfl, hlc, hc, Nat.zero_le _, aside rfl, HBS, HR0, aside (below_al w _), aside rfl⟩
  case round =>
    obtain ⟨r, told, a', c', p, rfl, rfl, hrc, hcc, hpn, hT, hS, hR, hB, hU⟩ := hrel
    cases r with
    | nil =>
      have t1 : ¬ ((0 : Int) < 0) := by omega
      by_cases h2 : p < n
      · have t2 : (p : Int) < (n : Int) := by omega
        have HN : Aside (unpk n [] l = none) := by
          have := hU.out
          rw [unpk_nil, if_neg (by have := hT.out; omega)] at this
          exact this.symm
        go_wp2_with fail
        go_ret2
        exact ⟨.inr ⟨HN.out, rfl⟩, hB.out⟩
      · have t2 : ¬ ((p : Int) < (n : Int)) := by omega
        obtain rfl : p = n := by omega
        have HN : Aside (unpk p [] l = some told) := by
          have := hU.out
          rw [unpk_nil, if_pos hT.out] at this
          exact this.symm
        have HRR : Aside (RowB wr w.heap.size told) := by
          have := hR.out
          rwa [Nat.sub_self, List.replicate_zero, List.append_nil] at this
        go_wp2_with fail
        go_ret2
        exact ⟨.inl ⟨told, HN.out, rfl, HRR.out⟩, hB.out⟩
    | cons c0 r' =>
      obtain ⟨g, o, rfl, hcell⟩ := bs_plain (hS.out.below hB.out) (by simp)
      have z0 : wr.cell? ⟨g, o, none⟩ = some (.int .u8 (c0.toNat : Nat)) := hcell 0 c0 rfl
      have hb0 := byte_lt c0
      have t1 : (0 : Int) < ((r'.length + 1 : Nat) : Int) := by omega
      have hrl : (c0 :: r').length = r'.length + 1 := rfl
      rw [hrl] at hrc
      generalize hx0 : c0.toNat = x at *
      by_cases h1 : x < 128
      · have t2 : (x : Int) < 128 := by omega
        by_cases h2 : r'.length < x + 1 ∨ n - p < x + 1
        · have HN : Aside (unpk n [] l = none) := by
            have := hU.out
            rw [unpk_run n told c0 r' (by omega), if_pos (by rw [hx0]; have := hT.out; omega)] at this
            exact this.symm
          by_cases h3 : r'.length < x + 1
          · have t3 : ((r'.length + 1 : Nat) : Int) < (x : Int) + 2 := by omega
            go_wp2_with fail
            go_ret2
            exact ⟨.inr ⟨HN.out, rfl⟩, hB.out⟩
          · have t3 : ¬ (((r'.length + 1 : Nat) : Int) < (x : Int) + 2) := by omega
            have t4 : (n : Int) - (p : Int) < (x : Int) + 1 := by omega
            go_wp2_with fail
            go_ret2
            exact ⟨.inr ⟨HN.out, rfl⟩, hB.out⟩
        · have t3 : ¬ (((r'.length + 1 : Nat) : Int) < (x : Int) + 2) := by omega
          have t4 : ¬ ((n : Int) - (p : Int) < (x : Int) + 1) := by omega
          obtain ⟨a2, s3, hb3⟩ := slice_l (some ⟨g, o, none⟩) (c0 :: r') c' (x + 2) (by rw [hrl]; omega) (by rw [hrl]; omega)
          rw [show ((x + 2 : Nat) : Int) = (x : Int) + 2 by omega, show (c0 :: r').length = r'.length + 1 from rfl, show (c0 :: r').drop (x + 2) = r'.drop (x + 1) from rfl] at s3
          have HS3 : Aside (BsAt w a2 (r'.drop (x + 1))) := hb3 w hS.out
          have s1 : ∀ W, (Instr.slice 22 (.slice (some ⟨w.heap.size, 0, none⟩) n n) (some (.int .i64 (p : Int))) none none).run Try.prog W = .ok (.slice (some ⟨w.heap.size, p, none⟩) (n - p) (n - p)) W := fun W => by
            rw [run_slice_l W 22 _ n n elem22 .i64 _ (by omega) (by omega), size22]
            simp only [Result.andThen, sliced, Int.toNat_natCast]
            rw [if_neg (by omega), Option.map_some, Addr.add_lit, Nat.zero_add, Nat.mul_one]
          have s2 : ∀ W, (Instr.slice 22 (.slice (some ⟨g, o, none⟩) (r'.length + 1) c') (some (.int .i64 1)) (some (.int .i64 ((x : Int) + 2))) none).run Try.prog W = .ok (.slice (some ⟨g, o + 1, none⟩) (x + 1) (c' - 1)) W := fun W => by
            rw [run_slice_lh W 22 _ _ c' elem22 .i64 .i64 _ _ (by omega) (by omega) (by omega), size22]
            simp only [Result.andThen, sliced]
            rw [show ((x : Int) + 2).toNat = x + 2 by omega, show (1 : Int).toNat = 1 from rfl, if_neg (by omega), Option.map_some, Addr.add_lit, Nat.mul_one]
            rfl
          have hRd : RowB wr.drew w.heap.size (told ++ List.replicate (n - p) 0) := hR.out.below (below_dr wr)
          have hcs : (r'.take (x + 1)).length = x + 1 := by rw [List.length_take]; omega
          have hbs : BsAt wr.drew (some ⟨g, o + 1, none⟩) (r'.take (x + 1)) := bs_of fun i z hz => by
            rw [List.getElem?_take] at hz
            split at hz
            · rw [Nat.add_assoc, Nat.add_comm 1 i]; exact hcell (i + 1) z hz
            · cases hz
          have hnew : splice (told ++ List.replicate (n - p) 0) p (r'.take (x + 1)) = (told ++ r'.take (x + 1)) ++ List.replicate (n - (p + (x + 1))) 0 := by
            have := splice_end (told := told) (rest := List.replicate (n - p) 0) (cs := r'.take (x + 1))
            rw [hT.out, hcs, List.drop_replicate] at this
            rw [this, show n - p - (x + 1) = n - (p + (x + 1)) by omega]
          have hcp : ∀ ty c1 c2, (Builtin.copy_ #[22, 22] ty #[.slice (some ⟨w.heap.size, p, none⟩) (n - p) c1, .slice (some ⟨g, o + 1, none⟩) (x + 1) c2]).run Try.prog wr.drew = .ok (goInt (x + 1 : Nat)) (wr.drew.setRow w.heap.size (bcells ((told ++ r'.take (x + 1)) ++ List.replicate (n - (p + (x + 1))) 0)).toArray) := fun ty c1 c2 => by
            have := copy_row (dLen := n - p) (dCap := c1) (sLen := x + 1) (sCap := c2) ty hRd hbs (off := p) (by rw [hcs]; omega) (by rw [hcs, List.length_append, List.length_replicate, hT.out]; omega)
            rw [this, hnew, hcs]
          have HRN := hRd.set (l := (told ++ r'.take (x + 1)) ++ List.replicate (n - (p + (x + 1))) 0)
          have HBN : Below w.heap.size w (wr.drew.setRow w.heap.size (bcells ((told ++ r'.take (x + 1)) ++ List.replicate (n - (p + (x + 1))) 0)).toArray) := upd_new hB.out ((Upd.of_below (F := fun i => i = w.heap.size) (below_dr wr)).trans (upd_setRow (F := fun i => i = w.heap.size) wr.drew w.heap.size _ rfl) (fun _ _ h => h))
          have HUN : unpk n (told ++ r'.take (x + 1)) (r'.drop (x + 1)) = unpk n [] l := by
            have := hU.out
            rwa [unpk_run n told c0 r' (by omega), if_neg (by rw [hx0]; have := hT.out; omega), hx0] at this
          have HTN : (told ++ r'.take (x + 1)).length = p + (x + 1) := by rw [List.length_append, hcs, hT.out]
          have hdl : (r'.drop (x + 1)).length < r'.length + 1 := by rw [List.length_drop]; omega
          have hdc : (r'.drop (x + 1)).length ≤ c' - (x + 2) := by rw [List.length_drop]; omega
          have hdc2 : c' - (x + 2) ≤ 9223372036854775807 := by omega
          obtain ⟨z, hz⟩ : ∃ z, z = p + (x + 1) := ⟨_, rfl⟩
          rw [← hz] at hcp HRN HBN HTN
          have htx : (p : Int) + ((x : Int) + 1) = (z : Int) := by omega
          have hwz : IntKind.i64.wrap (z : Int) = (z : Int) := by rw [IntKind.wrap_i64]; omega
          have hzn : z ≤ n := by omega
          obtain ⟨told', htd⟩ : ∃ t, t = told ++ r'.take (x + 1) := ⟨_, rfl⟩
          rw [← htd] at hcp HRN HBN HTN HUN
          obtain ⟨r2, hr2⟩ : ∃ t, t = r'.drop (x + 1) := ⟨_, rfl⟩
          rw [← hr2] at s3 hdl hdc HS3 HUN
          have HCP := aside hcp
          have HR1 := aside HRN
          have HB1 := aside HBN
          have HU1 := aside HUN
          have HT1 := aside HTN
          clear hr2 htd hz HTN HUN HBN HRN hcp hnew hbs hcs hRd hb3 hcell hT hS hR hB hU
          go_wp2_with fail
          go_region_law (refine step_copy_to rfl _ _ 22 22 rfl _ _ (by simp [Act.eval, Act.put]; rfl) (by simp [Act.eval, Act.put]; rfl) (HCP.out _ _ _) ?_)
          all_goals
            simp only [Act.put, List.getElem_toArray, List.getElem_cons_succ, List.getElem_cons_zero, List.setIfInBounds_toArray, List.set_cons_succ, List.set_cons_zero]
            go_wp2
            go_roundw
            case rel => exact ⟨r2, told', a2, c' - (x + 2), z, rfl, by go_num, hdc, hdc2, hzn, HT1, HS3, HR1, HB1, HU1⟩
            case measure => simp [lenV]; omega
      · have t2 : ¬ ((x : Int) < 128) := by omega
        cases r' with
        | nil =>
          have HN : Aside (unpk n [] l = none) := by
            have := hU.out
            rw [unpk_mat0 n told c0 (by omega)] at this
            exact this.symm
          go_wp2_with fail
          go_ret2
          exact ⟨.inr ⟨HN.out, rfl⟩, hB.out⟩
        | cons d0 r2 =>
          have z1 : wr.cell? ⟨g, o + 1, none⟩ = some (.int .u8 (d0.toNat : Nat)) := hcell 1 d0 rfl
          have hb1 := byte_lt d0
          have t3 : ¬ (((r2.length + 1 + 1 : Nat) : Int) < 2) := by omega
          obtain ⟨k, hk⟩ : ∃ k, k = x - 125 := ⟨_, rfl⟩
          have hxk : (x : Int) - 128 + 3 = (k : Int) := by omega
          generalize hy0 : d0.toNat = y at *
          have hA := below_al wr (.cells #[.int .i64 (k : Int), .int .i64 (y : Int)] 103)
          by_cases h2 : y = 0 ∨ p < y ∨ n - p < k
          · have HN : Aside (unpk n [] l = none) := by
              have := hU.out
              rw [unpk_mat n told c0 d0 r2 (by omega), if_pos (by rw [hx0, hy0]; have := hT.out; omega)] at this
              exact this.symm
            have HB1 := aside (below_tr hB.out hA)
            have HK := aside hk
            clear hk hA hcell
            by_cases h3 : y = 0
            · subst h3
              go_wp2_with fail
              go_ret2
              exact ⟨.inr ⟨HN.out, rfl⟩, HB1.out⟩
            · have t4 : ¬ ((y : Int) = 0) := by omega
              have t4' : ((y : Int) == 0) = false := by simp; omega
              by_cases h5 : p < y
              · have t5 : (p : Int) < (y : Int) := by omega
                go_wp2_with fail
                go_ret2
                exact ⟨.inr ⟨HN.out, rfl⟩, HB1.out⟩
              · have t5 : ¬ ((p : Int) < (y : Int)) := by omega
                have t6 : (n : Int) - (p : Int) < (k : Int) := by omega
                go_wp2_with fail
                go_ret2
                exact ⟨.inr ⟨HN.out, rfl⟩, HB1.out⟩
          · have t4 : ¬ ((y : Int) = 0) := by omega
            have t4' : ((y : Int) == 0) = false := by simp; omega
            have t5 : ¬ ((p : Int) < (y : Int)) := by omega
            have t6 : ¬ ((n : Int) - (p : Int) < (k : Int)) := by omega
            obtain ⟨a2, s3, hb3⟩ := slice_l (some ⟨g, o, none⟩) (c0 :: d0 :: r2) c' 2 (by simp only [List.length_cons]; omega) (by rw [hrl]; omega)
            rw [show ((2 : Nat) : Int) = 2 from rfl, show (c0 :: d0 :: r2).length = r2.length + 1 + 1 from rfl, show (c0 :: d0 :: r2).drop 2 = r2 from rfl] at s3
            have HS3 : Aside (BsAt w a2 r2) := hb3 w hS.out
            have HRP := aside (repeat_any w.heap.size n p k y told (List.replicate (n - p) 0) _ (hR.out.below hA) hT.out (by rw [List.length_replicate]; omega) (by rw [List.length_replicate]; omega) (by omega) (by omega) hn)
            have HUN : Aside (unpk n (cpy y k told) r2 = unpk n [] l) := by
              have := hU.out
              rwa [unpk_mat n told c0 d0 r2 (by omega), if_neg (by rw [hx0, hy0]; have := hT.out; omega), hx0, hy0, ← hk] at this
            obtain ⟨z, hz⟩ : ∃ z, z = p + k := ⟨_, rfl⟩
            have HTN : Aside ((cpy y k told).length = z) := by rw [cpy_length, hT.out]; exact hz.symm
            have htx : (p : Int) + (k : Int) = (z : Int) := by omega
            have hzn : z ≤ n := by omega
            have hdc : r2.length ≤ c' - 2 := by simp at hrc; omega
            have hdc2 : c' - 2 ≤ 9223372036854775807 := by omega
            have HRE : Aside ((List.replicate (n - p) (0 : UInt8)).drop k = List.replicate (n - z) 0) := aside (by rw [List.drop_replicate, show n - p - k = n - z by omega])
            have HB1 := aside (below_tr hB.out hA)
            have c0' : (wr.alloc (.cells #[.int .i64 (k : Int), .int .i64 (y : Int)] 103)).heap[wr.heap.size]? = some (.cells #[.int .i64 (k : Int), .int .i64 (y : Int)] 103 (0, 0)) := heap_alloc_new wr _
            clear hk hz hA hcell hb3 hT hS hR hB hU
            go_wp2_with fail
            refine HRP.out.mono ?_
            rintro e w2 ⟨rfl, hrw, hup⟩
            rw [HRE.out] at hrw
            have HR2 := aside hrw
            have HB2 := aside (upd_new HB1.out hup)
            clear hrw hup
            go_wp2_with fail
            go_roundw
            case rel => exact ⟨r2, cpy y k told, a2, c' - 2, z, rfl, by go_num, hdc, hdc2, hzn, HTN, HS3, HR2, HB2, HUN⟩
            case measure => simp [lenV]; omega
end Go.Proofs.Ytlcglnagekmogaa
