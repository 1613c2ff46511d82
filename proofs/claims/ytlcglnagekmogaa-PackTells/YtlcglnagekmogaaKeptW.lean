/- kept: a call's argument is left as it is, its answer is new memory. -/
import Derived.Test.YtlcglnagekmogaaRefUnp
namespace Go.Proofs.Ytlcglnagekmogaa
open Go.RowKit
attribute [local simp] lcells_nil readB_length bcells_length
set_option maxRecDepth 20000

/-- append of one byte to bytes with no room behind them. -/
theorem app_full {W : World} {a : Option Addr} {B : List UInt8} {ad : Addr} {x : UInt8} {c : Nat} (ty : TypeId) (hB : BsAt W a B) (hx : BsAt W (some ad) [x]) (hl : B.length ≤ 1048576) :
    ∃ c' W', (Builtin.append_ #[22, 22] ty #[.slice a B.length B.length, .slice (some ad) 1 c]).run Try.prog W = .ok (.slice (some ⟨W.heap.size, 0, none⟩) (B.length + 1) c') W' ∧ Below W.heap.size W W' := by
  obtain ⟨i, hi, hz, hs, hb⟩ := info_parts info5
  obtain ⟨ad2, he, hc2⟩ := hx (by simp)
  obtain rfl : ad = ad2 := by simpa using he
  cases a with
  | none =>
    obtain rfl : B = [] := by
      by_cases h : B = []
      · exact h
      · obtain ⟨_, h1, _⟩ := hB h; cases h1
    have := run_append_nil (P := Try.prog) W 22 ty 5 i (.int .u8 0) Try.underlying22 hi hz ad 1 c (bcells [x]) (by rw [hs]; rfl) hc2 (by decide) (by decide) (by rw [hb]; decide)
    exact ⟨_, _, this, below_tr (below_dr W) (below_al W.drew _)⟩
  | some b =>
    have := run_append_grow (P := Try.prog) W 22 ty 5 i (.int .u8 0) Try.underlying22 hi hz b B.length B.length (bcells B) (by rw [hs]; simp) (fun j v hj => by
      have hne : B ≠ [] := fun h0 => by rw [h0] at hj; simp [bcells] at hj
      obtain ⟨b2, h1, h2⟩ := hB hne
      obtain rfl : b = b2 := by simpa using h1
      exact h2 j v hj) ad 1 c (bcells [x]) (by rw [hs]; rfl) hc2 (by omega) (by omega) (by rw [hb]; exact growslice_fits (by omega) (by omega))
    exact ⟨_, _, this, below_tr (below_dr W) (below_al W.drew _)⟩

theorem wpList_app_run {w : World} {ops : Array Oper} {rest : List Oper} {o : Oper} {a : Act} {Q : Exit → Act → World → Prop} (hgd : o.guard = none) (s x : Operand)
    (ho : o.op = .call { callee := .builtin .append, args := #[s, x], argTypes := #[22, 22] }) (v u : Value) (hs : a.eval s = v) (hx : a.eval x = u) {v' : Value} {w' : World}
    (hr : (Builtin.append_ #[22, 22] o.type #[v, u]).run Try.prog w = .ok v' w') (h : wpList Try.prog ops Q rest (a.put o.dst v') w') : wpList Try.prog ops Q (o :: rest) a w := by
  refine wpList_plain hgd fun K hK => ?_
  unfold Oper.wp execOp
  simp only [ho, resolve, invoke, builtin, Sem.run_bind, Sem.run_pure, Result.andThen_ok, List.map_toArray, List.map_cons, List.map_nil, hs, hx, hr]
  exact hK _ _ h

/-- What a call is told to answer, of these bytes. -/
def Tells (F : Nat) (l B : List UInt8) (E : Int) : Prop := ∀ (W : World) (a : Option Addr) (c : Nat), BsAt W a l → l.length ≤ c → c ≤ 9223372036854775807 →
  Calls Try.prog F #[.slice a l.length c] W fun e w' => (∃ a', e = .returned (.tuple #[.slice a' B.length B.length, .int .i64 E]) ∧ Ans w' W.heap.size a' B) ∧ Below W.heap.size W w'
def KeptR (w w' : World) (B : List UInt8) (E : Int) (e : Ending) : Prop := ∃ a', e = .returned (.tuple #[.slice a' B.length B.length, .int .i64 E, .bool true]) ∧ BsAt w' a' B ∧ Below w.heap.size w w'

set_option maxHeartbeats 8000000 in
theorem kept_any (F : Nat) (eg : ∀ args w, (callFunc F args).run Try.prog w = .ok (.enter F args) w) (l B : List UInt8) (E : Int) (hF : Tells F l B E) (a : Option Addr) (c : Nat) (w : World) (h : BsAt w a l) (_hlc : l.length ≤ c) (hl : l.length ≤ 1048576) (hBl : B.length ≤ 1048576) :
    Calls Try.prog 10 #[.func (.func F) #[] #[], .slice a l.length c] w fun e w' => KeptR w w' B E e := by
  have HF := aside hF
  have HBS := aside h
  have HG0 : Aside (Grw w w (.slice none 0 0) []) := ⟨own_none w, Below.refl _ _, fun k hk => by simp [Value.ownBlock] at hk⟩
  clear h hF
  go_enter Try.func10, Try.ntmps10
  go_wp2_with (at_builtin; refine wpList_app rfl _ _ rfl (.slice none 0 0) [] l a c rfl rfl HG0.out.own HBS.out (by simp; omega) ?_)
  intro v1 w1 ho1 hu1 hv1
  have hg1 := HG0.out.app ho1 hu1 hv1
  have hA := below_al w1 (.cells #[.int .u8 78] 5)
  have HG1 := aside (hg1.quiet hA)
  have HX1 : Aside (BsAt (w1.alloc (.cells #[.int .u8 78] 5)) (some ⟨w1.heap.size, 0, none⟩) [78]) := bs_row (heap_new w1 _)
  clear ho1 hu1 hv1 hg1 hA
  go_wp2_with (at_builtin; refine wpList_app rfl _ _ rfl v1 ([] ++ l) [78] _ 1 rfl rfl HG1.out.own HX1.out (by simp; omega) ?_)
  intro v2 w2 ho2 hu2 hv2
  have hg2 := HG1.out.app ho2 hu2 (by simpa using hv2)
  obtain ⟨aR, cR, rfl, hR1, hR2, hRb⟩ := hg2.own.tel
  unfold maxLen at hR2
  obtain ⟨ar, s1, hbr⟩ := slice_h aR (l ++ [78]) cR l.length (by simp) hR1
  rw [List.take_left] at s1
  rw [List.take_left] at hbr
  obtain ⟨gR, oR, rfl, hcR⟩ := bs_plain hRb (by simp)
  obtain ⟨nR, hnR⟩ : ∃ nR, nR = (l ++ [78]).length := ⟨_, rfl⟩
  have hnR2 : nR = l.length + 1 := by rw [hnR]; simp
  have hRlt : gR < w2.heap.size := World.block_lt_of_cell? w2 ⟨gR, oR + l.length, none⟩ (hcR l.length 78 (by simp))
  have HRC : Aside (∀ W, Below w2.heap.size w2 W → BsAt W ar l ∧ W.cell? ⟨gR, oR + l.length, none⟩ = some (.int .u8 78)) := fun W hW => ⟨hbr W (hRb.below hW), (hW.cell (p := ⟨gR, oR + l.length, none⟩) hRlt).trans (hcR l.length 78 (by simp))⟩
  have HB2 := aside hg2.below
  have P1 := aside (HF.out w2 ar cR (HRC.out w2 (Below.refl _ _)).1 (by omega) (by omega))
  rw [← hnR] at s1 hR1 ⊢
  have tR : (l.length : Int) < (nR : Int) := by omega
  have hlcR : l.length ≤ cR := by omega
  clear ho2 hu2 hv2 hg2 hRb hcR hbr hnR hnR2 HG0 HG1 HX1
  go_wp2_with fail
  refine P1.out.mono ?_
  rintro e w3 ⟨⟨a1, rfl, h1⟩, hb3⟩
  have P2 := aside (HF.out w3 ar cR (HRC.out w3 hb3).1 hlcR (by omega))
  have HB23 := aside hb3
  have HA1 := aside h1
  clear h1 hb3 P1
  go_wp2_with fail
  refine P2.out.mono ?_
  rintro e w4 ⟨⟨a2, rfl, h2⟩, hb4⟩
  have HB24 := aside (below_tr HB23.out hb4)
  have HA1' := aside (HA1.out.below hb4)
  have HA2 := aside h2
  have hs34 := hb4.size
  have hs23 := HB23.out.size
  have E1 := aside (equal_same a1 a2 B B.length B.length w4 HA1'.out.bs h2.bs)
  have E2 := aside (equal_same ar a l cR c w4 (HRC.out w4 HB24.out).1 (HBS.out.below (below_tr HB2.out HB24.out)))
  have z1 := (HRC.out w4 HB24.out).2
  have HA1w : Aside (Ans w3 w2.heap.size a1 B) := HA1
  clear h2 hb4 P2 HA1
  go_wp2_with fail
  refine E1.out.mono ?_
  rintro e w' ⟨rfl, rfl⟩
  go_wp2_with fail
  refine E2.out.mono ?_
  rintro e w' ⟨rfl, rfl⟩
  clear E1 E2
  go_wp2_with fail
  have HSP : Aside (B ≠ [] → ∃ g1 cur, a1 = some ⟨g1, 0, none⟩ ∧ w2.heap.size ≤ g1 ∧ g1 < w3.heap.size ∧ RowB w' g1 cur ∧ B.length ≤ cur.length) := fun hne => by
    obtain ⟨g1, cur, rfl, hg, hr, hcl, -⟩ := HA1w.out hne
    obtain ⟨g1', cur', he, -, hr', hcl', -⟩ := HA1'.out hne
    obtain rfl : g1 = g1' := by simpa using he
    exact ⟨g1, cur', rfl, hg, hr.lt, hr', hcl'⟩
  clear HA1w HA1'
  go_loopw [65] (fun s65 wr => ∃ k : Nat, k ≤ B.length ∧ s65 = .int .i64 (k : Int) ∧ Aside (Upd (fun j => w2.heap.size ≤ j ∧ j < w3.heap.size) w' wr) ∧ Aside (B ≠ [] → ∃ g1 cur, a1 = some ⟨g1, 0, none⟩ ∧ w2.heap.size ≤ g1 ∧ g1 < w3.heap.size ∧ RowB wr g1 cur ∧ B.length ≤ cur.length)) (fun s65 _ => B.length - (intOf s65).toNat)
  case atStart => exact ⟨0, Nat.zero_le _, rfl, aside (Upd.refl _ _), HSP⟩
  case round =>
    obtain ⟨k, hk, rfl, hU, hS⟩ := hrel
    by_cases hlt : k < B.length
    · have t1 : (k : Int) < (B.length : Int) := by omega
      obtain ⟨g1, cur, rfl, hg1, hg2, hrow, hcl⟩ := hS.out (fun h0 => by rw [h0] at hlt; simp at hlt)
      obtain ⟨y, hy⟩ : ∃ y, cur[k]? = some y := ⟨_, List.getElem?_eq_getElem (by omega)⟩
      have z2 := hrow.cell hy
      have z3 : wr.frozen? ⟨g1, k, none⟩ = false := frozen_of_row wr g1 k _ _ hrow
      have HU1 : Aside (Upd (fun j => w2.heap.size ≤ j ∧ j < w3.heap.size) w' (wr.setCell ⟨g1, k, none⟩ (.int .u8 77))) := hU.out.trans (Upd.setCell (F := fun j => w2.heap.size ≤ j ∧ j < w3.heap.size) (p := ⟨g1, k, none⟩) ⟨hg1, hg2⟩ _) (fun _ _ h => h)
      have HS1 : Aside (B ≠ [] → ∃ g cur', some (⟨g1, 0, none⟩ : Addr) = some ⟨g, 0, none⟩ ∧ w2.heap.size ≤ g ∧ g < w3.heap.size ∧ RowB (wr.setCell ⟨g1, k, none⟩ (.int .u8 77)) g cur' ∧ B.length ≤ cur'.length) := fun _ => ⟨g1, cur.set k 77, rfl, hg1, hg2, by
        have := row_setCell (o := k) (x := 77) hrow
        rw [show ((77 : UInt8).toNat : Nat) = 77 from rfl] at this
        exact this ▸ hrow.set, by simpa using hcl⟩
      clear hrow hcl hy hU hS
      go_wp2_with fail
      go_roundw
      case rel => exact ⟨k + 1, by omega, by go_num, HU1, HS1⟩
      case measure => simp [intOf]; omega
    · have t1 : ¬ ((k : Int) < (B.length : Int)) := by omega
      obtain ⟨B', hBl', hB'⟩ : ∃ B' : List UInt8, B'.length = B.length ∧ BsAt wr a1 B' := by
        by_cases h0 : B = []
        · exact ⟨[], by rw [h0], fun h => absurd rfl h⟩
        · obtain ⟨g1, cur, rfl, -, -, hrow, hcl⟩ := hS.out h0
          refine ⟨cur.take B.length, by rw [List.length_take]; omega, bs_of fun j x hj => ?_⟩
          rw [Nat.zero_add]
          refine hrow.cell ?_
          rw [List.getElem?_take] at hj
          split at hj
          · exact hj
          · cases hj
      have hA := below_al wr (.cells #[.int .u8 79] 5)
      obtain ⟨c5, W5, hap, hb5⟩ := app_full (W := wr.alloc (.cells #[.int .u8 79] 5)) (a := a1) (B := B') (ad := ⟨wr.heap.size, 0, none⟩) (x := 79) (c := 1) 22 (hB'.below hA) (bs_row (heap_new wr _)) (by rw [hBl']; exact hBl)
      rw [hBl'] at hap
      have hU5 : Upd (fun j => w2.heap.size ≤ j ∧ j < w3.heap.size) w' W5 := hU.out.trans (Upd.of_below (F := fun j => w2.heap.size ≤ j ∧ j < w3.heap.size) (below_tr hA hb5)) (fun _ _ h => h)
      have hB25 : Below w2.heap.size w2 W5 := HB24.out.trans (hU5.below HB24.out.size (fun q hq => hq.1))
      have HA5 := aside (HA2.out.upd hU5 (fun j h1 _ h2 => by omega)).bs
      have E3 := aside (equal_same ar a l cR c W5 (HRC.out W5 hB25).1 (HBS.out.below (below_tr HB2.out hB25)))
      have z4 := (HRC.out W5 hB25).2
      have HBW := aside (below_tr HB2.out hB25)
      have HAP := aside hap
      clear hap hA hb5 hU5 hB25 hB' hS hU HSP hBl' z1
      go_wp2_with (at_builtin; refine wpList_app_run rfl _ _ rfl (.slice a1 B.length B.length) (.slice (some ⟨wr.heap.size, 0, none⟩) 1 1) rfl rfl HAP.out ?_)
      refine E3.out.mono ?_
      rintro e w6 ⟨rfl, rfl⟩
      go_wp2_with fail
      go_ret3
      exact ⟨a2, rfl, HA5.out, HBW.out⟩
end Go.Proofs.Ytlcglnagekmogaa
