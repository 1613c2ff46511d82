/- great, Ordered, Parent: what TreeBack and TreeMoved ask of the document. Ordered: a list in the order of its paths. Parent: a path without its last name. The mathematics of TreeBack: a list in its order makes the same tree. -/
import Derived.Test.YtbnaegoahdcejaaGreatDoorGH
namespace Go.Proofs.YtbnaegoahdcejaaGreatDoor
open Go.RowKit Go.ChangeMaps

theorem elemI : Tryz.prog.underlying 22 = some (.slice (Tryz.prog.elem 22)) := by kernel_rfl
theorem sizeE (w : World) : (Go.sizeOf (Tryz.prog.elem 22)).run Tryz.prog w = .ok 3 w := by kernel_rfl
theorem ims_drop (ms : List Im) (i : Nat) : ims (ms.drop i) = (ims ms).drop (i * 3) := by
  induction ms generalizing i with
  | nil => simp [ims]
  | cons m ms ih =>
    cases i with
    | zero => simp
    | succ i =>
      have := ih i
      rw [List.drop_succ_cons, this, show (i + 1) * 3 = i * 3 + 1 + 1 + 1 by omega]
      simp [ims, Im.cs]
theorem ims_take (ms : List Im) (i : Nat) : ims (ms.take i) = (ims ms).take (i * 3) := by
  induction ms generalizing i with
  | nil => simp [ims]
  | cons m ms ih =>
    cases i with
    | zero => simp [ims]
    | succ i =>
      have := ih i
      rw [List.take_succ_cons, show (i + 1) * 3 = i * 3 + 1 + 1 + 1 by omega]
      simp only [ims, List.flatMap_cons, Im.cs] at this ⊢
      simp [this]
theorem Inp.drop {W : World} {a : Option Addr} {ms : List Im} {c i : Nat} (h : Inp W a ms) (hc : ms.length ≤ c) : Inp W (if c = i then a else a.map (·.add (i * 3))) (ms.drop i) := by
  refine ⟨fun hn => ?_, fun m hm => h.dat m (List.mem_of_mem_drop hm)⟩
  have hlt : i < ms.length := by
    rcases Nat.lt_or_ge i ms.length with h1 | h1
    · exact h1
    · exact absurd (List.drop_of_length_le h1) hn
  obtain ⟨g, o, rfl, hr⟩ := h.cel (fun h0 => by rw [h0] at hlt; simp at hlt)
  rw [if_neg (by omega), Option.map_some, Addr.add_lit]
  refine ⟨g, o + i * 3, rfl, fun j v hj => ?_⟩
  rw [ims_drop, List.getElem?_drop] at hj
  have := hr _ _ hj
  rwa [← Nat.add_assoc] at this
theorem Inp.take {W : World} {a : Option Addr} {ms : List Im} (i : Nat) (h : Inp W a ms) : Inp W a (ms.take i) := by
  refine ⟨fun hn => ?_, fun m hm => h.dat m (List.mem_of_mem_take hm)⟩
  obtain ⟨g, o, rfl, hr⟩ := h.cel (fun h0 => hn (by rw [h0]; simp))
  refine ⟨g, o, rfl, fun j v hj => ?_⟩
  rw [ims_take, List.getElem?_take] at hj
  split at hj
  · exact hr _ _ hj
  · cases hj
/-- list[i:] -/
theorem slice_l (a : Option Addr) (n c i : Nat) (hi : i ≤ n) (hc : n ≤ c) :
    ∃ a', (∀ W, (Instr.slice 22 (.slice a n c) (some (.int .i64 (i : Int))) none none).run Tryz.prog W = .ok (.slice a' (n - i) (c - i)) W) ∧ ∀ w ms, ms.length = n → Inp w a ms → Inp w a' (ms.drop i) := by
  refine ⟨if c = i then a else a.map (·.add (i * 3)), fun W => ?_, fun w L hl h => h.drop (by omega)⟩
  rw [run_slice_l W 22 a n c elemI .i64 _ (by omega) (by omega), sizeE]
  simp only [Result.andThen, sliced, Int.toNat_natCast]
/-- list[:j] -/
theorem slice_h (a : Option Addr) (n c j : Nat) (hj : j ≤ n) (hc : n ≤ c) :
    ∀ W, (Instr.slice 22 (.slice a n c) none (some (.int .i64 (j : Int))) none).run Tryz.prog W = .ok (.slice a j c) W := by
  intro W
  rw [run_slice_h W 22 a n c elemI .i64 _ (by omega) (by omega), sizeE]
  simp only [Result.andThen, sliced, Int.toNat_natCast, Nat.sub_zero, Nat.zero_mul]
  congr 2
  split
  · rfl
  · cases a with
    | none => rfl
    | some x => simp [Addr.add]
/-- Lists of items that are not too great. -/
def Fits (ms : List Im) : Prop := ∀ m ∈ ms, m.p.size ≤ 140737488351232 ∧ m.x.length ≤ 140737488351232
def bulk (ms : List Im) : Nat := (ms.map fun m => m.p.size + m.x.length).sum
theorem bulk_take {ms : List Im} {i : Nat} {m : Im} (h : ms[i]? = some m) : bulk (ms.take (i + 1)) = bulk (ms.take i) + (m.p.size + m.x.length) := by
  unfold bulk
  rw [List.take_add_one, h]
  simp
/-- What great tells. -/
def GreatP (ms : List Im) (w : World) (e : Ending) (w' : World) : Prop := Below w.heap.size w w' ∧ ∃ q, e = .returned (.bool q) ∧ (q = false → ms.length ≤ 200 ∧ bulk ms ≤ 131072)
set_option maxRecDepth 20000 in
set_option maxHeartbeats 4000000 in
theorem great_any (a : Option Addr) (ms : List Im) (n c : Nat) (w : World) (hn : n = ms.length) (hnl : n ≤ 140737488351232) (hI : Inp w a ms) (hF : Fits ms) : Calls Tryz.prog 9 #[.slice a n c] w fun e w' => GreatP ms w e w' := by
  have AI := aside hI
  have AN := aside hn
  have AF := aside hF
  clear hI hn hF
  go_enter Tryz.func9, Tryz.ntmps9
  go_wp2_with fail
  go_loopg [3, 4] (n + 1) (fun g s3 s4 wx => ∃ i y : Nat, i + g = n + 1 ∧ i ≤ n ∧ i ≤ 201 ∧ s4 = .int .i64 (i : Int) ∧ s3 = .int .i64 (y : Int) ∧ Below w.heap.size w wx ∧ y = bulk (ms.take i) ∧ y ≤ 281474976841728)
  case atStart => exact ⟨0, 0, by omega, by omega, by omega, rfl, rfl, Below.refl _ _, rfl, by omega⟩
  case round =>
    obtain ⟨i, y, hig, hin, hi2, rfl, rfl, hbl, hy, hyl⟩ := hrel
    have ABl := aside hbl
    have Ay := aside hy
    clear hbl hy
    by_cases c1 : i < n
    · have d1 : (i : Int) < (n : Int) := by omega
      by_cases c2 : i ≤ 200
      · have d2 : (i : Int) ≤ 200 := by omega
        by_cases c3 : y ≤ 131072
        · have d3 : (y : Int) ≤ 131072 := by omega
          obtain ⟨x, hxi⟩ : ∃ x, ms[i]? = some x := ⟨_, List.getElem?_eq_getElem (by rw [← AN.out]; exact c1)⟩
          obtain ⟨g, o, rfl, e0, -, e2⟩ := (AI.out.below ABl.out).at hxi
          obtain ⟨f1, f2⟩ := AF.out x (List.mem_of_getElem? hxi)
          have hbt := bulk_take hxi
          rw [← Ay.out] at hbt
          have Abt := aside hbt
          have E0 := fun dd os => ext_cell e0 dd os
          have E2 := fun dd os => ext_cell e2 dd os
          obtain ⟨P, hP⟩ : ∃ P, P = x.p := ⟨_, rfl⟩
          obtain ⟨nx, hnx⟩ : ∃ nx, nx = x.x.length := ⟨_, rfl⟩
          have AP := aside hP
          have Anx := aside hnx
          rw [← hP] at E0 f1
          rw [← hnx] at E2 f2
          obtain ⟨u, hu⟩ : ∃ u, u = y + P.size := ⟨_, rfl⟩
          obtain ⟨v, hv⟩ : ∃ v, v = u + nx := ⟨_, rfl⟩
          have hw1 : IntKind.i64.wrap ((y : Int) + (P.size : Int)) = (u : Int) := by rw [wrap_small _ (by omega) (by omega), hu]; simp
          have hw2 : IntKind.i64.wrap ((u : Int) + (nx : Int)) = (v : Int) := by rw [wrap_small _ (by omega) (by omega), hv]; simp
          have hwi : IntKind.i64.wrap ((i : Int) + 1) = ((i + 1 : Nat) : Int) := by rw [wrap_small _ (by omega) (by omega)]; simp
          have Av : Aside (v = bulk (ms.take (i + 1)) ∧ v ≤ 281474976841728) := ⟨by rw [Abt.out, hv, hu, AP.out, Anx.out]; omega, by omega⟩
          have hi0 : (0 : Int) ≤ (i : Int) := by omega
          clear e0 e2 hxi hbt hP hnx hu hv
          go_wp2_with fail
          refine region_ext (by kernel_rfl) (by kernel_rfl) ?_
          repeat (any_goals (first | go_big_quiet_step (fail) | quiet_step (fail)))
          refine wpQuiet_nil ?_
          intro w5 hw5
          have AB5 := aside hw5
          clear hw5
          go_wp2_with fail
          go_roundg (gk - 1)
          case measure => omega
          case rel => exact ⟨i + 1, v, by omega, by omega, by omega, by first | rfl | simp, rfl, below_tr ABl.out AB5.out, Av.out.1, Av.out.2⟩
        · have d3 : ¬ (y : Int) ≤ 131072 := by omega
          have d4 : (131072 : Int) < (y : Int) := by omega
          go_wp2_with fail
          go_ret
          exact ⟨ABl.out, true, rfl, fun h => by cases h⟩
      · have d2 : ¬ (i : Int) ≤ 200 := by omega
        have d4 : (200 : Int) < (n : Int) := by omega
        by_cases c3 : 131072 < y
        · have d5 : (131072 : Int) < (y : Int) := by omega
          go_wp2_with fail
          go_ret
          exact ⟨ABl.out, true, rfl, fun h => by cases h⟩
        · have d5 : ¬ (131072 : Int) < (y : Int) := by omega
          go_wp2_with fail
          go_ret
          exact ⟨ABl.out, true, rfl, fun h => by cases h⟩
    · obtain rfl : i = n := by omega
      have d1 : ¬ (i : Int) < (i : Int) := by omega
      by_cases c3 : 131072 < y
      · have d5 : (131072 : Int) < (y : Int) := by omega
        go_wp2_with fail
        go_ret
        exact ⟨ABl.out, true, rfl, fun h => by cases h⟩
      · have d5 : ¬ (131072 : Int) < (y : Int) := by omega
        have hy2 : bulk ms ≤ 131072 := by
          have := Ay.out
          rw [AN.out, List.take_length] at this
          omega
        have Ay2 := aside hy2
        by_cases c4 : 200 < i
        · have d6 : (200 : Int) < (i : Int) := by omega
          go_wp2_with fail
          go_ret
          exact ⟨ABl.out, true, rfl, fun h => by cases h⟩
        · have d6 : ¬ (200 : Int) < (i : Int) := by omega
          go_wp2_with fail
          go_ret
          exact ⟨ABl.out, false, rfl, fun _ => ⟨by rw [← AN.out]; omega, Ay2.out⟩⟩
end Go.Proofs.YtbnaegoahdcejaaGreatDoor

namespace Go.Proofs.YtbnaegoahdcejaaGreatDoor
open Go.RowKit Go.ChangeMaps

/-- What Ordered tells. -/
def OrdP (ms : List Im) (w : World) (e : Ending) (w' : World) : Prop :=
  Below w.heap.size w w' ∧ ∃ a' c' ms', e = .returned (.slice a' ms.length c') ∧ ms.length ≤ c' ∧ Inp w' a' ms' ∧ ms'.Perm ms ∧ Ris ms'
/-- Where the joining of two lists stands. -/
structure Mg (W : World) (ms xs ys zs : List Im) (s3 s4 s5 : Value) (wx : World) : Prop where
  ax : ∃ a c, s3 = .slice a xs.length c ∧ xs.length ≤ c ∧ Inp W a xs
  ay : ∃ a c, s4 = .slice a ys.length c ∧ ys.length ≤ c ∧ Inp W a ys
  az : ∃ a c, s5 = .slice a zs.length c ∧ wx.ownsRow 0 51 3 (.slice a zs.length c) zs.length (ims zs) ∧ ∀ b, (Value.slice a zs.length c).ownBlock = some b → W.heap.size ≤ b
  bel : Below W.heap.size W wx
  per : (zs ++ (xs ++ ys)).Perm ms
  rz : Ris zs
  rx : Ris xs
  ry : Ris ys
  le : ∀ z ∈ zs, ∀ x ∈ xs ++ ys, z.p.data.toList ≤ x.p.data.toList
theorem mg_push {ms xs ys zs : List Im} {x : Im} (hp : (zs ++ (x :: xs ++ ys)).Perm ms) (hz : Ris zs) (hx : Ris (x :: xs)) (hle : ∀ z ∈ zs, ∀ y ∈ x :: xs ++ ys, z.p.data.toList ≤ y.p.data.toList) (hxy : ∀ y ∈ ys, x.p.data.toList ≤ y.p.data.toList) :
    ((zs ++ [x]) ++ (xs ++ ys)).Perm ms ∧ Ris (zs ++ [x]) ∧ ∀ z ∈ zs ++ [x], ∀ y ∈ xs ++ ys, z.p.data.toList ≤ y.p.data.toList := by
  refine ⟨by simpa using hp, ?_, fun z hz2 y hy => ?_⟩
  · exact List.pairwise_append.2 ⟨hz, List.pairwise_singleton _ _, fun a ha b hb => by rw [List.mem_singleton.1 hb]; exact hle a ha x (by simp)⟩
  · rcases List.mem_append.1 hz2 with hz2 | hz2
    · exact hle z hz2 y (by simp only [List.cons_append, List.mem_cons]; exact .inr hy)
    · rw [List.mem_singleton.1 hz2]
      rcases List.mem_append.1 hy with hy | hy
      · exact (List.pairwise_cons.1 hx).1 y hy
      · exact hxy y hy
theorem mg_app {W wx w7 : World} {zs : List Im} {x : Im} {v v' : Value} {o : Obj} (hb : Below W.heap.size W wx) (hbz : ∀ b, v.ownBlock = some b → W.heap.size ≤ b) (ho : w7.ownsRow 0 51 3 v' (zs.length + 1) (ims zs ++ x.cs)) (hg : (wx.alloc o).grownBy w7 v.ownBlock)
    (hwh : (v'.ownBlock = v.ownBlock ∧ ∃ g, v.ownBlock = some g) ∨ (v'.ownBlock = some (wx.alloc o).heap.size ∧ Below (wx.alloc o).heap.size (wx.alloc o) w7)) :
    Below W.heap.size W w7 ∧ w7.ownsRow 0 51 3 v' (zs ++ [x]).length (ims (zs ++ [x])) ∧ ∀ b, v'.ownBlock = some b → W.heap.size ≤ b := by
  have hs := hb.size
  refine ⟨?_, ?_, fun b hv => ?_⟩
  · exact (hb.trans ((below_al wx o).mono hs)).trans ((Upd.of_grown hg (F := fun k => v.ownBlock = some k) (fun k hk => hk)).below (by rw [World.size_alloc]; omega) (fun k hk => hbz k hk))
  · have : ims (zs ++ [x]) = ims zs ++ x.cs := by simp [ims, List.flatMap_append]
    rw [this, List.length_append]
    exact ho
  · rcases hwh with ⟨e, -⟩ | ⟨e, -⟩
    · exact hbz b (e ▸ hv)
    · rw [e] at hv
      injection hv with hv
      rw [World.size_alloc] at hv
      omega
theorem leq_dec (a b : ByteArray) : (Op.bytesLess a.toList b.toList || a.toList == b.toList) = decide (a.data.toList ≤ b.data.toList) := by
  rw [bytesLess_eq, beq_list, Lib.toList_data, Lib.toList_data, Bool.eq_iff_iff]
  simp only [Bool.or_eq_true, decide_eq_true_eq]
  constructor
  · rintro (h | h)
    · exact List.le_of_lt h
    · rw [h]; exact List.le_refl _
  · intro h
    by_cases e : a = b
    · exact .inr e
    · exact .inl (b_lt h (fun e2 => e (by rw [← ba_of a, ← ba_of b, e2])))
set_option maxRecDepth 20000 in
set_option maxHeartbeats 8000000 in
theorem ordered_any : ∀ (N : Nat) (a : Option Addr) (ms : List Im) (n c : Nat) (w : World), ms.length ≤ N → n = ms.length → n ≤ c → n ≤ 1000000 → Inp w a ms → Calls Tryz.prog 24 #[.slice a n c] w fun e w' => OrdP ms w e w' := by
  intro N
  induction N with
  | zero =>
    intro a ms n c w hN hn hnc hnl hI
    have hms := List.eq_nil_of_length_eq_zero (Nat.le_zero.1 hN)
    subst hms
    simp only [List.length_nil] at hn
    subst hn
    have AI := aside hI
    clear hI
    go_enter Tryz.func24, Tryz.ntmps24
    go_wp2_with fail
    go_ret
    exact ⟨Below.refl _ _, a, c, [], rfl, hnc, AI.out, List.Perm.refl _, List.Pairwise.nil⟩
  | succ N ih =>
    intro a ms n c w hN hn hnc hnl hI
    have AI := aside hI
    have AN := aside hn
    by_cases h2 : n < 2
    · have h2' : (n : Int) < 2 := by omega
      have hR : Ris ms := by
        unfold Ris
        match ms, hn with
        | [], _ => exact List.Pairwise.nil
        | [x], _ => exact List.pairwise_singleton _ _
        | _ :: _ :: _, hn => simp at hn; omega
      have AR := aside hR
      clear hI hn hR
      go_enter Tryz.func24, Tryz.ntmps24
      go_wp2_with fail
      go_ret
      exact ⟨Below.refl _ _, a, c, ms, by rw [← AN.out]; rfl, by rw [← AN.out]; exact hnc, AI.out, List.Perm.refl _, AR.out⟩
    · have h2' : ¬ (n : Int) < 2 := by omega
      obtain ⟨h, hh⟩ : ∃ h, h = n / 2 := ⟨_, rfl⟩
      have hq : Int.tdiv (n : Int) 2 = (h : Int) := by rw [hh]; rfl
      have hwq : IntKind.i64.wrap (Int.tdiv (n : Int) 2) = (h : Int) := by rw [hq, wrap_small _ (by omega) (by omega)]
      have hhn : h ≤ n := by omega
      have sh := slice_h a n c h hhn hnc
      obtain ⟨a2, sl, hI2⟩ := slice_l a n c h hhn hnc
      have hl1 : (ms.take h).length = h := by rw [List.length_take, ← hn]; exact Nat.min_eq_left hhn
      have hl2 : (ms.drop h).length = n - h := by rw [List.length_drop, ← hn]
      clear hq hwq
      have hh1 : h ≤ N := by omega
      have hh2 : n - h ≤ N := by omega
      have AH1 := aside (ih a (ms.take h) h c w (by rw [hl1]; exact hh1) hl1.symm (by omega) (by omega) (hI.take h))
      have AH2 := aside (fun V (hV : Below w.heap.size w V) => ih a2 (ms.drop h) (n - h) (c - h) V (by rw [hl2]; exact hh2) hl2.symm (by omega) (by omega) ((hI2 w ms AN.out.symm hI).below hV))
      have Ah1 : Aside ((ms.take h).length = h) := hl1
      have Ah2 : Aside ((ms.drop h).length = n - h) := hl2
      have hq : Int.tdiv (n : Int) 2 = (h : Int) := by rw [hh]; rfl
      have hwq : IntKind.i64.wrap (Int.tdiv (n : Int) 2) = (h : Int) := by rw [hq, wrap_small _ (by omega) (by omega)]
      clear hl1 hl2 hh1 hh2
      obtain ⟨m, hm⟩ : ∃ m, m = n - h := ⟨_, rfl⟩
      rw [← hm] at AH2 Ah2 sl
      have Am : Aside (h + m = n) := by show h + m = n; omega
      clear hI hn hI2 ih hh hm
      go_enter Tryz.func24, Tryz.ntmps24
      go_wp2_with fail
      refine AH1.out.mono ?_
      rintro e w1 ⟨hb1, aa, ca, xs0, rfl, hca, hIa, hpa, hra⟩
      rw [Ah1.out] at hca ⊢
      have AB1 := aside hb1
      have AIa := aside hIa
      have Apa := aside hpa
      have Ara := aside hra
      clear hb1 hIa hpa hra AH1
      go_wp2_with fail
      refine (AH2.out w1 AB1.out).mono ?_
      rintro e w2 ⟨hb2, ab, cb, ys0, rfl, hcb, hIb, hpb, hrb⟩
      rw [Ah2.out] at hcb ⊢
      have AB2 := aside (below_tr AB1.out hb2)
      have AIa2 := aside (AIa.out.below hb2)
      have AIb := aside hIb
      have Apb := aside hpb
      have Arb := aside hrb
      have Al1 : Aside (xs0.length = h) := Apa.out.length_eq.trans Ah1.out
      have Al2 : Aside (ys0.length = m) := hpb.length_eq.trans Ah2.out
      clear hb2 hIb hpb hrb AH2 AB1 AIa
      go_wp2_with fail
      go_loopg [3, 4, 5] n (fun g s3 s4 s5 wx => ∃ xs ys zs, Mg w2 ms xs ys zs s3 s4 s5 wx ∧ xs.length + ys.length = g)
      case atStart =>
        refine ⟨xs0, ys0, [], ⟨⟨aa, ca, by rw [Al1.out], by rw [Al1.out]; exact hca, AIa2.out⟩, ⟨ab, cb, by rw [Al2.out], by rw [Al2.out]; exact hcb, AIb.out⟩, ⟨none, 0, rfl, World.ownsRow_nil _ _ _ _, fun b hb => by simp [Value.ownBlock] at hb⟩, Below.refl _ _, ?_, List.Pairwise.nil, Ara.out, Arb.out, fun z hz => by simp at hz⟩, by rw [Al1.out, Al2.out]; exact Am.out⟩
        have := Apa.out.append Apb.out
        rw [List.take_append_drop] at this
        simpa using this
      case round =>
        obtain ⟨xs, ys, zs, hMg, hgk⟩ := hrel
        obtain ⟨aa, ca, rfl, hca2, hIa⟩ := hMg.ax
        obtain ⟨ab, cb, rfl, hcb2, hIb⟩ := hMg.ay
        obtain ⟨ao, co, rfl, hrz, hbz⟩ := hMg.az
        have AMg := aside hMg
        have ARz := aside hrz
        have ABz := aside hbz
        clear hMg hrz hbz
        cases xs with
        | nil =>
          cases ys with
          | nil =>
            clear hIa hIb
            go_wp2_with fail
            go_ret
            have hpr : zs.Perm ms := by simpa using AMg.out.per
            refine ⟨below_tr AB2.out AMg.out.bel, ao, co, zs, by rw [← hpr.length_eq]; rfl, ?_, ⟨fun hn => ?_, fun z hz => ?_⟩, hpr, AMg.out.rz⟩
            · rw [← hpr.length_eq]
              obtain ⟨_, _, e, h3⟩ := own_slice ARz.out
              injection e with _ _ e
              omega
            · rcases ARz.out.2 with ⟨-, h0⟩ | ⟨g, cap, cur, e, -⟩
              · exact absurd (List.eq_nil_of_length_eq_zero h0) hn
              · injection e with e1 e2 e3
                exact ⟨g, 0, e1, fun j v hj => by
                  have := ARz.out.cells (g := g) (by rw [e1]; rfl) j v hj
                  simpa [Addr.add_lit] using this⟩
            · have hd := AI.out.dat z (hpr.mem_iff.1 hz)
              exact ⟨hd.1.below (below_tr AB2.out AMg.out.bel), hd.2⟩
          | cons y ys =>
            obtain ⟨g2, o2, rfl, f0, f1, f2⟩ := (hIb.below AMg.out.bel).at (i := 0) (m := y) rfl
            simp only [Nat.zero_mul, Nat.add_zero] at f0 f1 f2
            have F0 := fun dd os => ext_cell f0 dd os
            have F1 := fun dd os => ext_cell f1 dd os
            have F2 := fun dd os => ext_cell f2 dd os
            have p2 : ((ys.length : Int) + 1 == 0) = false := beq_eq_false_iff_ne.2 (by omega)
            have p2' : (0 : Int) < (ys.length : Int) + 1 := by omega
            obtain ⟨a', sl1, hI'⟩ := slice_l (some ⟨g2, o2, none⟩) (ys.length + 1) cb 1 (by omega) (by simpa using hcb2)
            have sl2 : ∀ W, (Instr.slice 22 (.slice (some ⟨g2, o2, none⟩) (ys.length + 1) cb) (some (.int .i64 1)) none none).run Tryz.prog W = .ok (.slice a' ys.length (cb - 1)) W := sl1
            have AInx : Aside (Inp w2 a' ys) := hI' w2 (y :: ys) rfl hIb
            have hcc : ys.length ≤ cb - 1 := by have := hcb2; simp only [List.length_cons] at this; omega
            clear sl1 hI'
            go_wp2_with fail
            refine region_ext (by kernel_rfl) (by kernel_rfl) ?_
            repeat (any_goals (first | go_big_quiet_step (fail) | quiet_step (fail)))
            refine wpQuiet_nil ?_
            intro w5 hw5
            have kf0 := (hw5.cell (World.block_lt_of_cell? wr _ f0)).trans f0
            have kf1 := (hw5.cell (World.block_lt_of_cell? wr _ f1)).trans f1
            have kf2 := (hw5.cell (World.block_lt_of_cell? wr _ f2)).trans f2
            have ARz5 := aside (row_below ARz.out hw5)
            have AB5 := aside (below_tr AMg.out.bel hw5)
            have H63 : Aside (zs.length + 1 ≤ maxLen) := by show zs.length + 1 ≤ maxLen; unfold maxLen; have := AMg.out.per.length_eq; simp only [List.length_append] at this; have := AN.out; omega
            have hby : (zs.length + 1) * 48 ≤ 140737488355328 := by have := AMg.out.per.length_eq; simp only [List.length_append] at this; have := AN.out; omega
            clear hw5 F0 F1 F2
            go_wp2_with (at_builtin; refine M.wpList_append_where _ rfl _ _ 22 rfl 51 (.agg #[.string ⟨#[]⟩, .int .i8 0, .slice none 0 0]) 3 48 Tryz.underlying22 infoI rfl (by decide) (.slice ao zs.length co) zs.length (ims zs) rfl (row_below ARz5.out (below_al _ _)) _ 1 _ (Im.cs y) rfl rfl (im_cells1 _ y) (im_one _) H63.out hby (by decide) ?_; intro v' w7 ho hg hwh; obtain ⟨a9, c9, rfl, -⟩ := own_slice ho; obtain ⟨m1, m2, m3⟩ := mg_app AB5.out ABz.out ho hg hwh; have A1 := aside m1; have A2 := aside m2; have A3 := aside m3; clear ho hg hwh m1 m2 m3)
            go_roundg (gk - 1)
            case measure => simp only [List.length_cons] at hgk; omega
            case rel =>
              have hpe : (zs ++ (y :: ys ++ ([]))).Perm ms := (List.Perm.append_left zs (List.perm_append_comm)).trans AMg.out.per
              obtain ⟨q1, q2, q3⟩ := mg_push (xs := ys) (ys := []) hpe AMg.out.rz AMg.out.ry (fun z hz u hu => AMg.out.le z hz u (List.perm_append_comm.mem_iff.1 hu)) (fun z hz => by simp at hz)
              refine ⟨[], ys, zs ++ [y], ⟨AMg.out.ax, ⟨a', cb - 1, rfl, hcc, AInx.out⟩, ⟨a9, c9, by rw [List.length_append]; rfl, by simpa using A2.out, by simpa using A3.out⟩, A1.out, (List.Perm.append_left _ (List.perm_append_comm)).trans q1, q2, AMg.out.rx, (List.pairwise_cons.1 AMg.out.ry).2, fun z hz u hu => q3 z hz u (List.perm_append_comm.mem_iff.1 hu)⟩, by simp only [List.length_cons] at hgk ⊢; omega⟩
        | cons x xs =>
          cases ys with
          | nil =>
            obtain ⟨g, o, rfl, e0, e1, e2⟩ := (hIa.below AMg.out.bel).at (i := 0) (m := x) rfl
            simp only [Nat.zero_mul, Nat.add_zero] at e0 e1 e2
            have E0 := fun dd os => ext_cell e0 dd os
            have E1 := fun dd os => ext_cell e1 dd os
            have E2 := fun dd os => ext_cell e2 dd os
            have p1 : ((xs.length : Int) + 1 == 0) = false := beq_eq_false_iff_ne.2 (by omega)
            have p1' : (0 : Int) < (xs.length : Int) + 1 := by omega
            obtain ⟨a', sl1, hI'⟩ := slice_l (some ⟨g, o, none⟩) (xs.length + 1) ca 1 (by omega) (by simpa using hca2)
            have sl2 : ∀ W, (Instr.slice 22 (.slice (some ⟨g, o, none⟩) (xs.length + 1) ca) (some (.int .i64 1)) none none).run Tryz.prog W = .ok (.slice a' xs.length (ca - 1)) W := sl1
            have AInx : Aside (Inp w2 a' xs) := hI' w2 (x :: xs) rfl hIa
            have hcc : xs.length ≤ ca - 1 := by have := hca2; simp only [List.length_cons] at this; omega
            clear sl1 hI'
            go_wp2_with fail
            refine region_ext (by kernel_rfl) (by kernel_rfl) ?_
            repeat (any_goals (first | go_big_quiet_step (fail) | quiet_step (fail)))
            refine wpQuiet_nil ?_
            intro w5 hw5
            have ke0 := (hw5.cell (World.block_lt_of_cell? wr _ e0)).trans e0
            have ke1 := (hw5.cell (World.block_lt_of_cell? wr _ e1)).trans e1
            have ke2 := (hw5.cell (World.block_lt_of_cell? wr _ e2)).trans e2
            have ARz5 := aside (row_below ARz.out hw5)
            have AB5 := aside (below_tr AMg.out.bel hw5)
            have H63 : Aside (zs.length + 1 ≤ maxLen) := by show zs.length + 1 ≤ maxLen; unfold maxLen; have := AMg.out.per.length_eq; simp only [List.length_append] at this; have := AN.out; omega
            have hby : (zs.length + 1) * 48 ≤ 140737488355328 := by have := AMg.out.per.length_eq; simp only [List.length_append] at this; have := AN.out; omega
            clear hw5 E0 E1 E2
            go_wp2_with (at_builtin; refine M.wpList_append_where _ rfl _ _ 22 rfl 51 (.agg #[.string ⟨#[]⟩, .int .i8 0, .slice none 0 0]) 3 48 Tryz.underlying22 infoI rfl (by decide) (.slice ao zs.length co) zs.length (ims zs) rfl (row_below ARz5.out (below_al _ _)) _ 1 _ (Im.cs x) rfl rfl (im_cells1 _ x) (im_one _) H63.out hby (by decide) ?_; intro v' w7 ho hg hwh; obtain ⟨a9, c9, rfl, -⟩ := own_slice ho; obtain ⟨m1, m2, m3⟩ := mg_app AB5.out ABz.out ho hg hwh; have A1 := aside m1; have A2 := aside m2; have A3 := aside m3; clear ho hg hwh m1 m2 m3)
            go_roundg (gk - 1)
            case measure => simp only [List.length_cons] at hgk; omega
            case rel =>
              obtain ⟨q1, q2, q3⟩ := mg_push (xs := xs) (ys := []) AMg.out.per AMg.out.rz AMg.out.rx AMg.out.le (fun z hz => by simp at hz)
              refine ⟨xs, [], zs ++ [x], ⟨⟨a', ca - 1, rfl, hcc, AInx.out⟩, AMg.out.ay, ⟨a9, c9, by rw [List.length_append]; rfl, by simpa using A2.out, by simpa using A3.out⟩, A1.out, q1, q2, (List.pairwise_cons.1 AMg.out.rx).2, AMg.out.ry, q3⟩, by simp only [List.length_cons] at hgk ⊢; omega⟩
          | cons y ys =>
            obtain ⟨g, o, rfl, e0, e1, e2⟩ := (hIa.below AMg.out.bel).at (i := 0) (m := x) rfl
            simp only [Nat.zero_mul, Nat.add_zero] at e0 e1 e2
            have E0 := fun dd os => ext_cell e0 dd os
            have E1 := fun dd os => ext_cell e1 dd os
            have E2 := fun dd os => ext_cell e2 dd os
            have p1 : ((xs.length : Int) + 1 == 0) = false := beq_eq_false_iff_ne.2 (by omega)
            have p1' : (0 : Int) < (xs.length : Int) + 1 := by omega
            obtain ⟨g2, o2, rfl, f0, f1, f2⟩ := (hIb.below AMg.out.bel).at (i := 0) (m := y) rfl
            simp only [Nat.zero_mul, Nat.add_zero] at f0 f1 f2
            have F0 := fun dd os => ext_cell f0 dd os
            have F1 := fun dd os => ext_cell f1 dd os
            have F2 := fun dd os => ext_cell f2 dd os
            have p2 : ((ys.length : Int) + 1 == 0) = false := beq_eq_false_iff_ne.2 (by omega)
            have p2' : (0 : Int) < (ys.length : Int) + 1 := by omega
            have hcmp := leq_dec x.p y.p
            by_cases hxy : x.p.data.toList ≤ y.p.data.toList
            · rw [decide_eq_true hxy] at hcmp
              have hle : Aside (x.p.data.toList ≤ y.p.data.toList) := hxy
              clear hxy
              obtain ⟨a', sl1, hI'⟩ := slice_l (some ⟨g, o, none⟩) (xs.length + 1) ca 1 (by omega) (by simpa using hca2)
              have sl2 : ∀ W, (Instr.slice 22 (.slice (some ⟨g, o, none⟩) (xs.length + 1) ca) (some (.int .i64 1)) none none).run Tryz.prog W = .ok (.slice a' xs.length (ca - 1)) W := sl1
              have AInx : Aside (Inp w2 a' xs) := hI' w2 (x :: xs) rfl hIa
              have hcc : xs.length ≤ ca - 1 := by have := hca2; simp only [List.length_cons] at this; omega
              clear sl1 hI'
              go_wp2_with fail
              refine region_ext (by kernel_rfl) (by kernel_rfl) ?_
              repeat (any_goals (first | go_big_quiet_step (fail) | quiet_step (fail)))
              refine wpQuiet_nil ?_
              intro w5 hw5
              have ke0 := (hw5.cell (World.block_lt_of_cell? wr _ e0)).trans e0
              have ke1 := (hw5.cell (World.block_lt_of_cell? wr _ e1)).trans e1
              have ke2 := (hw5.cell (World.block_lt_of_cell? wr _ e2)).trans e2
              have ARz5 := aside (row_below ARz.out hw5)
              have AB5 := aside (below_tr AMg.out.bel hw5)
              have H63 : Aside (zs.length + 1 ≤ maxLen) := by show zs.length + 1 ≤ maxLen; unfold maxLen; have := AMg.out.per.length_eq; simp only [List.length_append] at this; have := AN.out; omega
              have hby : (zs.length + 1) * 48 ≤ 140737488355328 := by have := AMg.out.per.length_eq; simp only [List.length_append] at this; have := AN.out; omega
              clear hw5 E0 E1 E2 F0 F1 F2
              go_wp2_with (at_builtin; refine M.wpList_append_where _ rfl _ _ 22 rfl 51 (.agg #[.string ⟨#[]⟩, .int .i8 0, .slice none 0 0]) 3 48 Tryz.underlying22 infoI rfl (by decide) (.slice ao zs.length co) zs.length (ims zs) rfl (row_below ARz5.out (below_al _ _)) _ 1 _ (Im.cs x) rfl rfl (im_cells1 _ x) (im_one _) H63.out hby (by decide) ?_; intro v' w7 ho hg hwh; obtain ⟨a9, c9, rfl, -⟩ := own_slice ho; obtain ⟨m1, m2, m3⟩ := mg_app AB5.out ABz.out ho hg hwh; have A1 := aside m1; have A2 := aside m2; have A3 := aside m3; clear ho hg hwh m1 m2 m3)
              go_roundg (gk - 1)
              case measure => simp only [List.length_cons] at hgk; omega
              case rel =>
                obtain ⟨q1, q2, q3⟩ := mg_push (xs := xs) (ys := y :: ys) AMg.out.per AMg.out.rz AMg.out.rx AMg.out.le (fun z hz => by
                  rcases List.mem_cons.1 hz with rfl | hz
                  · exact hle.out
                  · exact List.le_trans hle.out ((List.pairwise_cons.1 AMg.out.ry).1 z hz))
                refine ⟨xs, y :: ys, zs ++ [x], ⟨⟨a', ca - 1, rfl, hcc, AInx.out⟩, AMg.out.ay, ⟨a9, c9, by rw [List.length_append]; rfl, by simpa using A2.out, by simpa using A3.out⟩, A1.out, q1, q2, (List.pairwise_cons.1 AMg.out.rx).2, AMg.out.ry, q3⟩, by simp only [List.length_cons] at hgk ⊢; omega⟩
            · rw [decide_eq_false hxy] at hcmp
              have hle : Aside (y.p.data.toList ≤ x.p.data.toList) := (List.le_total x.p.data.toList y.p.data.toList).resolve_left hxy
              clear hxy
              obtain ⟨a', sl1, hI'⟩ := slice_l (some ⟨g2, o2, none⟩) (ys.length + 1) cb 1 (by omega) (by simpa using hcb2)
              have sl2 : ∀ W, (Instr.slice 22 (.slice (some ⟨g2, o2, none⟩) (ys.length + 1) cb) (some (.int .i64 1)) none none).run Tryz.prog W = .ok (.slice a' ys.length (cb - 1)) W := sl1
              have AInx : Aside (Inp w2 a' ys) := hI' w2 (y :: ys) rfl hIb
              have hcc : ys.length ≤ cb - 1 := by have := hcb2; simp only [List.length_cons] at this; omega
              clear sl1 hI'
              go_wp2_with fail
              refine region_ext (by kernel_rfl) (by kernel_rfl) ?_
              repeat (any_goals (first | go_big_quiet_step (fail) | quiet_step (fail)))
              refine wpQuiet_nil ?_
              intro w5 hw5
              have kf0 := (hw5.cell (World.block_lt_of_cell? wr _ f0)).trans f0
              have kf1 := (hw5.cell (World.block_lt_of_cell? wr _ f1)).trans f1
              have kf2 := (hw5.cell (World.block_lt_of_cell? wr _ f2)).trans f2
              have ARz5 := aside (row_below ARz.out hw5)
              have AB5 := aside (below_tr AMg.out.bel hw5)
              have H63 : Aside (zs.length + 1 ≤ maxLen) := by show zs.length + 1 ≤ maxLen; unfold maxLen; have := AMg.out.per.length_eq; simp only [List.length_append] at this; have := AN.out; omega
              have hby : (zs.length + 1) * 48 ≤ 140737488355328 := by have := AMg.out.per.length_eq; simp only [List.length_append] at this; have := AN.out; omega
              clear hw5 E0 E1 E2 F0 F1 F2
              go_wp2_with (at_builtin; refine M.wpList_append_where _ rfl _ _ 22 rfl 51 (.agg #[.string ⟨#[]⟩, .int .i8 0, .slice none 0 0]) 3 48 Tryz.underlying22 infoI rfl (by decide) (.slice ao zs.length co) zs.length (ims zs) rfl (row_below ARz5.out (below_al _ _)) _ 1 _ (Im.cs y) rfl rfl (im_cells1 _ y) (im_one _) H63.out hby (by decide) ?_; intro v' w7 ho hg hwh; obtain ⟨a9, c9, rfl, -⟩ := own_slice ho; obtain ⟨m1, m2, m3⟩ := mg_app AB5.out ABz.out ho hg hwh; have A1 := aside m1; have A2 := aside m2; have A3 := aside m3; clear ho hg hwh m1 m2 m3)
              go_roundg (gk - 1)
              case measure => simp only [List.length_cons] at hgk; omega
              case rel =>
                have hpe : (zs ++ (y :: ys ++ (x :: xs))).Perm ms := (List.Perm.append_left zs (List.perm_append_comm)).trans AMg.out.per
                obtain ⟨q1, q2, q3⟩ := mg_push (xs := ys) (ys := x :: xs) hpe AMg.out.rz AMg.out.ry (fun z hz u hu => AMg.out.le z hz u (List.perm_append_comm.mem_iff.1 hu)) (fun z hz => by
                  rcases List.mem_cons.1 hz with rfl | hz
                  · exact hle.out
                  · exact List.le_trans hle.out ((List.pairwise_cons.1 AMg.out.rx).1 z hz))
                refine ⟨x :: xs, ys, zs ++ [y], ⟨AMg.out.ax, ⟨a', cb - 1, rfl, hcc, AInx.out⟩, ⟨a9, c9, by rw [List.length_append]; rfl, by simpa using A2.out, by simpa using A3.out⟩, A1.out, (List.Perm.append_left _ (List.perm_append_comm)).trans q1, q2, AMg.out.rx, (List.pairwise_cons.1 AMg.out.ry).2, fun z hz u hu => q3 z hz u (List.perm_append_comm.mem_iff.1 hu)⟩, by simp only [List.length_cons] at hgk ⊢; omega⟩
end Go.Proofs.YtbnaegoahdcejaaGreatDoor

namespace Go.Proofs.YtbnaegoahdcejaaGreatDoor
open Go.RowKit Go.ChangeMaps

theorem wrap_in (x : Int) (h1 : -9223372036854775808 ≤ x) (h2 : x ≤ 9223372036854775807) : IntKind.i64.wrap x = x := by
  simp [IntKind.wrap, IntKind.bits, IntKind.signed]
  omega
theorem ahd_pth {p : List B} (h : p ≠ []) : ahd p = pth p ++ [47] := by
  obtain ⟨q, n, rfl⟩ : ∃ q n, p = q ++ [n] := ⟨p.dropLast, p.getLast h, (List.dropLast_concat_getLast h).symm⟩
  rw [pth_snoc, ahd_snoc]
theorem spl_last (t : B) {u : B} (h : (47 : UInt8) ∉ u) : spl (t ++ 47 :: u) = spl t ++ [u] := by
  have h1 : t ++ 47 :: u = ahd (spl t) ++ u := by rw [ahd_pth (spl_ne t), pth_spl]; simp
  rw [h1, spl_ahd u (spl_nostroke t), spl_plain h]
/-- The path without its last name. -/
def par (s : B) : B := pth (spl s).dropLast
theorem par_cut {s : B} {i : Nat} (hi : s[i]? = some 47) (h : (47 : UInt8) ∉ s.drop (i + 1)) : par s = s.take i := by
  have hs : s = s.take i ++ 47 :: s.drop (i + 1) := by
    have hl := (List.getElem?_eq_some_iff.1 hi).1
    have := (List.take_append_drop i s).symm
    rw [List.drop_eq_getElem_cons hl] at this
    rw [List.getElem?_eq_getElem hl] at hi
    injection hi with hi
    rw [hi] at this
    exact this
  unfold par
  conv => lhs; rw [hs]
  rw [spl_last _ h, List.dropLast_concat, pth_spl]
theorem par_none {s : B} (h : (47 : UInt8) ∉ s) : par s = [] := by unfold par; rw [spl_plain h]; rfl
set_option maxRecDepth 20000 in
set_option maxHeartbeats 2000000 in
theorem parent_any (s : B) (w : World) (hs : s.length ≤ 1000000000) : Calls Tryz.prog 25 #[.string (ba s)] w fun e w' => e = .returned (.string (ba (par s))) ∧ w' = w := by
  obtain ⟨S, hS⟩ : ∃ S, S = ba s := ⟨_, rfl⟩
  have hsz : S.size = s.length := by rw [hS, ba_size]
  have AS := aside hS
  obtain ⟨n, hn⟩ : ∃ n, n = s.length := ⟨_, rfl⟩
  have AN := aside hn
  rw [← hn] at hsz
  rw [← hS]
  have hnl : n ≤ 1000000000 := by rw [hn]; exact hs
  have hsub : IntKind.i64.wrap ((n : Int) - 1) = (n : Int) - 1 := wrap_in _ (by omega) (by omega)
  clear hS hn
  go_enter Tryz.func25, Tryz.ntmps25
  go_wp2_with fail
  go_loopg [3] n (fun g s3 wx => wx = w ∧ s3 = .int .i64 ((g : Int) - 1) ∧ g ≤ n ∧ (47 : UInt8) ∉ s.drop g)
  case atStart => exact ⟨rfl, rfl, Nat.le_refl _, by rw [AN.out]; simp⟩
  case round =>
    obtain ⟨rfl, rfl, hg, hno⟩ := hrel
    have Ano := aside hno
    clear hno
    cases gk with
    | zero =>
      have h0 : ¬ (0 : Int) ≤ ((0 : Nat) : Int) - 1 := by omega
      go_wp2_with fail
      go_ret
      exact ⟨by rw [par_none (by simpa using Ano.out)]; rfl, rfl⟩
    | succ i =>
      have e1 : ((i + 1 : Nat) : Int) - 1 = (i : Int) := by omega
      rw [e1]
      have h0 : (0 : Int) ≤ (i : Int) := by omega
      have hi : i < S.size := by omega
      have hi2 : (i : Int) < (S.size : Int) := by omega
      have hil : i < s.length := by have := AN.out; omega
      have hSi : S[i]'hi = s[i]'hil := by
        have := AS.out
        subst this
        rfl
      have hwi : IntKind.i64.wrap ((i : Int) - 1) = (i : Int) - 1 := wrap_in _ (by omega) (by omega)
      by_cases hb : s[i]'hil = 47
      · have hc : (((S[i]'hi).toNat : Int) == 47) = true := by rw [hSi, hb]; rfl
        have hpar : par s = s.take i := par_cut (by rw [List.getElem?_eq_getElem hil, hb]) (by simpa using Ano.out)
        have hex : S.extract 0 i = ba (s.take i) := by
          rw [← ba_of (S.extract 0 i), Lib.extract_from_zero, AS.out, ba_list]
        have Apar := aside hpar
        have Aex := aside hex
        clear hb hSi hpar hex
        go_wp2_with fail
        go_ret
        exact ⟨by rw [Apar.out, ← Aex.out]; rfl, rfl⟩
      · have hc : (((S[i]'hi).toNat : Int) == 47) = false := by
          rw [hSi]
          refine beq_eq_false_iff_ne.2 fun e => hb ?_
          apply UInt8.toNat_inj.1
          have : (s[i]'hil).toNat = 47 := by omega
          rw [this]; rfl
        have Ahb := aside hb
        clear hb hSi
        go_wp2_with fail
        go_roundg i
        case measure => omega
        case rel =>
          refine ⟨rfl, by first | rfl | simp, by omega, fun hm => ?_⟩
          rw [List.drop_eq_getElem_cons hil] at hm
          rcases List.mem_cons.1 hm with e | hm
          · exact Ahb.out e.symm
          · exact Ano.out hm
end Go.Proofs.YtbnaegoahdcejaaGreatDoor

namespace Go.Proofs.YtbnaegoahdcejaaGreatDoor
open Go.RowKit Go.ChangeMaps

theorem lt_app (a : B) (c : UInt8) (l : B) : a < a ++ c :: l := by
  induction a with
  | nil => simp
  | cons x a ih => rw [List.cons_append, List.cons_lt_cons_iff]; exact .inr ⟨rfl, ih⟩
theorem ne_of_ikey {a b : It} (h : ikey a < ikey b) : ikey a ≠ ikey b := fun e => List.lt_irrefl (ikey b) (e ▸ h)
theorem par_lt {a b : B} (h : spl a = (spl b).dropLast) (h0 : (spl b).dropLast ≠ []) : a < b := by
  have h1 : b = a ++ 47 :: (spl b).getLast (spl_ne b) := by
    have h2 := pth_spl b
    rw [← List.dropLast_concat_getLast (spl_ne b), ← h, pth_snoc, ahd_pth (by rw [h]; exact h0), pth_spl] at h2
    rw [List.append_assoc] at h2
    exact h2.symm
  rw [h1]
  exact lt_app _ _ _
/-- What makes a tree of a list. -/
structure Cond (M : List It) : Prop where
  fin : ∀ i ∈ M, Fine i
  one : (M.map ikey).Nodup
  few : M.length ≤ 4096
  bok : ibyt M ≤ 4194304
  dir : ∀ (k : Nat) i, M[k]? = some i → (spl (ikey i)).dropLast = [] ∨ ∃ j d, j < k ∧ M[j]? = some d ∧ spl (ikey d) = (spl (ikey i)).dropLast ∧ d.2.1 = 1
theorem ibyt_app (a b : List It) : ibyt (a ++ b) = ibyt a + ibyt b := by simp [ibyt]
theorem used_peE {i : It} (h : Fine i) : used (peE i) = if i.2.1 = 0 then i.2.2.length else 0 := by
  obtain ⟨-, -, h3, -⟩ := h
  unfold used peE enOf
  have : i.2.1.toNat = 0 ↔ i.2.1 = 0 := by omega
  simp only [this]
theorem byt_peE {l : List It} (h : ∀ i ∈ l, Fine i) : byt (root0 :: l.map peE) = ibyt l := by
  have h0 : byt (root0 :: l.map peE) = (l.map fun i => used (peE i)).sum := by
    simp only [byt, List.map_cons, List.sum_cons, List.map_map]
    have : used root0 = 0 := rfl
    rw [this, Nat.zero_add]
    rfl
  rw [h0]
  unfold ibyt
  congr 1
  exact List.map_congr_left fun i hi => used_peE (h i hi)
theorem mkT_all : ∀ (R P : List It) (n : Nat), Cond (P ++ R) → ∃ T, mkT (root0 :: P.map peE) R n = (0, 0, T)
  | [], P, n, _ => ⟨_, rfl⟩
  | i :: R, P, n, c => by
    have hk : (P ++ i :: R)[P.length]? = some i := by simp
    have fi := c.fin i (by simp)
    obtain ⟨f1, f2, f3, f4, f5, f6⟩ := fi
    have hb := byt_peE (l := P) (fun x hx => c.fin x (by simp [hx]))
    have hbo := c.bok
    rw [ibyt_app] at hbo
    have hbi : i.2.1 = 0 → i.2.2.length + ibyt P ≤ 4194304 := fun h0 => by
      have : ibyt (i :: R) = i.2.2.length + ibyt R := by simp [ibyt, h0]
      omega
    have hc : mcode (root0 :: P.map peE) i = 0 := by
      refine mcode_of ?_ ?_ ?_ f5
      · rw [hb]
        unfold rfc
        rw [if_neg (by omega)]
        rcases f3 with h0 | h1 | h2
        · rw [if_pos h0, if_neg (by have := hbi h0; omega)]
        · rw [if_neg (by omega), if_pos h1, if_neg (by rw [f4 h1]; simp)]
        · rw [if_neg (by omega), if_neg (by omega), if_pos h2]
      · have hpar : ∃ e ∈ root0 :: P.map peE, e.p = (spl i.1.data.toList).dropLast ∧ e.k = 1 := by
          rcases c.dir _ _ hk with h0 | ⟨j, d, hj, hd, h1, h2⟩
          · exact ⟨root0, by simp, h0.symm, rfl⟩
          · rw [List.getElem?_append_left hj] at hd
            exact ⟨peE d, List.mem_cons_of_mem _ (List.mem_map.2 ⟨d, List.mem_of_getElem? hd, rfl⟩), h1, by simp [peE, enOf, h2]⟩
        obtain ⟨e, he, hep, hek⟩ := hpar
        have hnew : ∀ x ∈ root0 :: P.map peE, x.p ≠ spl i.1.data.toList := fun x hx e1 => by
          rcases List.mem_cons.1 hx with rfl | hx
          · exact spl_ne _ e1.symm
          · obtain ⟨y, hy, rfl⟩ := List.mem_map.1 hx
            have h3 : ikey y = ikey i := by
              have := congrArg pth e1
              rw [pth_spl] at this
              show y.1.data.toList = i.1.data.toList
              have h4 : pth (peE y).p = y.1.data.toList := pth_spl _
              rw [← h4]; exact this
            have hn := c.one
            rw [List.map_append, List.map_cons] at hn
            exact (List.nodup_append.1 hn).2.2 _ (List.mem_map.2 ⟨y, hy, rfl⟩) _ (by simp) h3
        unfold pcode
        rw [if_neg, if_neg, if_neg, if_neg]
        · rw [Bool.not_eq_true]
          exact List.any_eq_false.2 fun x hx => by simpa using hnew x hx
        · rw [Bool.not_eq_false]
          exact List.any_eq_true.2 ⟨e, he, by simp [hep, hek]⟩
        · rw [Bool.not_eq_false]
          exact List.any_eq_true.2 ⟨e, he, by simp [hep]⟩
        · rw [Bool.not_eq_false]
          exact List.all_eq_true.2 fun m hm => f6 m hm
      · have := c.few
        simp at this ⊢
        omega
    unfold mkT
    rw [if_pos hc]
    have := mkT_all R (P ++ [i]) (n + 1) (by simpa using c)
    simpa using this
theorem Told9.mem {S : List En} {r : En} {its : List It} (t : Told9 S r its) {e : En} (he : e ∈ S) (hp : e.p ≠ []) : ∃ i ∈ its, e.p = spl (ikey i) ∧ (e.k : Int) = i.2.1 ∧ e.x = i.2.2 := by
  have h1 : pe e ∈ (root0 :: its.map peE).map pe := by rw [← t.pes]; exact List.mem_map.2 ⟨e, he, rfl⟩
  obtain ⟨x, hx, hxe⟩ := List.mem_map.1 h1
  rcases List.mem_cons.1 hx with rfl | hx
  · unfold pe at hxe
    simp only [Prod.mk.injEq] at hxe
    exact absurd hxe.1.symm hp
  · obtain ⟨i, hi, rfl⟩ := List.mem_map.1 hx
    unfold pe peE enOf at hxe
    simp only [Prod.mk.injEq] at hxe
    have h3 := (t.fin i hi).2.2.1
    exact ⟨i, hi, hxe.1.symm, by rw [← hxe.2.1]; omega, hxe.2.2.symm⟩
theorem Told9.has {S : List En} {r : En} {its : List It} (t : Told9 S r its) {i : It} (hi : i ∈ its) : ∃ e ∈ S, e.p = spl (ikey i) ∧ (e.k : Int) = i.2.1 ∧ e.x = i.2.2 := by
  have h1 : pe (peE i) ∈ S.map pe := by rw [t.pes]; exact List.mem_map.2 ⟨peE i, List.mem_cons_of_mem _ (List.mem_map.2 ⟨i, hi, rfl⟩), rfl⟩
  obtain ⟨e, he, hxe⟩ := List.mem_map.1 h1
  unfold pe peE enOf at hxe
  simp only [Prod.mk.injEq] at hxe
  have h3 := (t.fin i hi).2.2.1
  exact ⟨e, he, hxe.1, by rw [hxe.2.1]; omega, hxe.2.2⟩
theorem Told9.dirs {lo : Nat} {w : World} {S : List En} {r : En} {its : List It} (t : Told9 S r its) (h : Tr lo w S) : ∀ i ∈ its, (spl (ikey i)).dropLast = [] ∨ ∃ d ∈ its, spl (ikey d) = (spl (ikey i)).dropLast ∧ d.2.1 = 1 := by
  intro i hi
  obtain ⟨e, he, hep, -⟩ := t.has hi
  obtain ⟨d, hd, hdp, hdk⟩ := h.par e he (by rw [hep]; exact spl_ne _)
  by_cases h0 : d.p = []
  · left; rw [← hep, ← hdp, h0]
  · right
    obtain ⟨j, hj, hjp, hjk, -⟩ := t.mem hd h0
    exact ⟨j, hj, by rw [← hjp, hdp, hep], by rw [← hjk, hdk]; rfl⟩
/-- In order: what makes a tree stays so. -/
theorem cond_sorted {M : List It} (hf : ∀ i ∈ M, Fine i) (hp : M.Pairwise fun a b => ikey a < ikey b) (hl : M.length ≤ 4096) (hb : ibyt M ≤ 4194304) (hd : ∀ i ∈ M, (spl (ikey i)).dropLast = [] ∨ ∃ d ∈ M, spl (ikey d) = (spl (ikey i)).dropLast ∧ d.2.1 = 1) : Cond M := by
  refine ⟨hf, ?_, hl, hb, fun k i hk => ?_⟩
  · exact List.pairwise_map.2 (hp.imp fun h => ne_of_ikey h)
  · by_cases h0 : (spl (ikey i)).dropLast = []
    · exact .inl h0
    · rcases hd i (List.mem_of_getElem? hk) with h | ⟨d, hdm, h1, h2⟩
      · exact .inl h
      · obtain ⟨j, hj, e⟩ := List.getElem_of_mem hdm
        have hlt := par_lt h1 h0
        refine .inr ⟨j, d, ?_, by rw [List.getElem?_eq_getElem hj, e], h1, h2⟩
        refine Classical.byContradiction fun hn => ?_
        have hkl := (List.getElem?_eq_some_iff.1 hk).1
        have hki : M[k] = i := by rw [List.getElem?_eq_getElem hkl] at hk; injection hk
        by_cases hjk : j = k
        · subst hjk
          rw [e] at hki
          rw [hki] at hlt
          exact List.lt_irrefl _ hlt
        · have := List.pairwise_iff_getElem.1 hp k j hkl hj (by omega)
          rw [hki, e] at this
          exact b_asym _ _ hlt this
theorem ibyt_perm {a b : List It} (h : a.Perm b) : ibyt a = ibyt b := (h.map _).sum_nat
theorem Told9.sorted {lo : Nat} {w : World} {S : List En} {r : En} {its : List It} (t : Told9 S r its) (h : Tr lo w S) : Cond (srt ikey its) := by
  obtain ⟨-, -, h3, h4⟩ := t.items h
  have hp := srt_perm ikey its
  refine cond_sorted (fun i hi => t.fin i (hp.mem_iff.1 hi)) (srt_pw ikey h3) (by rw [hp.length_eq]; exact h4) ?_ (fun i hi => ?_)
  · rw [ibyt_perm hp, ← byt_peE t.fin, ← byt_pe t.pes]
    exact t.bok
  · rcases t.dirs h i (hp.mem_iff.1 hi) with h0 | ⟨d, hd, h1⟩
    · exact .inl h0
    · exact .inr ⟨d, hp.mem_iff.2 hd, h1⟩
theorem srt_idem {M : List It} (h : M.Pairwise fun a b => ikey a < ikey b) : srt ikey M = M :=
  (srt_uniq ikey (List.Perm.refl _) (h.imp fun h => List.le_of_lt h) (List.pairwise_map.2 (h.imp fun h => ne_of_ikey h))).symm
end Go.Proofs.YtbnaegoahdcejaaGreatDoor
