/- Why a directory may not hold a node: refuses. -/
import Derived.Test.YtknjclekfmmfeaaDoorHgt
namespace Go.Proofs.YtknjclekfmmfeaaDoor
open Go.RowKit Go.ChangeMaps

/-- What m is to Add: a directory (its own block, whether it stands somewhere), or something else. -/
def Mk (w : World) (m : Nat) (x : Option (Nat × Bool)) : Prop :=
  (∃ (t : TypeId) (k : Nat), x = none ∧ Nd w m t k ∧ (t = 88 ∨ t = 92 ∨ t = 89 ∨ t = 59)) ∨ (∃ (d b : Nat) (L : List KV), x = some (d, false) ∧ Dr w m d b (.pointer none) L) ∨ (∃ (d b u : Nat) (L : List KV), x = some (d, true) ∧ Dr w m d b (Pt u) L)
theorem Mk.other {w : World} {m : Nat} (t : TypeId) (k : Nat) (h : Nd w m t k) (ht : t = 88 ∨ t = 92 ∨ t = 89 ∨ t = 59) : Mk w m none := .inl ⟨t, k, rfl, h, ht⟩
theorem Mk.free {w : World} {m : Nat} (d b : Nat) (L : List KV) (h : Dr w m d b (.pointer none) L) : Mk w m (some (d, false)) := .inr (.inl ⟨d, b, L, rfl, h⟩)
theorem Mk.held {w : World} {m : Nat} (d b u : Nat) (L : List KV) (h : Dr w m d b (Pt u) L) : Mk w m (some (d, true)) := .inr (.inr ⟨d, b, u, L, rfl, h⟩)
theorem Mk.below {w w' : World} {m : Nat} {x : Option (Nat × Bool)} (h : Mk w m x) (hb : Below w.heap.size w w') : Mk w' m x := by
  rcases h with ⟨t, k, rfl, h1, h2⟩ | ⟨d, b, L, rfl, h1⟩ | ⟨d, b, u, L, rfl, h1⟩
  · exact .other t k (h1.below hb) h2
  · exact .free d b L (h1.below hb)
  · exact .held d b u L (h1.below hb)

def tcode (n hh : Nat) : Int := if 64 < n + hh + 1 then 3 else 0
def xcode (x : Option (Nat × Bool)) (l : List Nat) (hh : Nat) : Int :=
  match x with
  | none => tcode (l.length - 1) hh
  | some (d, s) => if d ∈ l then 200 else if s = true then 191 else tcode (l.length - 1) hh
def rcode (name : ByteArray) (L : List KV) (x : Option (Nat × Bool)) (l : List Nat) (hh : Nat) : Int :=
  if nameOk name = false then 190 else if (lk L name).isSome = true then 191 else if 4096 ≤ L.length then 4 else xcode x l hh

set_option maxRecDepth 20000 in
set_option maxHeartbeats 4000000 in
theorem refuses_any (nb db mb : Nat) (up : Value) (L : List KV) (l : List Nat) (name : ByteArray) (m : Nat) (x : Option (Nat × Bool)) (hh : Nat) (w : World) (h : Dr w nb db mb up L) (hU : Up w up l) (hl : l.length ≤ 1000000) (hx : Mk w m x) (hH : Ht w (Pt m) hh) (hh2 : hh ≤ 1000000) (hlen : L.length ≤ 1000000) :
    Calls Tryd.prog 30 #[Pt db, .string name, Pt m] w fun e w' => e = .returned (.int .i64 (rcode name L x (db :: l) hh)) ∧ Below w.heap.size w w' := by
  have AH := aside h
  have AU := aside hU
  have AX := aside hx
  have AHt := aside hH
  clear h hU hx hH
  go_enter Tryd.func30, Tryd.ntmps30
  go_wp2_with fail
  refine (isName_any name w).mono ?_
  rintro e w1 ⟨rfl, hb1⟩
  have AB1 := aside hb1
  have hD1 := AH.out.below hb1
  have c2 := hD1.c2
  obtain ⟨es, clock, hm, hE⟩ := hD1.map
  have hlen1 := fun ty => len_map hm hE ty
  have AD1 := aside hD1
  clear hb1 hD1
  by_cases hn : nameOk name = true
  · rw [hn]
    by_cases hlk : (lk L name).isSome = true
    · obtain ⟨v, hv⟩ := Option.isSome_iff_exists.1 hlk
      have hlo := look_yes hm hE hv true
      simp only [↓reduceIte] at hlo
      clear hE hm
      go_wp2_with fail
      go_ret
      exact ⟨by unfold rcode; rw [if_neg (by rw [hn]; decide), if_pos hlk]; rfl, AB1.out⟩
    · have hlk0 : lk L name = none := by simpa using hlk
      have hlo := look_no hm hE hlk0 true
      simp only [↓reduceIte] at hlo
      clear hE hm
      by_cases hfu : 4096 ≤ L.length
      · have hfu2 : (4096 : Int) ≤ (L.length : Int) := by omega
        go_wp2_with fail
        go_ret
        exact ⟨by unfold rcode; rw [if_neg (by rw [hn]; decide), if_neg hlk, if_pos hfu]; rfl, AB1.out⟩
      · have hfu2 : ¬ (4096 : Int) ≤ (L.length : Int) := by omega
        have hrc0 : rcode name L x (db :: l) hh = xcode x (db :: l) hh := by unfold rcode; rw [if_neg (by rw [hn]; decide), if_neg hlk, if_neg hfu]
        have AUp : Aside (Up w1 (Pt db) (db :: l)) := Up.dir AD1.out (AU.out.below AB1.out)
        have hw1 : IntKind.i64.wrap ((l.length : Int) + (hh : Int)) = (l.length : Int) + (hh : Int) := wrap_small _ (by omega) (by omega)
        have hw2 : IntKind.i64.wrap ((l.length : Int) + (hh : Int) + 1) = (l.length : Int) + (hh : Int) + 1 := wrap_small _ (by omega) (by omega)
        have hx1 := AX.out.below AB1.out
        clear AX AH
        rcases hx1 with ⟨t, k, rfl, h1, h2⟩ | ⟨d, b, XL, rfl, h1⟩ | ⟨d, b, u, XL, rfl, h1⟩
        · skip
          have hrc : xcode none (db :: l) hh = tcode l.length hh := rfl
          go_wp2_with fail
          refine (directory_other m k t w1 h1 h2).mono ?_
          rintro e w2 ⟨rfl, rfl⟩
          go_wp2_with fail
          refine (depth_any db l _ AUp.out hl).mono ?_
          rintro e w2 ⟨rfl, rfl⟩
          go_wp2_with fail
          refine (AHt.out _ AB1.out).mono ?_
          rintro e w3 ⟨rfl, hb3⟩
          have AB3 := aside hb3
          clear hb3
          by_cases hz : 64 < l.length + hh + 1
          · have hz2 : (64 : Int) < (l.length : Int) + (hh : Int) + 1 := by omega
            go_wp2_with fail
            go_ret
            exact ⟨by rw [hrc0, hrc]; unfold tcode; rw [if_pos hz]; rfl, below_tr AB1.out AB3.out⟩
          · have hz2 : ¬ (64 : Int) < (l.length : Int) + (hh : Int) + 1 := by omega
            go_wp2_with fail
            go_ret
            exact ⟨by rw [hrc0, hrc]; unfold tcode; rw [if_neg hz]; rfl, below_tr AB1.out AB3.out⟩
        · skip
          have xc1 := h1.c1
          go_wp2_with fail
          refine (directory_dir m d w1 h1.nod).mono ?_
          rintro e w2 ⟨rfl, rfl⟩
          go_wp2_with fail
          refine (within_any (Pt db) (db :: l) d _ h1.dir AUp.out).mono ?_
          rintro e w2 ⟨rfl, rfl⟩
          by_cases hin : d ∈ db :: l
          · have hrc : xcode (some (d, false)) (db :: l) hh = 200 := if_pos hin
            rw [decide_eq_true hin]
            go_wp2_with fail
            go_ret
            exact ⟨by rw [hrc0, hrc]; rfl, AB1.out⟩
          · have hrc : xcode (some (d, false)) (db :: l) hh = tcode l.length hh := (if_neg hin).trans (if_neg Bool.false_ne_true)
            rw [decide_eq_false hin]
            go_wp2_with fail
            refine (depth_any db l _ AUp.out hl).mono ?_
            rintro e w2 ⟨rfl, rfl⟩
            go_wp2_with fail
            refine (AHt.out _ AB1.out).mono ?_
            rintro e w3 ⟨rfl, hb3⟩
            have AB3 := aside hb3
            clear hb3
            by_cases hz : 64 < l.length + hh + 1
            · have hz2 : (64 : Int) < (l.length : Int) + (hh : Int) + 1 := by omega
              go_wp2_with fail
              go_ret
              exact ⟨by rw [hrc0, hrc]; unfold tcode; rw [if_pos hz]; rfl, below_tr AB1.out AB3.out⟩
            · have hz2 : ¬ (64 : Int) < (l.length : Int) + (hh : Int) + 1 := by omega
              go_wp2_with fail
              go_ret
              exact ⟨by rw [hrc0, hrc]; unfold tcode; rw [if_neg hz]; rfl, below_tr AB1.out AB3.out⟩
        · skip
          have xc1 := h1.c1
          go_wp2_with fail
          refine (directory_dir m d w1 h1.nod).mono ?_
          rintro e w2 ⟨rfl, rfl⟩
          go_wp2_with fail
          refine (within_any (Pt db) (db :: l) d _ h1.dir AUp.out).mono ?_
          rintro e w2 ⟨rfl, rfl⟩
          by_cases hin : d ∈ db :: l
          · have hrc : xcode (some (d, true)) (db :: l) hh = 200 := if_pos hin
            rw [decide_eq_true hin]
            go_wp2_with fail
            go_ret
            exact ⟨by rw [hrc0, hrc]; rfl, AB1.out⟩
          · have hrc : xcode (some (d, true)) (db :: l) hh = 191 := (if_neg hin).trans (if_pos rfl)
            rw [decide_eq_false hin]
            go_wp2_with fail
            go_ret
            exact ⟨by rw [hrc0, hrc]; rfl, AB1.out⟩
  · have hn : nameOk name = false := by simpa using hn
    rw [hn]
    clear hE hm
    go_wp2_with fail
    go_ret
    exact ⟨by unfold rcode; rw [if_pos hn]; rfl, AB1.out⟩
end Go.Proofs.YtknjclekfmmfeaaDoor
