/- Add: what it refuses, and what it leaves. -/
import Derived.Test.YtknjclekfmmfeaaDoorRef
namespace Go.Proofs.YtknjclekfmmfeaaDoor
open Go.RowKit Go.ChangeMaps

theorem Mk.nd {w : World} {m : Nat} {x : Option (Nat × Bool)} (h : Mk w m x) : ∃ t k, Nd w m t k := by
  rcases h with ⟨t, k, rfl, h1, h2⟩ | ⟨d, b, L, rfl, h1⟩ | ⟨d, b, u, L, rfl, h1⟩
  · exact ⟨t, k, h1⟩
  · exact ⟨_, d, h1.nod⟩
  · exact ⟨_, d, h1.nod⟩

set_option maxRecDepth 20000 in
set_option maxHeartbeats 400000 in
theorem add_nilm (n : Value) (name : ByteArray) (w : World) : Calls Tryd.prog 15 #[n, .string name, .pointer none] w fun e w' => e = .returned (.int .i64 1) ∧ w' = w := by
  go_enter Tryd.func15, Tryd.ntmps15
  go_wp2_with fail
  refine (what_nil w).mono ?_
  rintro e w' ⟨rfl, rfl⟩
  go_wp2
  go_ret
  exact ⟨rfl, rfl⟩
set_option maxRecDepth 20000 in
set_option maxHeartbeats 400000 in
theorem add_niln (name : ByteArray) (m k : Nat) (t : TypeId) (w : World) (h : Nd w m t k) : Calls Tryd.prog 15 #[.pointer none, .string name, Pt m] w fun e w' => e = .returned (.int .i64 1) ∧ w' = w := by
  go_enter Tryd.func15, Tryd.ntmps15
  go_wp2_with fail
  refine (what_node m k t w h).mono ?_
  rintro e w' ⟨rfl, rfl⟩
  go_wp2_with fail
  refine (directory_nil _).mono ?_
  rintro e w' ⟨rfl, rfl⟩
  go_wp2
  go_ret
  exact ⟨rfl, rfl⟩
set_option maxRecDepth 20000 in
set_option maxHeartbeats 400000 in
theorem add_notdir (name : ByteArray) (nb m k k2 : Nat) (t t2 : TypeId) (w : World) (h : Nd w m t k) (h2 : Nd w nb t2 k2) (ht : t2 = 88 ∨ t2 = 92 ∨ t2 = 89 ∨ t2 = 59) : Calls Tryd.prog 15 #[Pt nb, .string name, Pt m] w fun e w' => e = .returned (.int .i64 193) ∧ w' = w := by
  go_enter Tryd.func15, Tryd.ntmps15
  go_wp2_with fail
  refine (what_node m k t w h).mono ?_
  rintro e w' ⟨rfl, rfl⟩
  go_wp2_with fail
  refine (directory_other nb k2 t2 _ h2 ht).mono ?_
  rintro e w' ⟨rfl, rfl⟩
  go_wp2
  go_ret
  exact ⟨rfl, rfl⟩

set_option maxRecDepth 20000 in
set_option maxHeartbeats 1000000 in
theorem add_no (nb db mb : Nat) (up : Value) (L : List KV) (l : List Nat) (name : ByteArray) (m : Nat) (x : Option (Nat × Bool)) (hh : Nat) (c : Int) (w : World) (h : Dr w nb db mb up L) (hU : Up w up l) (hl : l.length ≤ 1000000) (hx : Mk w m x) (hH : Ht w (Pt m) hh) (hh2 : hh ≤ 1000000) (hlen : L.length ≤ 1000000)
    (hc : rcode name L x (db :: l) hh = c) (h0 : c ≠ 0) : Calls Tryd.prog 15 #[Pt nb, .string name, Pt m] w fun e w' => e = .returned (.int .i64 c) ∧ Below w.heap.size w w' := by
  obtain ⟨t, k, hnd⟩ := hx.nd
  have hR := fun W (hW : Below w.heap.size w W) => refuses_any nb db mb up L l name m x hh W (h.below hW) (hU.below hW) hl (hx.below hW) (hH.below hW) hh2 hlen
  rw [hc] at hR
  have AR := aside hR
  have hnn := h.nod
  have hc0 : (c == 0) = false := beq_eq_false_iff_ne.2 h0
  clear hR h hU hx hH hc
  go_enter Tryd.func15, Tryd.ntmps15
  go_wp2_with fail
  refine (what_node m k t w hnd).mono ?_
  rintro e w' ⟨rfl, rfl⟩
  go_wp2_with fail
  refine (directory_dir nb db _ hnn).mono ?_
  rintro e w' ⟨rfl, rfl⟩
  go_wp2_with fail
  refine (AR.out _ (Below.refl _ _)).mono ?_
  rintro e w1 ⟨rfl, hb1⟩
  go_wp2_with fail
  go_ret
  exact ⟨rfl, hb1⟩

set_option maxRecDepth 20000 in
set_option maxHeartbeats 1000000 in
theorem add_other (nb db mb : Nat) (up : Value) (L : List KV) (l : List Nat) (name : ByteArray) (m k : Nat) (t : TypeId) (w : World) (h : Dr w nb db mb up L) (hU : Up w up l) (hl : l.length ≤ 1000000) (hm : Nd w m t k) (ht : t = 88 ∨ t = 92 ∨ t = 89 ∨ t = 59) (hlen : L.length ≤ 1000000)
    (hc : rcode name L none (db :: l) 0 = 0) : Calls Tryd.prog 15 #[Pt nb, .string name, Pt m] w fun e w' => e = .returned (.int .i64 0) ∧ Dr w' nb db mb up (L ++ [(name, Pt m)]) ∧ Upd (fun k => k = mb) w w' := by
  have hR := refuses_any nb db mb up L l name m none 0 w h hU hl (.other t k hm ht) (ht_other m k t w hm ht) (by omega) hlen
  rw [hc] at hR
  have hname : nameOk name = true ∧ lk L name = none := by
    unfold rcode at hc
    by_cases h1 : nameOk name = false
    · rw [if_pos h1] at hc; omega
    · rw [if_neg h1] at hc
      by_cases h2 : (lk L name).isSome = true
      · rw [if_pos h2] at hc; omega
      · exact ⟨by simpa using h1, by simpa using h2⟩
  have hsz : name.size ≤ maxLen := by
    have := hname.1
    unfold nameOk at this
    simp only [Bool.and_eq_true, decide_eq_true_eq] at this
    have := this.1.1.1.2
    unfold maxLen; omega
  have AR := aside hR
  have AD := aside h
  have hnn := h.nod
  clear hR hU hc h
  go_enter Tryd.func15, Tryd.ntmps15
  go_wp2_with fail
  refine (what_node m k t w hm).mono ?_
  rintro e w' ⟨rfl, rfl⟩
  go_wp2_with fail
  refine (directory_dir nb db _ hnn).mono ?_
  rintro e w' ⟨rfl, rfl⟩
  go_wp2_with fail
  refine AR.out.mono ?_
  rintro e w1 ⟨rfl, hb1⟩
  have hD1 := AD.out.below hb1
  have c2 := hD1.c2
  have hnm1 := hm.below hb1
  obtain ⟨es, clock, hmp, hE⟩ := hD1.map
  obtain ⟨es', hrun, hE'⟩ := put_new hmp hE (Pt m) hsz hname.2
  obtain ⟨U, hU⟩ : ∃ U, U = setBlock w1 mb (.map es' (clock + 1)) := ⟨_, rfl⟩
  rw [← hU] at hrun
  have hUp : Upd (fun k => k = mb) w1 U := by rw [hU]; exact Upd.setBlock _ _ _ rfl
  have hnmb : m ≠ mb := fun e => by unfold Nd at hnm1; rw [e, hmp] at hnm1; simp at hnm1
  have hnmU := hnm1.upd hUp hnmb
  have AD' : Aside (Dr U nb db mb up (L ++ [(name, Pt m)])) := ⟨hD1.nod.upd hUp hD1.n1.symm, (hUp.block _ hD1.ld hD1.n2.symm).trans hD1.dir, es', clock + 1, by rw [hU]; exact heap_set_same hmp, hE'⟩
  have AU := aside hUp
  have AB := aside hb1
  clear hE hE' hmp hD1 hU hUp hb1 AR AD
  go_wp2_with fail
  refine (directory_other m k t _ hnmU ht).mono ?_
  rintro e w2 ⟨rfl, rfl⟩
  go_wp2_with fail
  go_ret
  exact ⟨rfl, AD'.out, (Upd.of_below AB.out).trans AU.out (fun _ _ h => h)⟩
end Go.Proofs.YtknjclekfmmfeaaDoor
