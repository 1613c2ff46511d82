/- Add of a directory; Get, Take, Drop. -/
import Derived.Test.YtknjclekfmmfeaaDoorAdd
namespace Go.Proofs.YtknjclekfmmfeaaDoor
open Go.RowKit Go.ChangeMaps

theorem rc_name {name : ByteArray} {L : List KV} {x : Option (Nat × Bool)} {l : List Nat} {hh : Nat} (hc : rcode name L x l hh = 0) : nameOk name = true ∧ lk L name = none := by
  unfold rcode at hc
  by_cases h1 : nameOk name = false
  · rw [if_pos h1] at hc; omega
  · rw [if_neg h1] at hc
    by_cases h2 : (lk L name).isSome = true
    · rw [if_pos h2] at hc; omega
    · exact ⟨by simpa using h1, by simpa using h2⟩
theorem name_size {name : ByteArray} (h : nameOk name = true) : name.size ≤ maxLen := by
  unfold nameOk at h
  simp only [Bool.and_eq_true, decide_eq_true_eq] at h
  have := h.1.1.1.2
  unfold maxLen; omega

theorem Dr.set {w : World} {nb db mb : Nat} {up : Value} {L : List KV} (h : Dr w nb db mb up L) (v : Value) : Dr (w.setCell ⟨db, 1, none⟩ v) nb db mb v L := by
  obtain ⟨es, c, m1, m2⟩ := h.map
  refine ⟨set_far h.nod h.n3.symm, ?_, es, c, set_far m1 h.n2, m2⟩
  have := set_same (i := 1) (v := v) h.dir
  simpa using this

set_option maxRecDepth 20000 in
set_option maxHeartbeats 1000000 in
theorem add_dir (nb db mb : Nat) (up : Value) (L : List KV) (l : List Nat) (name : ByteArray) (m d b : Nat) (XL : List KV) (hh : Nat) (w : World) (h : Dr w nb db mb up L) (hU : Up w up l) (hl : l.length ≤ 1000000) (hm : Dr w m d b (.pointer none) XL) (hH : Ht w (Pt m) hh) (hh2 : hh ≤ 1000000) (hlen : L.length ≤ 1000000)
    (hbm : b ≠ mb) (hc : rcode name L (some (d, false)) (db :: l) hh = 0) : Calls Tryd.prog 15 #[Pt nb, .string name, Pt m] w fun e w' => e = .returned (.int .i64 0) ∧ Dr w' nb db mb up (L ++ [(name, Pt m)]) ∧ Dr w' m d b (Pt db) XL ∧ Upd (fun k => k = mb ∨ k = d) w w' := by
  have hR := refuses_any nb db mb up L l name m (some (d, false)) hh w h hU hl (.free d b XL hm) hH hh2 hlen
  rw [hc] at hR
  have hname := rc_name hc
  have hsz := name_size hname.1
  have hdd : d ≠ db := fun e => by
    unfold rcode at hc
    rw [if_neg (by rw [hname.1]; decide), if_neg (by rw [hname.2]; decide)] at hc
    by_cases h4 : 4096 ≤ L.length
    · rw [if_pos h4] at hc; omega
    · rw [if_neg h4] at hc
      unfold xcode at hc
      simp only at hc
      rw [if_pos (by rw [e]; simp)] at hc
      omega
  have AR := aside hR
  have AD := aside h
  have AM := aside hm
  have hnn := h.nod
  have hmn := hm.nod
  clear hR hU hc h hH hm
  go_enter Tryd.func15, Tryd.ntmps15
  go_wp2_with fail
  refine (what_node m d _ w hmn).mono ?_
  rintro e w' ⟨rfl, rfl⟩
  go_wp2_with fail
  refine (directory_dir nb db _ hnn).mono ?_
  rintro e w' ⟨rfl, rfl⟩
  go_wp2_with fail
  refine AR.out.mono ?_
  rintro e w1 ⟨rfl, hb1⟩
  have hD1 := AD.out.below hb1
  have hM1 := AM.out.below hb1
  have c2 := hD1.c2
  obtain ⟨es, clock, hmp, hE⟩ := hD1.map
  obtain ⟨es', hrun, hE'⟩ := put_new hmp hE (Pt m) hsz hname.2
  obtain ⟨U, hU⟩ : ∃ U, U = setBlock w1 mb (.map es' (clock + 1)) := ⟨_, rfl⟩
  rw [← hU] at hrun
  have hUp : Upd (fun k => k = mb) w1 U := by rw [hU]; exact Upd.setBlock _ _ _ rfl
  have hnmb : m ≠ mb := fun e => by have := hM1.nod; unfold Nd at this; rw [e, hmp] at this; simp at this
  have hdmb : d ≠ mb := fun e => by have := hM1.dir; rw [e, hmp] at this; simp at this
  have hMU := hM1.upd hUp hnmb hdmb hbm
  have hnmU := hMU.nod
  have hDU : Dr U nb db mb up (L ++ [(name, Pt m)]) := ⟨hD1.nod.upd hUp hD1.n1.symm, (hUp.block _ hD1.ld hD1.n2.symm).trans hD1.dir, es', clock + 1, by rw [hU]; exact heap_set_same hmp, hE'⟩
  have hdnb : d ≠ nb := fun e => by have h1 := hM1.dir; have h2 := hD1.nod; unfold Nd at h2; rw [e, h2] at h1; simp at h1
  have f1 := hMU.fz 1
  have c1 := hMU.c1
  have AD' : Aside (Dr (U.setCell ⟨d, 1, none⟩ (Pt db)) nb db mb up (L ++ [(name, Pt m)])) := hDU.upd (Upd.setCell (F := fun k => k = d) (p := ⟨d, 1, none⟩) rfl _) hdnb.symm hdd.symm hdmb.symm
  have AM' : Aside (Dr (U.setCell ⟨d, 1, none⟩ (Pt db)) m d b (Pt db) XL) := hMU.set (Pt db)
  have AU := aside hUp
  have AB := aside hb1
  clear hE hE' hmp hD1 hU hUp hb1 AR AD hM1 hMU hDU
  go_wp2_with fail
  refine (directory_dir m d _ hnmU).mono ?_
  rintro e w2 ⟨rfl, rfl⟩
  go_wp2_with fail
  go_ret
  exact ⟨rfl, AD'.out, AM'.out, (Upd.of_below AB.out).trans ((AU.out.mono (G := fun k => k = mb ∨ k = d) (fun _ _ h => .inl h)).trans (Upd.setCell (F := fun k => k = d) (p := ⟨d, 1, none⟩) rfl _) (fun _ _ h => .inr h)) (fun _ _ h => h)⟩

set_option maxRecDepth 20000 in
set_option maxHeartbeats 400000 in
theorem get_yes (nb db mb : Nat) (up : Value) (L : List KV) (name : ByteArray) (v : Value) (w : World) (h : Dr w nb db mb up L) (hl : lk L name = some v) : Calls Tryd.prog 55 #[Pt nb, .string name] w fun e w' => e = .returned (.tuple #[v, .int .i64 0]) ∧ w' = w := by
  obtain ⟨es, clock, hm, hE⟩ := h.map
  have hlo := look_yes hm hE hl true
  simp only [↓reduceIte] at hlo
  have c2 := h.c2
  have hn := h.nod
  clear hm hE h
  go_enter Tryd.func55, Tryd.ntmps55
  go_wp2_with fail
  refine (directory_dir nb db _ hn).mono ?_
  rintro e w' ⟨rfl, rfl⟩
  go_wp2
  go_ret2
  exact ⟨rfl, rfl⟩
set_option maxRecDepth 20000 in
set_option maxHeartbeats 400000 in
theorem get_no (nb db mb : Nat) (up : Value) (L : List KV) (name : ByteArray) (w : World) (h : Dr w nb db mb up L) (hl : lk L name = none) : Calls Tryd.prog 55 #[Pt nb, .string name] w fun e w' => e = .returned (.tuple #[.pointer none, .int .i64 192]) ∧ w' = w := by
  obtain ⟨es, clock, hm, hE⟩ := h.map
  have hlo := look_no hm hE hl true
  simp only [↓reduceIte] at hlo
  have c2 := h.c2
  have hn := h.nod
  clear hm hE h
  go_enter Tryd.func55, Tryd.ntmps55
  go_wp2_with fail
  refine (directory_dir nb db _ hn).mono ?_
  rintro e w' ⟨rfl, rfl⟩
  go_wp2
  go_ret2
  exact ⟨rfl, rfl⟩
set_option maxRecDepth 20000 in
set_option maxHeartbeats 400000 in
theorem get_nil (name : ByteArray) (w : World) : Calls Tryd.prog 55 #[.pointer none, .string name] w fun e w' => e = .returned (.tuple #[.pointer none, .int .i64 1]) ∧ w' = w := by
  go_enter Tryd.func55, Tryd.ntmps55
  go_wp2_with fail
  refine (directory_nil w).mono ?_
  rintro e w' ⟨rfl, rfl⟩
  go_wp2
  go_ret2
  exact ⟨rfl, rfl⟩
end Go.Proofs.YtknjclekfmmfeaaDoor
