/- NodeKeeps: the walk. -/
import Derived.Test.YtamngnndodjcoaaGreatKp
namespace Go.Proofs.YtamngnndodjcoaaGreat
open Go.RowKit

theorem str_of_bytes (w : World) (a : Addr) (l : List UInt8) (n c : Nat) (hn : n = l.length) (h : ∀ j v, (bcells l)[j]? = some v → w.cell? (a.add j) = some v) : (convert 52 9 (.slice (some a) n c)).run Tryz.prog w = .ok (.string ⟨l.toArray⟩) w := by
  subst hn
  rw [run_convert_bytes_string w 52 9 5 (some a) l.length c Tryz.underlying52 Tryz.underlying5 Tryz.underlying9]
  have e : bcells l = (l.map fun b => (b.toNat : Int)).map (Value.int .u8) := by simp [bcells]
  rw [run_bytesToString w a l.length c (l.map fun b => (b.toNat : Int)) (by rw [← e]; have := run_loadCells_list (P := Tryz.prog) (w := w) a (bcells l) h; rwa [bcells_length] at this), foldl_push_byteCells, show ByteArray.empty.data = #[] from rfl, Array.empty_append]
theorem str_all (w : World) (a : Option Addr) (l : List UInt8) (c : Nat) (h : BsAt w a l) : (convert 52 9 (.slice a l.length c)).run Tryz.prog w = .ok (.string ⟨l.toArray⟩) w := by
  by_cases hl : l = []
  · subst hl
    cases a with
    | none =>
      show (convert 52 9 (.slice none 0 c)).run Tryz.prog w = _
      rw [run_convert_bytes_string w 52 9 5 none 0 c Tryz.underlying52 Tryz.underlying5 Tryz.underlying9]
      rfl
    | some a => exact str_of_bytes w a [] 0 c rfl (fun j v hj => by simp [bcells] at hj)
  · obtain ⟨ad, rfl, hc⟩ := h hl
    exact str_of_bytes w ad l l.length c rfl hc

theorem ne_node_same (a : Nat) (w : World) : (binOp .neq 33 (Pt a) (Pt a)).run Tryz.prog w = .ok (.bool false) w := by
  obtain ⟨j, hte⟩ : ∃ j, Tryz.prog.info? 90 = some j := ⟨_, Option.eq_some_of_isSome (o := Tryz.prog.info? 90) (by kernel_rfl)⟩
  have h : ∀ d : Nat, (Op.equalIn (d + 1) 33 (Pt a) (Pt a)).run Tryz.prog w = .ok true w := fun d => by
    simp [Op.equalIn, run_underlying Tryz.underlying33, sizeOf, typeInfo, hte, run_sameAddr_same]
  simp only [binOp]
  simp [Op.equal, Op.maxDepth, h 9999]
theorem xc_free {d : Nat} {l : List Nat} {hh : Nat} (h : ¬ d ∈ l) (h2 : l.length - 1 + hh + 1 ≤ 64) : xcode (some (d, false)) l hh = 0 := by
  unfold xcode
  simp only
  rw [if_neg h, if_neg Bool.false_ne_true]
  unfold tcode
  rw [if_neg (by omega)]

set_option maxRecDepth 20000 in
set_option maxHeartbeats 8000000 in
theorem nodeKeeps_walk (ba : Option Addr) (l : List UInt8) (c : Nat) (name other fresh : ByteArray) (w : World) (hb : BsAt w ba l) : Calls Tryz.prog 7 #[.slice ba l.length c, .string name, .string other, .string fresh] w fun e w' => e = .returned (.bool true) ∧ Below w.heap.size w w' := by
  have AW := aside (wakes_any w)
  go_enter Tryz.func7, Tryz.ntmps7
  go_wp2_with fail
  refine (rname_any name w).mono ?_
  rintro e w ⟨rfl, rfl⟩
  cases hN : nameOk name with
  | false =>
    go_wp2_with fail
    refine AW.out.mono ?_
    rintro e w1 ⟨rfl, b1⟩
    go_wp2_with fail
    go_ret
    exact ⟨rfl, b1⟩
  | true =>
    go_wp2_with fail
    refine (rname_any other w).mono ?_
    rintro e w ⟨rfl, rfl⟩
    cases hO : nameOk other with
    | false =>
      go_wp2_with fail
      refine AW.out.mono ?_
      rintro e w1 ⟨rfl, b1⟩
      go_wp2_with fail
      go_ret
      exact ⟨rfl, b1⟩
    | true =>
      by_cases hEq : name = other
      · have q0 : (name.toList == other.toList) = true := by rw [hEq]; exact beq_self_eq_true _
        go_wp2_with fail
        refine AW.out.mono ?_
        rintro e w1 ⟨rfl, b1⟩
        go_wp2_with fail
        go_ret
        exact ⟨rfl, b1⟩
      · have q0 : (name.toList == other.toList) = false := beq_eq_false_iff_ne.2 (fun e => hEq (by
          rw [Lib.toList_data, Lib.toList_data] at e
          cases name; cases other
          simp only [ByteArray.mk.injEq]
          exact Array.toList_inj.1 e))
        by_cases hLen : 1000 < l.length
        · have q1 : (1000 : Int) < (l.length : Int) := by omega
          go_wp2_with fail
          refine AW.out.mono ?_
          rintro e w1 ⟨rfl, b1⟩
          go_wp2_with fail
          go_ret
          exact ⟨rfl, b1⟩
        · have q1 : ¬ (1000 : Int) < (l.length : Int) := by omega
          have hl : l.length ≤ 1000 := by omega
          have AHb := aside hb
          have AEq := aside hEq
          have AN := aside hN
          have AO := aside hO
          clear hb hEq hN hO AW
          go_wp2_with fail
          refine (made_any ba l c w AHb.out (by omega)).mono ?_
          rintro e w1 ⟨mo, h, rfl, hmo, hH1, b1⟩
          have AH1 := aside hH1
          have AB1 := aside b1
          clear hH1 b1
          go_wp2_with fail
          refine (dir_new w1).mono ?_
          rintro e w2 ⟨nb, db, mb, rfl, hnb, hdb, hmb, hD2, b2⟩
          have AD2 := aside hD2
          have AB2 := aside b2
          clear hD2 b2
          go_wp2_with fail
          refine (dir_new w2).mono ?_
          rintro e w3 ⟨n2, d2, m2, rfl, hn2, hd2, hm2, hE3, b3⟩
          have AE3 := aside hE3
          have AB3 := aside b3
          clear hE3 b3
          go_wp2_with fail
          refine (file_new h w3).mono ?_
          rintro e w4 ⟨fn, ff, rfl, hfn, hff, hF4, b4⟩
          obtain ⟨fb, hfb, hA1⟩ := AH1.out.han
          have hK4 : Kp w w4 w1.heap.size w2.heap.size w3.heap.size l h fb mo nb db mb n2 d2 m2 fn ff (.pointer none) [] (.pointer none) [] := ⟨((hA1.below AB2.out).below AB3.out).below b4, ((AH1.out.my.below AB2.out).below AB3.out).below b4, (AD2.out.below AB3.out).below b4, AE3.out.below b4, hF4, below_tr (below_tr (below_tr AB1.out AB2.out) AB3.out) b4, ⟨hmo, AH1.out.lt, hfb, (Array.getElem?_eq_some_iff.1 hA1.han).1, (Array.getElem?_eq_some_iff.1 hA1.fil).1⟩, ⟨hnb, hdb, hmb, AD2.out.nod.lt, AD2.out.ld, AD2.out.lm⟩, ⟨hn2, hd2, hm2, AE3.out.nod.lt, AE3.out.ld, AE3.out.lm⟩, ⟨hfn, hff⟩⟩
          have hnum : db ≠ d2 ∧ mb ≠ m2 ∧ n2 ≠ fn ∧ nb ≠ n2 ∧ nb ≠ fn := by
            have := AD2.out.nod.lt; have := AD2.out.ld; have := AD2.out.lm; have := AE3.out.nod.lt
            omega
          obtain ⟨s1, s2, s3, s4, s5⟩ := hnum
          have K4 := aside hK4
          clear hK4 hF4 b4 hA1 AH1 AD2 AE3 AB2 AB3
          -- d.Add(name, e)
          go_wp2_with fail
          refine (add_dir nb db mb _ [] [] name n2 d2 m2 [] 0 w4 K4.out.dd Up.nil (by simp) K4.out.ee (ht_dir n2 d2 m2 _ [] (fun _ => 0) w4 K4.out.ee (fun p hp => by simp at hp)) (by omega) (by simp) (Ne.symm s2) (by rw [rc_of AN.out rfl (by simp)]; exact xc_free (by simp; exact Ne.symm s1) (by simp))).mono ?_
          rintro e w5 ⟨rfl, hD5, hE5, u5⟩
          have K5 := aside (K4.out.step u5 (fun x e => e.elim .inl (fun e => .inr (.inr (.inr e)))) hD5 hE5)
          clear hD5 hE5 u5 K4
          -- e.Add(other, f)
          go_wp2_with fail
          refine (add_other n2 d2 m2 (Pt db) [] [db] other fn ff _ w5 K5.out.ee (Up.dir K5.out.dd Up.nil) (by simp) K5.out.fl.nod (.inl rfl) (by simp) (by rw [rc_of AO.out rfl (by simp)]; rfl)).mono ?_
          rintro e w6 ⟨rfl, hE6, u6⟩
          have K6 := aside (K5.out.stepE u6 hE6)
          clear hE6 u6 K5
          -- d.Add(other, f)
          go_wp2_with fail
          refine (add_other nb db mb (.pointer none) [(name, Pt n2)] [] other fn ff _ w6 K6.out.dd Up.nil (by simp) K6.out.fl.nod (.inl rfl) (by simp) (by rw [rc_of AO.out (lk_other (Ne.symm AEq.out)) (by simp)]; rfl)).mono ?_
          rintro e w7 ⟨rfl, hD7, u7⟩
          have K7 := aside (K6.out.stepD u7 hD7)
          clear hD7 u7 K6
          -- d.Drop(name)
          go_wp2_with fail
          refine (drop_full nb db mb _ [(name, Pt n2), (other, Pt fn)] name n2 d2 m2 _ [(other, Pt fn)] w7 K7.out.dd lk_first K7.out.ee (by simp)).mono ?_
          rintro e w7 ⟨rfl, rfl⟩
          go_wp2_with fail
          -- e.Add(fresh, d)
          have hHe : Ht w7 (Pt n2) 1 := ht_dir n2 d2 m2 _ [(other, Pt fn)] (fun _ => 0) w7 K7.out.ee (fun p hp => by
            simp only [List.mem_singleton] at hp; subst hp
            exact ⟨ht_other fn ff _ w7 K7.out.fl.nod (.inl rfl), by omega⟩)
          have hHd : Ht w7 (Pt nb) (top (hgt n2 1) [(name, Pt n2), (other, Pt fn)]) := ht_dir nb db mb _ _ (hgt n2 1) w7 K7.out.dd (fun p hp => by
            simp only [List.mem_cons, List.not_mem_nil, or_false] at hp
            rcases hp with rfl | rfl
            · rw [hgt_yes]; exact ⟨hHe, by omega⟩
            · rw [hgt_no _ _ _ (Ne.symm s3)]; exact ⟨ht_other fn ff _ w7 K7.out.fl.nod (.inl rfl), by omega⟩)
          have hHd2 : top (hgt n2 1) [(name, Pt n2), (other, Pt fn)] ≤ 1000000 := by
            show max (hgt n2 1 (Pt n2) + 1) (max (hgt n2 1 (Pt fn) + 1) 0) ≤ 1000000
            rw [hgt_yes, hgt_no _ _ _ (Ne.symm s3)]; omega
          obtain ⟨c5, hc5⟩ : ∃ c5, rcode fresh [(other, Pt fn)] (some (db, false)) [d2, db] (top (hgt n2 1) [(name, Pt n2), (other, Pt fn)]) = c5 := ⟨_, rfl⟩
          have hc5n : c5 ≠ 0 := by rw [← hc5]; exact rc_loop (by simp)
          have hc5b : (c5 == 0) = false := beq_eq_false_iff_ne.2 hc5n
          refine (add_no n2 d2 m2 (Pt db) [(other, Pt fn)] [db] fresh nb _ _ c5 w7 K7.out.ee (Up.dir K7.out.dd Up.nil) (by simp) (.free db mb _ K7.out.dd) hHd hHd2 (by simp) hc5 hc5n).mono ?_
          rintro e w8 ⟨rfl, b8⟩
          have K8 := aside (K7.out.below b8)
          have AHe := aside (hHe.below b8)
          clear hHe hHd hHd2 hc5 K7 b8
          go_wp2_with fail
          -- e.Add(fresh, e)
          obtain ⟨c6, hc6⟩ : ∃ c6, rcode fresh [(other, Pt fn)] (some (d2, true)) [d2, db] 1 = c6 := ⟨_, rfl⟩
          have hc6n : c6 ≠ 0 := by rw [← hc6]; exact rc_loop (by simp)
          have hc6b : (c6 == 0) = false := beq_eq_false_iff_ne.2 hc6n
          refine (add_no n2 d2 m2 (Pt db) [(other, Pt fn)] [db] fresh n2 _ 1 c6 w8 K8.out.ee (Up.dir K8.out.dd Up.nil) (by simp) (.held d2 m2 db _ K8.out.ee) AHe.out (by omega) (by simp) hc6 hc6n).mono ?_
          rintro e w9 ⟨rfl, b9⟩
          have K9 := aside (K8.out.below b9)
          clear hc6 K8 b9 AHe
          go_wp2_with fail
          -- d.Add(name, f)
          refine (add_no nb db mb _ [(name, Pt n2), (other, Pt fn)] [] name fn none 0 191 w9 K9.out.dd Up.nil (by simp) (.other _ ff K9.out.fl.nod (.inl rfl)) (ht_other fn ff _ w9 K9.out.fl.nod (.inl rfl)) (by omega) (by simp) (rc_there AN.out lk_first) (by omega)).mono ?_
          rintro e w10 ⟨rfl, b10⟩
          have K10 := aside (K9.out.below b10)
          clear K9 b10
          go_wp2_with fail
          -- d.Take(name)
          refine (take_dir nb db mb _ [(name, Pt n2), (other, Pt fn)] name n2 d2 m2 _ [(other, Pt fn)] w10 K10.out.dd lk_first K10.out.ee (Ne.symm s2) (Ne.symm s1)).mono ?_
          rintro e w11 ⟨rfl, hD11, hE11, u11⟩
          rw [del_first] at hD11
          have K11 := aside (K10.out.step u11 (fun x e => e.elim .inl (fun e => .inr (.inr (.inr e)))) hD11 hE11)
          clear hD11 hE11 u11 K10
          have qe := ne_node_same n2
          go_wp2_with fail
          -- d.Drop(other)
          refine (drop_other nb db mb _ [(other, Pt fn)] other fn ff _ w11 K11.out.dd lk_first K11.out.fl.nod (.inl rfl)).mono ?_
          rintro e w12 ⟨rfl, hD12, u12⟩
          rw [del_first] at hD12
          have K12 := aside (K11.out.stepD u12 hD12)
          clear hD12 u12 K11
          go_wp2_with fail
          -- e.Get(other)
          refine (get_yes n2 d2 m2 _ [(other, Pt fn)] other (Pt fn) w12 K12.out.ee lk_first).mono ?_
          rintro e w12 ⟨rfl, rfl⟩
          have q4 : ∀ w, (Instr.build 61 #[(0, .int .i8 1), (2, .int .i64 2000)]).run Tryz.prog w = .ok opRead w := fun w => run_build w 61 _ _ (by kernel_rfl)
          go_wp2_with fail
          refine (do_read h mo l w12 K12.out.hn hl).mono ?_
          rintro e w13 ⟨v, rfl, hT13, hH13, u13⟩
          have K13 := aside (K12.out.read u13 hH13)
          obtain ⟨va, vc, rfl⟩ := hT13.form
          have hbs := hT13.bs
          have ABs := aside hbs
          clear hT13 hH13 u13 K12 hbs
          obtain ⟨W14, hW14⟩ : ∃ W14, W14 = w13.alloc (.cells #[.int .i64 0, .int .i64 0, .int .i64 0, .slice va l.length vc] 58) := ⟨_, rfl⟩
          have b14 : Below w13.heap.size w13 W14 := by rw [hW14]; exact below_al w13 _
          have z1 := str_all W14 va l vc (ABs.out.below b14)
          have z2 := str_all W14 ba l c (AHb.out.below (below_tr K13.out.bel b14))
          have K14 := aside (K13.out.below b14)
          have p3 : W14.cell? ⟨w13.heap.size, 3, none⟩ = some (.slice va l.length vc) := by rw [hW14]; go_simp
          have qf := ne_node_same fn
          have qs : ∀ w, (binOp .neq 9 (.string ⟨l.toArray⟩) (.string ⟨l.toArray⟩)).run Tryz.prog w = .ok (.bool false) w := fun w => by simp [binOp, Op.stringOp]
          clear K13 b14 ABs
          subst hW14
          go_wp2_with fail
          -- e.Add(name, d)
          refine (add_dir n2 d2 m2 _ [(other, Pt fn)] [] name nb db mb [] 0 _ K14.out.ee Up.nil (by simp) K14.out.dd (ht_dir nb db mb _ [] (fun _ => 0) _ K14.out.dd (fun p hp => by simp at hp)) (by omega) (by simp) s2 (by rw [rc_of AN.out (lk_other AEq.out) (by simp)]; exact xc_free (by simp; exact s1) (by simp))).mono ?_
          rintro e w15 ⟨rfl, hE15, hD15, u15⟩
          have K15 := aside (K14.out.step u15 (fun x e => e.elim (fun e => .inr (.inl e)) (fun e => .inr (.inr (.inl e)))) hD15 hE15)
          clear hE15 hD15 u15 K14 z1 z2 p3
          go_wp2_with fail
          -- d.Add(name, e)
          have hHe : Ht w15 (Pt n2) 1 := ht_dir n2 d2 m2 _ [(other, Pt fn), (name, Pt nb)] (fun _ => 0) w15 K15.out.ee (fun p hp => by
            simp only [List.mem_cons, List.not_mem_nil, or_false] at hp
            rcases hp with rfl | rfl
            · exact ⟨ht_other fn ff _ w15 K15.out.fl.nod (.inl rfl), by omega⟩
            · exact ⟨ht_dir nb db mb _ [] (fun _ => 0) w15 K15.out.dd (fun p hp => by simp at hp), by omega⟩)
          refine (add_no nb db mb _ [] [d2] name n2 _ 1 200 w15 K15.out.dd (Up.dir K15.out.ee Up.nil) (by simp) (.free d2 m2 _ K15.out.ee) hHe (by omega) (by simp) (by rw [rc_of AN.out rfl (by simp)]; exact if_pos (by simp)) (by omega)).mono ?_
          rintro e w16 ⟨rfl, b16⟩
          have B16 := aside (below_tr K15.out.bel b16)
          clear K15 b16 hHe
          go_wp2_with fail
          refine (wakes_any w16).mono ?_
          rintro e w17 ⟨rfl, b17⟩
          go_wp2_with fail
          go_ret
          exact ⟨rfl, below_tr B16.out b17⟩
end Go.Proofs.YtamngnndodjcoaaGreat
