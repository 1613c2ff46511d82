/- NodeKnown: the walk. -/
import Derived.Test.YtamngnndodjcoabGreatKnw2
namespace Go.Proofs.YtamngnndodjcoabGreat
open Go.RowKit

theorem u8_cell (a : Nat) (h : a < 256) : (((UInt8.ofNat a).toNat : Nat) : Int) = (a : Int) := by
  simp only [UInt8.toNat_ofNat']
  omega
theorem nm3_string (i : Nat) (w : World) (hi : i < 4096) : (convert 26 9 (.slice (some ⟨w.heap.size, 0, none⟩) 3 3)).run Tryz.prog (w.alloc (.cells #[.int .u8 (97 + (i : Int) % 26), .int .u8 (97 + (i : Int) / 26 % 26), .int .u8 (97 + (i : Int) / 676)] 5)) = .ok (.string (nm3 i)) (w.alloc (.cells #[.int .u8 (97 + (i : Int) % 26), .int .u8 (97 + (i : Int) / 26 % 26), .int .u8 (97 + (i : Int) / 676)] 5)) :=
  str_of_bytes _ ⟨w.heap.size, 0, none⟩ (b3 i) 3 3 rfl (fun j v hj => by
    rw [Addr.add_lit, Nat.zero_add, cell_of_row _ w.heap.size j _ _ _ (heap_alloc_new w _)]
    rw [← hj]
    have e1 : (((UInt8.ofNat (97 + i % 26)).toNat : Nat) : Int) = 97 + (i : Int) % 26 := by rw [u8_cell _ (by omega)]; omega
    have e2 : (((UInt8.ofNat (97 + i / 26 % 26)).toNat : Nat) : Int) = 97 + (i : Int) / 26 % 26 := by rw [u8_cell _ (by omega)]; omega
    have e3 : (((UInt8.ofNat (97 + i / 676)).toNat : Nat) : Int) = 97 + (i : Int) / 676 := by rw [u8_cell _ (by omega)]; omega
    unfold b3 bcells
    rw [List.map_cons, List.map_cons, List.map_cons, List.map_nil, e1, e2, e3]
    exact List.getElem?_toArray)

set_option maxRecDepth 40000 in
set_option maxHeartbeats 16000000 in
theorem nodeKnown_walk (w : World) : Calls Tryz.prog 3 #[] w fun e w' => e = .returned (.bool true) ∧ Below w.heap.size w w' := by
  have hcv := fun (w : World) (C : Array Value) (n c : Nat) => Lib.run_convert_bytes_const (P := Tryz.prog) w 26 5 C n c Tryz.underlying26 Tryz.underlying5
  go_enter Tryz.func3, Tryz.ntmps3
  go_wp2_with fail
  obtain ⟨W0, hW0⟩ : ∃ W0, W0 = w.alloc (.cells #[.int .u8 97, .int .u8 98, .int .u8 99] 5 (3, 4)) := ⟨_, rfl⟩
  have hb0 : W0.heap[w.heap.size]? = some (.cells #[.int .u8 97, .int .u8 98, .int .u8 99] 5 (3, 4)) := by rw [hW0]; exact heap_alloc_new w _
  have B0 : Below w.heap.size w W0 := by rw [hW0]; exact below_al w _
  rw [← hW0]
  clear hW0
  refine (made_any (some ⟨w.heap.size, 0, none⟩) [97, 98, 99] 3 W0 (abc_bytes hb0) (by decide)).mono ?_
  rintro e w1 ⟨mo, h, rfl, hmo, hH1, b1⟩
  have AH1 := aside hH1
  have B1 := aside (below_tr B0 b1)
  have SB0 := B0.size
  have hmo2 : w.heap.size ≤ mo := Nat.le_trans SB0 hmo
  clear hH1 hb0 B0 b1 hmo hcv
  -- Link("")
  go_wp2_with fail
  refine (link_none w1).mono ?_
  rintro e w1' ⟨rfl, rfl⟩
  -- Link(string(make([]byte, 4097)))
  obtain ⟨W2, hW2⟩ : ∃ W2, W2 = w1'.alloc (.cells (bcells (List.replicate 4097 0)).toArray 5) := ⟨_, rfl⟩
  obtain ⟨s4, hs4⟩ : ∃ s4 : ByteArray, s4 = ⟨(List.replicate 4097 (0 : UInt8)).toArray⟩ := ⟨_, rfl⟩
  have hmk : (Instr.makeSlice 26 (.int .i64 4097) (.int .i64 4097)).run Tryz.prog w1' = .ok (.slice (some ⟨w1'.heap.size, 0, none⟩) 4097 4097) W2 := by rw [hW2]; exact make_bytes w1' 4097 (by omega)
  have hls : (convert 26 9 (.slice (some ⟨w1'.heap.size, 0, none⟩) 4097 4097)).run Tryz.prog W2 = .ok (.string s4) W2 := by rw [hW2, hs4]; exact long_string w1'
  have hsz : 4096 < s4.size := by rw [hs4]; show 4096 < (List.replicate 4097 (0 : UInt8)).toArray.size; rw [List.size_toArray, List.length_replicate]; omega
  have B2 : Below w1'.heap.size w1' W2 := by rw [hW2]; exact below_al w1' _
  have AB2 := aside (below_tr B1.out B2)
  have AH2 := aside (AH1.out.below B2)
  have AZ := aside hsz
  clear hW2 hs4 B2 hsz B1 AH1
  go_wp2_with fail
  refine (link_long s4 W2 AZ.out).mono ?_
  rintro e w2 ⟨rfl, rfl⟩
  clear AZ hmk hls
  -- Mount(nil)
  go_wp2_with fail
  refine (mount_nil w2).mono ?_
  rintro e w2' ⟨rfl, rfl⟩
  -- File(h)
  go_wp2_with fail
  refine (file_new h w2').mono ?_
  rintro e w3 ⟨fn, ff, rfl, hfn, hff, hF3, b3⟩
  have AF3 := aside hF3
  have AB3 := aside b3
  clear hF3 b3
  -- Mount(f)
  go_wp2_with fail
  refine (mount_file fn ff w3 AF3.out.nod).mono ?_
  rintro e w3' ⟨rfl, rfl⟩
  -- Dir(), Dir()
  go_wp2_with fail
  refine (dir_new w3').mono ?_
  rintro e w4 ⟨nb, db, mb, rfl, hnb, hdb, hmb, hD4, b4⟩
  have AD4 := aside hD4
  have AB4 := aside b4
  clear hD4 b4
  go_wp2_with fail
  refine (dir_new w4).mono ?_
  rintro e w5 ⟨n2, d2, m2, rfl, hn2, hd2, hm2, hE5, b5⟩
  obtain ⟨fb, hfb, hA1⟩ := AH2.out.han
  have hK5 : Kn w w5 w2'.heap.size w3'.heap.size w4.heap.size w5.heap.size [97, 98, 99] h fb mo nb db mb n2 d2 m2 fn ff (.pointer none) [] (.pointer none) [] := by
    have x1 := AH2.out.my.lt
    have x2 := (Array.getElem?_eq_some_iff.1 hA1.han).1
    have x3 := (Array.getElem?_eq_some_iff.1 hA1.fil).1
    have x4 := AH2.out.lt
    have x5 := AF3.out.nod.lt
    have x6 := (Array.getElem?_eq_some_iff.1 AF3.out.fil).1
    exact ⟨((hA1.below AB3.out).below AB4.out).below b5, ((AH2.out.my.below AB3.out).below AB4.out).below b5, AD4.out.below b5, hE5, (AF3.out.below AB4.out).below b5, below_tr (below_tr (below_tr AB2.out AB3.out) AB4.out) b5,
      ⟨hmo2, x4, hfb, x2, x3⟩, ⟨hnb, hdb, hmb, AD4.out.nod.lt, AD4.out.ld, AD4.out.lm⟩, ⟨hn2, hd2, hm2, hE5.nod.lt, hE5.ld, hE5.lm⟩, ⟨hfn, hff, x5, x6⟩⟩
  have K5 := aside hK5
  obtain ⟨s1, s2, s3, s4, s5⟩ : db ≠ d2 ∧ mb ≠ m2 ∧ n2 ≠ fn ∧ nb ≠ n2 ∧ nb ≠ fn := by
    have := hK5.nd; have := hK5.ne; have := hK5.nf
    omega
  clear hK5 hE5 b5 hA1 AD4 AB4 AF3 AB3 AH2 AB2 hfb hnb hdb hmb hn2 hd2 hm2 hfn hff hmo2 SB0
  -- one
  go_wp2_with fail
  refine (add_other nb db mb (.pointer none) [] [] sA fn ff _ w5 K5.out.dd Up.nil (by simp) K5.out.fl.nod (.inl rfl) (by simp) (rc_a0 db)).mono ?_
  rintro e w6 ⟨rfl, hD6, u6⟩
  have K6 := aside (K5.out.stepD u6 hD6)
  clear hD6 u6 K5
  go_wp2_with fail
  refine (dir_new w6).mono ?_
  rintro e w7 ⟨z1, z2, z3, rfl, -, -, -, hZ, b7⟩
  have K7 := aside (K6.out.below b7)
  have AZ := aside hZ
  clear K6 b7 hZ
  go_wp2_with fail
  refine (add_no nb db mb (.pointer none) [(sA, Pt fn)] [] sA z1 _ 0 191 w7 K7.out.dd Up.nil (by simp) (.free z2 z3 _ AZ.out) (ht_dir z1 z2 z3 _ [] (fun _ => 0) w7 AZ.out (fun p hp => by simp at hp)) (by omega) (by simp) (rc_there okA (lk_one _ _)) (by omega)).mono ?_
  rintro e w8 ⟨rfl, b8⟩
  have K8 := aside (K7.out.below b8)
  clear K7 b8 AZ
  go_wp2_with fail
  refine (dir_new w8).mono ?_
  rintro e w9 ⟨y1, y2, y3, rfl, -, -, -, hZ, b9⟩
  have K9 := aside (K8.out.below b9)
  have AZ := aside hZ
  clear K8 b9 hZ
  go_wp2_with fail
  refine (add_no nb db mb (.pointer none) [(sA, Pt fn)] [] sUp y1 _ 0 190 w9 K9.out.dd Up.nil (by simp) (.free y2 y3 _ AZ.out) (ht_dir y1 y2 y3 _ [] (fun _ => 0) w9 AZ.out (fun p hp => by simp at hp)) (by omega) (by simp) (rc_bad noUp) (by omega)).mono ?_
  rintro e w10 ⟨rfl, b10⟩
  have K10 := aside (K9.out.below b10)
  clear K9 b10 AZ
  go_wp2_with fail
  refine (add_nilm (Pt nb) _ w10).mono ?_
  rintro e w10' ⟨rfl, rfl⟩
  -- two
  go_wp2_with fail
  refine (add_dir nb db mb _ [(sA, Pt fn)] [] sE n2 d2 m2 [] 0 w10' K10.out.dd Up.nil (by simp) K10.out.ee (ht_dir n2 d2 m2 _ [] (fun _ => 0) _ K10.out.ee (fun p hp => by simp at hp)) (by omega) (by simp) (Ne.symm s2) (by rw [rc_of okE (lk_other (by decide)) (by simp)]; exact xc_free (by simp; exact Ne.symm s1) (by simp))).mono ?_
  rintro e w11 ⟨rfl, hD11, hE11, u11⟩
  have K11 := aside (K10.out.step u11 (fun x e => e.elim .inl (fun e => .inr (.inr (.inr e)))) hD11 hE11)
  clear hD11 hE11 u11 K10
  go_wp2_with fail
  have hHe : Ht w11 (Pt n2) 0 := ht_dir n2 d2 m2 _ [] (fun _ => 0) w11 K11.out.ee (fun p hp => by simp at hp)
  have hHd : Ht w11 (Pt nb) 1 := ht_dir nb db mb _ [(sA, Pt fn), (sE, Pt n2)] (fun _ => 0) w11 K11.out.dd (fun p hp => by
    simp only [List.mem_cons, List.not_mem_nil, or_false] at hp
    rcases hp with rfl | rfl
    · exact ⟨ht_other fn ff _ w11 K11.out.fl.nod (.inl rfl), by omega⟩
    · exact ⟨hHe, by omega⟩)
  refine (add_no n2 d2 m2 _ [] [db] sX nb _ 1 200 w11 K11.out.ee (Up.dir K11.out.dd Up.nil) (by simp) (.free db mb _ K11.out.dd) hHd (by omega) (by simp) (by rw [rc_of okX rfl (by simp)]; exact if_pos (by simp)) (by omega)).mono ?_
  rintro e w12 ⟨rfl, b12⟩
  have K12 := aside (K11.out.below b12)
  have hHe := hHe.below b12
  clear hHd K11 b12
  have AHe := aside hHe
  clear hHe
  go_wp2_with fail
  refine (add_no n2 d2 m2 _ [] [db] sX n2 _ 0 200 w12 K12.out.ee (Up.dir K12.out.dd Up.nil) (by simp) (.held d2 m2 db _ K12.out.ee) AHe.out (by omega) (by simp) (by rw [rc_of okX rfl (by simp)]; exact if_pos (by simp)) (by omega)).mono ?_
  rintro e w13 ⟨rfl, b13⟩
  have K13 := aside (K12.out.below b13)
  have AHe := aside (AHe.out.below b13)
  clear K12 b13
  go_wp2_with fail
  refine (dir_new w13).mono ?_
  rintro e w14 ⟨x1, x2, x3, rfl, -, hx2, -, hZ, b14⟩
  have K14 := aside (K13.out.below b14)
  have AHe := aside (AHe.out.below b14)
  have hx2 : d2 ≠ x2 := by have := K13.out.ee.ld; omega
  have AZ := aside hZ
  clear K13 b14 hZ
  go_wp2_with fail
  refine (add_no x1 x2 x3 _ [] [] sF n2 _ 0 191 w14 AZ.out Up.nil (by simp) (.held d2 m2 db _ K14.out.ee) AHe.out (by omega) (by simp) (by rw [rc_of okF rfl (by simp)]; unfold xcode; simp only; rw [if_neg (by simp; exact hx2)]; exact if_pos trivial) (by omega)).mono ?_
  rintro e w15 ⟨rfl, b15⟩
  have K15 := aside (K14.out.below b15)
  clear K14 b15 AHe AZ
  go_wp2_with fail
  refine (add_other n2 d2 m2 (Pt db) [] [db] sH fn ff _ w15 K15.out.ee (Up.dir K15.out.dd Up.nil) (by simp) K15.out.fl.nod (.inl rfl) (by simp) (by rw [rc_of okH rfl (by simp)]; rfl)).mono ?_
  rintro e w16 ⟨rfl, hE16, u16⟩
  have K16 := aside (K15.out.stepE u16 hE16)
  clear hE16 u16 K15
  go_wp2_with fail
  refine (drop_full nb db mb _ [(sA, Pt fn), (sE, Pt n2)] sE n2 d2 m2 _ _ w16 K16.out.dd (lk_two (by decide)) K16.out.ee (by simp)).mono ?_
  rintro e w16' ⟨rfl, rfl⟩
  go_wp2_with fail
  refine (drop_none nb db mb _ [(sA, Pt fn), (sE, Pt n2)] sZ w16' K16.out.dd (lk_free (fun p hp => by
    simp only [List.mem_cons, List.not_mem_nil, or_false] at hp
    rcases hp with rfl | rfl
    · exact (show sZ ≠ sA by decide)
    · exact (show sZ ≠ sE by decide)))).mono ?_
  rintro e w16'' ⟨rfl, rfl⟩
  -- List
  go_wp2_with fail
  refine (list_any nb db mb h mo [97, 98, 99] _ [(sA, Pt fn), (sE, Pt n2)] [sA, sE] (fun s => if s = sA then 0 else 1) (fun s => if s = sA then 3 else 1) w16'' K16.out.dd K16.out.hn (fun p hp => by
    simp only [List.mem_cons, List.not_mem_nil, or_false] at hp
    rcases hp with rfl | rfl
    · exact .file fn ff K16.out.fl
    · exact .dir n2 d2 m2 _ _ K16.out.ee (by simp)) (by simp) (fun nm hm => by
    simp only [List.mem_cons, List.not_mem_nil, or_false] at hm
    rcases hm with rfl | rfl
    · exact ⟨_, lk_first⟩
    · exact ⟨_, lk_two (by decide)⟩) (sort_two _ _)).mono ?_
  rintro e w17 ⟨v, rfl, hrow, hH17, u17⟩
  have K17 := aside (K16.out.read u17 hH17)
  obtain ⟨gv, cv, rfl, hg3, hg4, hg5⟩ : ∃ gv cv, v = .slice (some ⟨gv, 0, none⟩) 2 cv ∧ w17.cell? ⟨gv, 3, none⟩ = some (.string sE) ∧ w17.cell? ⟨gv, 4, none⟩ = some (.int .i8 1) ∧ w17.cell? ⟨gv, 5, none⟩ = some (.int .i64 1) := by
    rcases hrow.2 with ⟨-, h0⟩ | ⟨gv, cv, cur, rfl, -⟩
    · simp at h0
    · refine ⟨gv, cv, rfl, ?_, ?_, ?_⟩
      · have := hrow.cells rfl 3 _ rfl; simpa [Addr.add_lit] using this
      · have := hrow.cells rfl 4 _ rfl; simpa [Addr.add_lit] using this
      · have := hrow.cells rfl 5 _ rfl; simpa [Addr.add_lit] using this
  clear hrow hH17 u17 K16
  have q3 : ∀ w, (binOp .eql 41 (.agg #[.string sE, .int .i8 1, .int .i64 1]) (.agg #[.string sE, .int .i8 1, .int .i64 1])).run Tryz.prog w = .ok (.bool true) w := fun w => by kernel_rfl
  have q4 : ∀ w, (Instr.build 41 #[(0, .string sE), (1, .int .i8 1), (2, .int .i64 1)]).run Tryz.prog w = .ok (.agg #[.string sE, .int .i8 1, .int .i64 1]) w := fun w => run_build w 41 _ _ (by kernel_rfl)
  go_wp2_with fail
  refine (mount_dir nb db w17 K17.out.dd.nod).mono ?_
  rintro e w18 ⟨mn, mk, rfl, hmn, hmk, hM18, b18⟩
  have K18 := aside (K17.out.below b18)
  have M18 := aside hM18
  have hmm : mn ≠ mb ∧ mk ≠ mb := by have := K17.out.dd.lm; omega
  clear K17 b18 hM18 hg3 hg4 hg5 q3 q4 hmn hmk
  go_wp2_with fail
  refine (mount_mount mn mk db w18 M18.out).mono ?_
  rintro e w19 ⟨nn, nk, rfl, hnn, hnk, hN19, b19⟩
  have K19 := aside (K18.out.below b19)
  have M19 := aside (M18.out.below b19)
  have N19 := aside hN19
  clear K18 M18 b19 hN19 hnn hnk
  go_wp2_with fail
  refine (under_mount nn nk db nb mb _ _ w19 N19.out K19.out.dd).mono ?_
  rintro e w19' ⟨rfl, rfl⟩
  clear N19
  go_wp2_with fail
  refine (get_other mn mk _ sA w19' M19.out.nod (.inr (.inr rfl))).mono ?_
  rintro e w19'' ⟨rfl, rfl⟩
  go_wp2_with fail
  refine (open_dir nb db w19'' K19.out.dd.nod).mono ?_
  rintro e w20 ⟨rfl, rfl⟩
  go_wp2_with fail
  refine (leads_dir nb db w20 K19.out.dd.nod).mono ?_
  rintro e w21 ⟨rfl, rfl⟩
  -- three
  have q1 := eq_node (w := w21) K19.out.dd.nod K19.out.dd.nod
  rw [decide_eq_true rfl] at q1
  go_wp2_with fail
  refine (add_notdir sA fn nb _ _ _ _ w21 K19.out.dd.nod K19.out.fl.nod (.inl rfl)).mono ?_
  rintro e w22 ⟨rfl, rfl⟩
  clear q1
  go_wp2_with fail
  refine (add_other nb db mb _ [(sA, Pt fn), (sE, Pt n2)] [] sM mn mk _ w22 K19.out.dd Up.nil (by simp) M19.out.nod (.inr (.inr rfl)) (by simp) (by
    rw [rc_of okM (lk_free (fun p hp => by
      simp only [List.mem_cons, List.not_mem_nil, or_false] at hp
      rcases hp with rfl | rfl
      · exact (show sM ≠ sA by decide)
      · exact (show sM ≠ sE by decide))) (by simp)]
    rfl)).mono ?_
  rintro e w23 ⟨rfl, hD23, u23⟩
  have K23 := aside (K19.out.stepD u23 hD23)
  have M23 := aside (M19.out.upd u23 hmm.1 hmm.2)
  clear hD23 u23 K19 M19 hmm
  go_wp2_with fail
  refine (kind_mount mn mk w23 M23.out.nod).mono ?_
  rintro e w23' ⟨rfl, rfl⟩
  clear M23
  go_wp2_with fail
  refine (white_new w23').mono ?_
  rintro e w24 ⟨wn, wk, rfl, -, hW24, b24⟩
  have K24 := aside (K23.out.below b24)
  have W24 := aside hW24
  clear K23 b24 hW24
  go_wp2_with fail
  refine (kind_white wn wk w24 W24.out).mono ?_
  rintro e w24' ⟨rfl, rfl⟩
  clear W24
  go_wp2_with fail
  refine (dir_new w24').mono ?_
  rintro e w25 ⟨xn, xd, xm, rfl, hxn, hxd, hxm, hX25, b25⟩
  have B25 := aside (below_tr K24.out.bel b25)
  have F25 := aside (K24.out.fl.nod.below b25)
  have X25 := aside hX25
  have hxf : w.heap.size ≤ xm ∧ fn < xm := by have := K24.out.bel.size; have := K24.out.fl.nod.lt; omega
  clear K24 b25 hX25 hxn hxd hxm
  go_wp2_with fail
  go_loopg [32] 4096 (fun g s32 wx => ∃ i : Nat, i + g = 4096 ∧ s32 = .int .i64 (i : Int) ∧ Dr wx xn xd xm (.pointer none) (Lx fn i) ∧ Nd wx fn 70 ff ∧ Below w.heap.size w wx)
  case atStart => exact ⟨0, by omega, rfl, X25.out, F25.out, B25.out⟩
  case round =>
    clear X25 F25 B25
    obtain ⟨i, hgi, rfl, hX, hF, hB⟩ := hrel
    have X := aside hX
    have F := aside hF
    have B := aside hB
    clear hX hF hB
    cases gk with
    | zero =>
      have hi : ¬ ((i : Int) < 4096) := by omega
      go_wp2_with fail
      obtain rfl : i = 4096 := by omega
      refine (add_no xn xd xm _ (Lx fn 4096) [] sMore fn none 0 4 wr X.out Up.nil (by simp) (.other _ ff F.out (.inl rfl)) (ht_other fn ff _ wr F.out (.inl rfl)) (by omega) (by rw [Lx_len]; omega) rc_full (by omega)).mono ?_
      rintro e w26 ⟨rfl, b26⟩
      have B26 := aside (below_tr B.out b26)
      clear X F B b26
      go_wp2_with fail
      refine (wakes_any w26).mono ?_
      rintro e w27 ⟨rfl, b27⟩
      go_wp2_with fail
      go_ret
      exact ⟨rfl, below_tr B26.out b27⟩
    | succ g =>
      have hi : ((i : Int) < 4096) := by omega
      have hwi : IntKind.i64.wrap ((i : Int) + 1) = ((i + 1 : Nat) : Int) := by rw [wrap_small _ (by omega) (by omega)]; simp
      have hls := nm3_string i wr (by omega)
      go_wp2_with fail
      obtain ⟨V, hV⟩ : ∃ V, V = wr.alloc (.cells #[.int .u8 (97 + (i : Int) % 26), .int .u8 (97 + (i : Int) / 26 % 26), .int .u8 (97 + (i : Int) / 676)] 5) := ⟨_, rfl⟩
      have bV : Below wr.heap.size wr V := by rw [hV]; exact below_al wr _
      rw [← hV]
      refine (add_other xn xd xm _ (Lx fn i) [] (nm3 i) fn ff _ V (X.out.below bV) Up.nil (by simp) (F.out.below bV) (.inl rfl) (by rw [Lx_len]; omega) (by rw [rc_of (nm3_ok (by omega)) (Lx_lk (by omega)) (by rw [Lx_len]; omega)]; rfl)).mono ?_
      rintro e w26 ⟨rfl, hX26, u26⟩
      rw [← Lx_succ] at hX26
      have X26 := aside hX26
      have F26 := aside ((F.out.below bV).upd u26 (by omega))
      have B26 : Aside (Below w.heap.size w w26) := (below_tr B.out bV).trans (u26.below (below_tr B.out bV).size (fun k e => by have e : k = xm := e; omega))
      clear hX26 u26 X F B bV hV hls
      go_wp2_with fail
      go_roundg g
      case measure => omega
      case rel => exact ⟨i + 1, by omega, by first | rfl | simp, X26.out, F26.out, B26.out⟩
end Go.Proofs.YtamngnndodjcoabGreat
