/- A tree is gone through: through, whatever is done at each node. The bytes of a file, of a link. What Items does at each node. -/
import Derived.Test.YtbnaegoahdcejaaGreatDoorGD
import Derived.Lib.ConvBytes
namespace Go.Proofs.YtbnaegoahdcejaaGreatDoor
open Go.RowKit Go.ChangeMaps

theorem ahd_len {p : List B} (h : ∀ n ∈ p, n.length ≤ 64) : (ahd p).length ≤ p.length * 65 := by
  induction p with
  | nil => simp [ahd]
  | cons n p ih =>
    have h1 := h n (by simp)
    have h2 := ih (fun m hm => h m (by simp [hm]))
    simp only [ahd, List.flatMap_cons, List.length_append, List.length_cons, List.length_nil] at h2 ⊢
    omega
theorem ent_at {sz : En → Int} {ks : List En} {i : Nat} {x : En} (h : ks[i]? = some x) : (ks.flatMap (ent sz))[i * 3]? = some (.string (ba x.nm)) ∧ (ks.flatMap (ent sz))[i * 3 + 1]? = some (.int .i8 (x.k : Int)) ∧ (ks.flatMap (ent sz))[i * 3 + 2]? = some (.int .i64 (sz x)) := by
  induction ks generalizing i with
  | nil => simp at h
  | cons a ks ih =>
    rw [List.flatMap_cons]
    cases i with
    | zero => simp at h; subst h; simp [ent]
    | succ i =>
      have := ih (by simpa using h)
      rw [show (i + 1) * 3 = i * 3 + 1 + 1 + 1 by omega]
      simpa [ent] using this

/-- What the visits may change: nothing that a tree or the going through it has. -/
structure Vis (P : Obj → Prop) : Prop where
  saf : Saf P
  dir : ∀ cs f, ¬ P (.cells cs 95 f)
  map : ∀ es c, ¬ P (.map es c)
  vis : ∀ cs f, ¬ P (.cells cs 83 f)
  bel : ∀ cs f, ¬ P (.cells cs 101 f)
  ent : ∀ cs f, ¬ P (.cells cs 150 f)
/-- What a visit tells, and leaves. -/
structure Visit (lo : Nat) (S : List En) (D : List En) (q : Nat) (P : Obj → Prop) (g : Nat) (cb : Array Value) (I : Nat → World → Prop) (E : Nat → Int → World → Prop) : Prop where
  vis : Vis P
  ent : ∀ args w, (callFunc g args).run Tryz.prog w = .ok (.enter g args) w
  st : ∀ k W W', I k W → Below W.heap.size W W' → I k W'
  tr : ∀ k W, I k W → Tr lo W S
  run : ∀ k x W, D[k]? = some x → I k W → Calls Tryz.prog g (#[.string (ba (pth (x.p.drop q))), Pt x.nb] ++ cb) W fun e W' => ∃ c : Int, e = .returned (.int .i64 c) ∧ Ch 0 P W W' ∧ ((c = 0 ∧ I (k + 1) W') ∨ (c ≠ 0 ∧ E k c W'))
abbrev visF (g : Nat) (cb : Array Value) : Value := .func (.func g) #[] cb
abbrev belF (vb bb : Nat) : Value := .func (.func 83) #[] #[Pt vb, Pt bb]
/-- Where below stands. -/
structure Bs (ks : List En) (n : Nat) (sz : En → Int) (ra : Option Addr) (rc : Nat) (P : Obj → Prop) (I : Nat → World → Prop) (W : World) (vb bb : Nat) (vf bf : Value) (k : Nat) (wx : World) : Prop where
  inv : I k wx
  ch : Ch 0 P W wx
  row : wx.ownsRow 0 150 3 (.slice ra n rc) n (ks.flatMap (ent sz))
  vis : wx.heap[vb]? = some (.cells #[vf] 83 (0, 0))
  bel : wx.heap[bb]? = some (.cells #[bf] 101 (0, 0))
/-- What below tells. -/
def Told (P : Obj → Prop) (I : Nat → World → Prop) (E : Nat → Int → World → Prop) (k0 k1 : Nat) (W : World) (e : Ending) (W' : World) : Prop :=
  ∃ c : Int, e = .returned (.int .i64 c) ∧ Ch 0 P W W' ∧ ((c = 0 ∧ I k1 W') ∨ (c ≠ 0 ∧ ∃ k, k0 ≤ k ∧ E k c W'))

set_option maxRecDepth 20000 in
set_option maxHeartbeats 4000000 in
theorem below_any {lo : Nat} {S D : List En} {q : Nat} {P : Obj → Prop} {g : Nat} {cb : Array Value} {I : Nat → World → Prop} {E : Nat → Int → World → Prop} (V : Visit lo S D q P g cb I E) (vb bb : Nat) :
    ∀ (f : Nat) (e : En) (k0 : Nat) (W : World), e ∈ S → e.k = 1 → 65 ≤ e.p.length + f → q ≤ e.p.length → (∃ pre post, D = pre ++ (dsc S f e.p ++ post) ∧ pre.length = k0) → I k0 W →
      W.heap[vb]? = some (.cells #[visF g cb] 83 (0, 0)) → W.heap[bb]? = some (.cells #[belF vb bb] 101 (0, 0)) →
      Calls Tryz.prog 83 #[Pt e.nb, .string (ba (ahd (e.p.drop q))), Pt vb, Pt bb] W fun r W' => Told P I E k0 (k0 + (dsc S f e.p).length) W r W' := by
  intro f
  induction f with
  | zero =>
    intro e k0 W he hk hf hq hD hI hvb hbb
    have := (V.tr k0 W hI).dep e he
    omega
  | succ f ih =>
    intro e k0 W he hk hf hq hD hI hvb hbb
    have hT := V.tr k0 W hI
    have AL := aside (hT.list he hk)
    obtain ⟨A, hA⟩ : ∃ A, A = ba (ahd (e.p.drop q)) := ⟨_, rfl⟩
    have hAs : A.size ≤ 100000 := by
      rw [hA, ba_size]
      have h1 := ahd_len (p := e.p.drop q) (fun n hn => (nok (hT.nam e he n (List.mem_of_mem_drop hn))).2.1)
      have h2 := hT.dep e he
      rw [List.length_drop] at h1
      omega
    obtain ⟨nb, hnb⟩ : ∃ nb, nb = e.nb := ⟨_, rfl⟩
    obtain ⟨ks, hks⟩ : ∃ ks, ks = kidE S e.p := ⟨_, rfl⟩
    rw [← hnb, ← hks] at AL
    rw [← hA, ← hnb]
    have AI := aside hI
    have AV := aside V
    have Aih := aside ih
    have AD := aside hD
    have AHA := aside hA
    have AHn := aside hnb
    have AHk := aside hks
    have Avb := aside hvb
    have Abb := aside hbb
    have hd : (dsc S (f + 1) e.p) = ks.flatMap fun x => x :: dsc S f x.p := by rw [hks]; rfl
    have AHd := aside hd
    obtain ⟨n, hn⟩ : ∃ n, n = ks.length := ⟨_, rfl⟩
    rw [← hn] at AL
    have hnle : n ≤ 100000 := by
      rw [hn, hks]
      have h1 := (srt_perm En.nm (kidU S e.p)).length_eq
      have h2 := (List.filter_sublist (p := fun x => decide (x.p ≠ [] ∧ x.p.dropLast = e.p)) (l := S)).length_le
      have h3 := hT.few
      unfold kidE
      rw [h1]
      unfold kidU
      omega
    have AHl := aside hn
    have eg := V.ent
    clear V ih hD hA hnb hks hd hI hT hvb hbb hn
    go_enter Tryz.func83, Tryz.ntmps83
    go_wp2_with fail
    refine AL.out.mono ?_
    rintro e' w1 ⟨v, sz, rfl, hrow, hb1⟩
    obtain ⟨ra, rc, rfl, -⟩ := own_slice hrow
    have ARow := aside hrow
    have AB1 := aside hb1
    clear hrow hb1
    go_wp2_with fail
    go_loopg [6, 10, 11, 12, 13, 14, 15, 23] n (fun gk s6 _ _ _ _ _ _ s23 wx => ∃ i : Nat, i + gk = n ∧ s6 = .int .i64 0 ∧ s23 = .int .i64 (i : Int) ∧ Bs ks n sz ra rc P I W vb bb (visF g cb) (belF vb bb) (k0 + ((ks.take i).flatMap fun x => x :: dsc S f x.p).length) wx)
    case atStart => exact ⟨0, by omega, rfl, rfl, ⟨by simpa using AV.out.st _ _ _ AI.out AB1.out, Ch.of_below AB1.out, ARow.out, (AB1.out.block _ (Array.getElem?_eq_some_iff.1 Avb.out).1).trans Avb.out, (AB1.out.block _ (Array.getElem?_eq_some_iff.1 Abb.out).1).trans Abb.out⟩⟩
    case round =>
      obtain ⟨i, hig, rfl, rfl, hBs⟩ := hrel
      cases gk with
      | zero =>
        obtain rfl : i = n := by omega
        have hi : ¬ ((i : Nat) : Int) < (i : Int) := by omega
        have ABs := aside hBs
        clear hBs
        go_wp2_with fail
        go_ret
        refine ⟨0, rfl, ABs.out.ch, .inl ⟨rfl, ?_⟩⟩
        have := ABs.out.inv
        rw [AHl.out, List.take_length] at this
        rw [AHd.out]
        exact this
      | succ gk =>
        have hi : (i : Int) < (n : Int) := by omega
        have hi2 : i < ks.length := by rw [← AHl.out]; omega
        obtain ⟨x, hxi⟩ : ∃ x, ks[i]? = some x := ⟨_, List.getElem?_eq_getElem hi2⟩
        obtain ⟨gs, rfl⟩ : ∃ gs, ra = some ⟨gs, 0, none⟩ := by
          rcases hBs.row.2 with ⟨-, h0⟩ | ⟨gs, cap, cur, e, -⟩
          · omega
          · injection e with e1; exact ⟨gs, e1⟩
        obtain ⟨e0, e1, e2⟩ := ent_at (sz := sz) hxi
        have c0 : wr.cell? ⟨gs, i * 3, none⟩ = some (.string (ba x.nm)) := by simpa [Addr.add_lit] using hBs.row.cells rfl _ _ e0
        have c1 : wr.cell? ⟨gs, i * 3 + 1, none⟩ = some (.int .i8 (x.k : Int)) := by simpa [Addr.add_lit] using hBs.row.cells rfl _ _ e1
        have c2 : wr.cell? ⟨gs, i * 3 + 2, none⟩ = some (.int .i64 (sz x)) := by simpa [Addr.add_lit] using hBs.row.cells rfl _ _ e2
        have ABs := aside hBs
        have AXi := aside hxi
        obtain ⟨w2, hw2⟩ : ∃ w2, w2 = wr.alloc (.cells #[.string (ba x.nm), .int .i8 (x.k : Int), .int .i64 (sz x)] 150) := ⟨_, rfl⟩
        have hB2 : Below wr.heap.size wr w2 := by rw [hw2]; exact below_al wr _
        have cx : w2.cell? ⟨wr.heap.size, 0, none⟩ = some (.string (ba x.nm)) := by rw [hw2]; go_simp
        have hxS : x ∈ S ∧ x.p = e.p ++ [x.nm] := by
          refine mem_kidE.1 ?_
          rw [← AHk.out]
          exact List.mem_of_getElem? AXi.out
        have hI2 := AV.out.st _ _ _ ABs.out.inv hB2
        have hT2 := AV.out.tr _ _ hI2
        have AG := aside (hT2.get_yes he hk hxS.1 hxS.2)
        rw [← AHn.out] at AG
        have hv2 : w2.heap[vb]? = some (.cells #[visF g cb] 83 (0, 0)) := (hB2.block _ (Array.getElem?_eq_some_iff.1 ABs.out.vis).1).trans ABs.out.vis
        have hvc : w2.cell? ⟨vb, 0, none⟩ = some (visF g cb) := by rw [cell_of_row w2 vb 0 _ _ _ hv2]; rfl
        have hb2 : w2.heap[bb]? = some (.cells #[belF vb bb] 101 (0, 0)) := (hB2.block _ (Array.getElem?_eq_some_iff.1 ABs.out.bel).1).trans ABs.out.bel
        have hr2 := row_below ABs.out.row hB2
        obtain ⟨kx, hkx⟩ : ∃ kx, kx = k0 + ((ks.take i).flatMap fun x => x :: dsc S f x.p).length := ⟨_, rfl⟩
        rw [← hkx] at hI2
        have hDk : D[kx]? = some x ∧ ∃ pre post, D = pre ++ (dsc S f x.p ++ post) ∧ pre.length = kx + 1 := by
          obtain ⟨pre, post, h1, h2⟩ := AD.out
          rw [AHd.out] at h1
          have h3 : ks = ks.take i ++ x :: ks.drop (i + 1) := by
            have := (List.take_append_drop i ks).symm
            rw [List.drop_eq_getElem_cons hi2] at this
            have hx2 : ks[i] = x := by have := AXi.out; rw [List.getElem?_eq_getElem hi2] at this; injection this
            rw [hx2] at this
            exact this
          have h4 : D = (pre ++ (ks.take i).flatMap fun x => x :: dsc S f x.p) ++ x :: (dsc S f x.p ++ ((ks.drop (i + 1)).flatMap (fun x => x :: dsc S f x.p) ++ post)) := by
            rw [h1]
            conv => lhs; rw [h3]
            simp
          have h5 : (pre ++ (ks.take i).flatMap fun x => x :: dsc S f x.p).length = kx := by rw [hkx, List.length_append, h2]
          refine ⟨by rw [h4, List.getElem?_append_right (by omega), h5, Nat.sub_self]; rfl, (pre ++ (ks.take i).flatMap fun x => x :: dsc S f x.p) ++ [x], (ks.drop (i + 1)).flatMap (fun x => x :: dsc S f x.p) ++ post, by rw [h4]; simp, by rw [List.length_append, h5]; rfl⟩
        have AR := aside (AV.out.run kx x w2 hDk.1 hI2)
        obtain ⟨Px, hPx⟩ : ∃ Px, Px = ba (pth (x.p.drop q)) := ⟨_, rfl⟩
        have hdrop : x.p.drop q = e.p.drop q ++ [x.nm] := by rw [hxS.2, List.drop_append_of_le_length hq]; 
        have hcat : A ++ ba x.nm = Px := by rw [AHA.out, hPx, hdrop, pth_snoc, ba_append]
        have hPs : Px.size ≤ 200000 := by
          rw [← hcat]
          have h2 := (nok (hT2.nam x hxS.1 x.nm (by rw [hxS.2]; simp))).2.1
          rw [ByteArray.size_append, ba_size]
          omega
        have hns : (ba x.nm).size ≤ 64 := by rw [ba_size]; exact (nok (hT2.nam x hxS.1 x.nm (by rw [hxS.2]; simp))).2.1
        rw [← hPx] at AR
        have hsl : Px ++ ⟨#[47]⟩ = ba (ahd (x.p.drop q)) := by
          rw [hPx, hdrop, pth_snoc, ahd_snoc]
          exact ba_append _ [47]
        have hq2 : q ≤ x.p.length := by rw [hxS.2, List.length_append]; omega
        have hf2 : 65 ≤ x.p.length + f := by rw [hxS.2, List.length_append, List.length_singleton]; omega
        have ANext := aside (fun (hk : x.k = 1) W' (hI : I (kx + 1) W') hv hb => Aih.out x (kx + 1) W' hxS.1 hk hf2 hq2 hDk.2 hI hv hb)
        have AXS := aside hxS
        have AI2 := aside hI2
        have AHw2 := aside hw2
        obtain ⟨N, hN⟩ : ∃ N, N = ba x.nm := ⟨_, rfl⟩
        rw [← hN] at cx hcat hns AG c0 hw2
        obtain ⟨m, hm⟩ : ∃ m, m = x.nb := ⟨_, rfl⟩
        have AHm := aside hm
        rw [← hm] at AG AR
        obtain ⟨kd, hkd⟩ : ∃ kd : Int, kd = (x.k : Int) := ⟨_, rfl⟩
        have AHkd := aside hkd
        rw [← hkd] at c1 hw2
        obtain ⟨sx, hsx⟩ : ∃ sx : Int, sx = sz x := ⟨_, rfl⟩
        rw [← hsx] at c2 hw2
        have Av2 := aside hv2
        have Ab2 := aside hb2
        have Ar2 := aside hr2
        have AB2 := aside hB2
        have Asl := aside hsl
        have AHkx := aside hkx
        clear hv2 hb2 hr2 hB2 hsl hDk hI2 hT2 hxS hdrop hPx hN hm hkd hsx hkx AHw2
        clear hBs e0 e1 e2 hxi
        go_wp2_with fail
        rw [← hw2]
        clear hw2
        refine AG.out.mono ?_
        rintro e' w' ⟨rfl, rfl⟩
        go_wp2_with fail
        refine AR.out.mono ?_
        rintro e' w3 ⟨c, rfl, hch, hc⟩
        have hv3 : w3.heap[vb]? = some (.cells #[visF g cb] 83 (0, 0)) := hch.keep (Nat.zero_le _) Av2.out (AV.out.vis.vis _ _)
        have hb3 : w3.heap[bb]? = some (.cells #[belF vb bb] 101 (0, 0)) := hch.keep (Nat.zero_le _) Ab2.out (AV.out.vis.bel _ _)
        have hr3 := hch.row Ar2.out (fun _ _ => Nat.zero_le _) AV.out.vis.ent
        have hbc : w3.cell? ⟨bb, 0, none⟩ = some (belF vb bb) := by rw [cell_of_row w3 bb 0 _ _ _ hb3]; rfl
        have hch0 : Ch 0 P W w3 := (ABs.out.ch.trans (Ch.of_below AB2.out)).trans hch
        have Av3 := aside hv3
        have Ab3 := aside hb3
        have Ar3 := aside hr3
        have ACh := aside hch0
        have hwi : IntKind.i64.wrap ((i : Int) + 1) = ((i + 1 : Nat) : Int) := by rw [wrap_small _ (by omega) (by omega)]; simp
        have AHt : Aside ((((ks.take (i + 1)).flatMap fun x => x :: dsc S f x.p).length) = ((ks.take i).flatMap fun x => x :: dsc S f x.p).length + (1 + (dsc S f x.p).length)) := by
          show _ = _
          rw [List.take_add_one, AXi.out, List.flatMap_append, List.length_append]
          simp
          omega
        clear hv3 hb3 hr3 hch hch0 AR
        rcases hc with ⟨rfl, hI3⟩ | ⟨hc0, hE⟩
        · have hT3 := AV.out.tr _ _ hI3
          have AKd := aside (hT3.kind AXS.out.1)
          rw [← AHm.out, ← AHkd.out] at AKd
          have AI3 := aside hI3
          clear hI3 hT3
          go_wp2_with fail
          refine AKd.out.mono ?_
          rintro e' w4 ⟨rfl, rfl⟩
          by_cases hk1 : x.k = 1
          · have hkd1 : kd = 1 := by rw [AHkd.out, hk1]; rfl
            have AN := aside (ANext.out hk1 w4 AI3.out Av3.out Ab3.out)
            rw [← AHm.out, ← Asl.out] at AN
            clear ANext
            go_wp2_with fail
            refine AN.out.mono ?_
            rintro e' w5 ⟨c, rfl, hch5, hc5⟩
            have hv5 : w5.heap[vb]? = some (.cells #[visF g cb] 83 (0, 0)) := hch5.keep (Nat.zero_le _) Av3.out (AV.out.vis.vis _ _)
            have hb5 : w5.heap[bb]? = some (.cells #[belF vb bb] 101 (0, 0)) := hch5.keep (Nat.zero_le _) Ab3.out (AV.out.vis.bel _ _)
            have hr5 := hch5.row Ar3.out (fun _ _ => Nat.zero_le _) AV.out.vis.ent
            have Av5 := aside hv5
            have Ab5 := aside hb5
            have Ar5 := aside hr5
            have ACh5 := aside (ACh.out.trans hch5)
            clear hv5 hb5 hr5 hch5
            rcases hc5 with ⟨rfl, hI5⟩ | ⟨hc0, hE⟩
            · have AI5 := aside hI5
              clear hI5
              go_wp2_with fail
              go_roundg gk
              case measure => omega
              case rel =>
                refine ⟨i + 1, by omega, rfl, by first | rfl | simp, ⟨?_, ACh5.out, Ar5.out, Av5.out, Ab5.out⟩⟩
                have := AI5.out
                rw [AHkx.out] at this
                rw [AHt.out]
                have e9 : k0 + (((ks.take i).flatMap fun x => x :: dsc S f x.p).length + (1 + (dsc S f x.p).length)) = k0 + ((ks.take i).flatMap fun x => x :: dsc S f x.p).length + 1 + (dsc S f x.p).length := by omega
                rw [e9]
                exact this
            · have hcb : (c == 0) = false := beq_eq_false_iff_ne.2 hc0
              have AE5 := aside hE
              clear hE
              go_wp2_with fail
              go_ret
              obtain ⟨k, hk5, hE⟩ := AE5.out
              exact ⟨c, rfl, ACh5.out, .inr ⟨hc0, k, by have := AHkx.out; omega, hE⟩⟩
          · have hkd1 : (kd == 1) = false := by rw [AHkd.out]; exact beq_eq_false_iff_ne.2 (fun e => hk1 (by omega))
            have hdn : dsc S f x.p = [] := by
              cases f with
              | zero => rfl
              | succ f =>
                have : kidE S x.p = [] := by
                  apply List.eq_nil_iff_forall_not_mem.2
                  intro y hy
                  obtain ⟨h1, h2⟩ := mem_kidE.1 hy
                  have hT3 := AV.out.tr _ _ AI3.out
                  obtain ⟨d, hd1, hd2, hd3⟩ := hT3.par y h1 (by rw [h2]; simp)
                  rw [h2, List.dropLast_concat] at hd2
                  have := one_p hT3.one hd1 AXS.out.1 hd2
                  exact hk1 (this ▸ hd3)
                unfold dsc
                rw [this]
                rfl
            have Adn := aside hdn
            clear ANext hdn
            go_wp2_with fail
            go_roundg gk
            case measure => omega
            case rel =>
              refine ⟨i + 1, by omega, rfl, by first | rfl | simp, ⟨?_, ACh.out, Ar3.out, Av3.out, Ab3.out⟩⟩
              have := AI3.out
              rw [AHkx.out] at this
              rw [AHt.out, Adn.out]
              exact this
        · have hcb : (c == 0) = false := beq_eq_false_iff_ne.2 hc0
          have AE5 := aside hE
          clear hE
          go_wp2_with fail
          go_ret
          exact ⟨c, rfl, ACh.out, .inr ⟨hc0, kx, by rw [AHkx.out]; omega, AE5.out⟩⟩

theorem storeF (w : World) (a : Addr) (fn : Fn) (f c : Array Value) : (store a (.func fn f c)).run Tryz.prog w = match w.cell? a with
      | some _ => if w.frozen? a then .halt (.unsupported (.unsafePointer "a write to bytes that a string shares")) w else .ok () (w.setCell a (.func fn f c))
      | none => match w.farStore Tryz.prog a (.func fn f c) (Mode.plain == .atomic) with
        | .ok (w', _) => .ok () w'
        | .error h => .halt h w := run_store Tryz.prog w a (.func fn f c) .plain rfl
/-- What through tells. -/
def Thr (P : Obj → Prop) (I : Nat → World → Prop) (E : Nat → Int → World → Prop) (n : Nat) (W : World) (e : Ending) (W' : World) : Prop :=
  ∃ c : Int, e = .returned (.int .i64 c) ∧ Ch 0 P W W' ∧ ((c = 0 ∧ I n W') ∨ (c ≠ 0 ∧ ∃ k, E k c W'))
set_option maxRecDepth 20000 in
set_option maxHeartbeats 2000000 in
theorem through_any {lo : Nat} {S : List En} {P : Obj → Prop} {g : Nat} {cb : Array Value} {I : Nat → World → Prop} {E : Nat → Int → World → Prop} (d : En) (hd : d ∈ S) (hk : d.k = 1) (V : Visit lo S (dsc S 65 d.p) d.p.length P g cb I E) (W : World) (hI : I 0 W) :
    Calls Tryz.prog 51 #[Pt d.nb, visF g cb] W fun r W' => Thr P I E (dsc S 65 d.p).length W r W' := by
  obtain ⟨w1, hw1⟩ : ∃ w1, w1 = (W.alloc (.cells #[visF g cb] 83)).alloc (.cells #[belF W.heap.size (W.heap.size + 1)] 101) := ⟨_, rfl⟩
  have hB : Below W.heap.size W w1 := by rw [hw1]; exact below_tr (below_al W _) (below_al _ _)
  have hv : w1.heap[W.heap.size]? = some (.cells #[visF g cb] 83 (0, 0)) := by
    rw [hw1, (below_al (W.alloc _) _).block _ (by simp)]; exact heap_alloc_new W _
  have hb : w1.heap[W.heap.size + 1]? = some (.cells #[belF W.heap.size (W.heap.size + 1)] 101 (0, 0)) := by rw [hw1]; exact heap_alloc2_new W _ _
  have AR := aside (below_any V W.heap.size (W.heap.size + 1) 65 d 0 w1 hd hk (by omega) (Nat.le_refl _) ⟨[], [], by simp, rfl⟩ (V.st _ _ _ hI hB) hv hb)
  rw [List.drop_length, show ba (ahd []) = (⟨#[]⟩ : ByteArray) from rfl, Nat.zero_add] at AR
  have AB := aside hB
  have hsf := storeF
  clear V hI hv hb hB
  go_enter Tryz.func51, Tryz.ntmps51
  go_wp2_with fail
  rw [← hw1]
  clear hw1
  refine AR.out.mono ?_
  rintro e' w2 ⟨c, rfl, hch, hc⟩
  have ACh : Aside (Ch 0 P W w2) := (Ch.of_below AB.out).trans hch
  have AC : Aside ((c = 0 ∧ I (dsc S 65 d.p).length w2) ∨ (c ≠ 0 ∧ ∃ k, E k c w2)) := hc.imp id (fun ⟨h1, k, _, h2⟩ => ⟨h1, k, h2⟩)
  clear hch hc
  go_wp2_with fail
  go_ret
  exact ⟨c, rfl, ACh.out, AC.out⟩
end Go.Proofs.YtbnaegoahdcejaaGreatDoor

namespace Go.Proofs.YtbnaegoahdcejaaGreatDoor
open Go.RowKit Go.ChangeMaps

/-- Bytes in memory from the block lo on: they may be read, and written. -/
structure Dat (lo : Nat) (W : World) (a : Option Addr) (c : Nat) (l : B) : Prop where
  cap : l.length ≤ c
  top : c ≤ 9223372036854775807
  mem : l ≠ [] → ∃ g cur fz, a = some ⟨g, 0, none⟩ ∧ lo ≤ g ∧ W.heap[g]? = some (.cells cur 5 fz) ∧ cur.toList.take l.length = bcells l ∧ (fz.2 = 0 ∨ l.length ≤ fz.1)
theorem Dat.nil (lo : Nat) (W : World) : Dat lo W none 0 [] := ⟨by simp, by decide, fun h => absurd rfl h⟩
theorem Dat.ch {lo l2 : Nat} {P : Obj → Prop} {W W' : World} {a : Option Addr} {c : Nat} {l : B} (h : Dat lo W a c l) (k : Ch l2 P W W') (hl : l2 ≤ lo) (hP : ∀ cs f, ¬ P (.cells cs 5 f)) : Dat lo W' a c l :=
  ⟨h.cap, h.top, fun hn => by
    obtain ⟨g, cur, fz, h1, h2, h3, h4⟩ := h.mem hn
    exact ⟨g, cur, fz, h1, h2, k.keep (Nat.le_trans hl h2) h3 (hP _ _), h4⟩⟩
theorem Dat.below {lo : Nat} {W W' : World} {a : Option Addr} {c : Nat} {l : B} (h : Dat lo W a c l) (k : Below W.heap.size W W') : Dat lo W' a c l := h.ch (P := fun _ => False) (Ch.of_below (lo := 0) k) (Nat.zero_le _) (fun _ _ h => h)
theorem Dat.lo {lo l2 : Nat} {W : World} {a : Option Addr} {c : Nat} {l : B} (h : Dat lo W a c l) (hl : l2 ≤ lo) : Dat l2 W a c l :=
  ⟨h.cap, h.top, fun hn => by
    obtain ⟨g, cur, fz, h1, h2, h3⟩ := h.mem hn
    exact ⟨g, cur, fz, h1, Nat.le_trans hl h2, h3⟩⟩
theorem Dat.bs {lo : Nat} {W : World} {a : Option Addr} {c : Nat} {l : B} (h : Dat lo W a c l) : BsAt W a l := fun hn => by
  obtain ⟨g, cur, fz, h1, h2, h3, h4, h5⟩ := h.mem hn
  refine ⟨_, h1, fun j v hj => ?_⟩
  rw [Addr.add_lit, Nat.zero_add, cell_of_row W g j _ _ _ h3]
  have hj2 : j < l.length := by
    have := (List.getElem?_eq_some_iff.1 hj).1
    rwa [bcells_length] at this
  rw [← h4, List.getElem?_take, if_pos hj2] at hj
  simpa using hj
theorem Dat.of_row {lo : Nat} {W : World} {a : Option Addr} {c : Nat} {l : B} (h : W.ownsRow 0 5 1 (.slice a l.length c) l.length (bcells l)) (hl : ∀ k, (Value.slice a l.length c).ownBlock = some k → lo ≤ k) : Dat lo W a c l := by
  rcases h.2 with ⟨e, h0⟩ | ⟨g, cap, cur, e, -, hh, h1, h2, h3, h4⟩
  · injection e with e1 e2 e3
    have : l = [] := List.eq_nil_of_length_eq_zero h0
    subst this
    rw [e3]
    exact ⟨by simp, by decide, fun h => absurd rfl h⟩
  · injection e with e1 e2 e3
    subst e1; subst e3
    refine ⟨h1, by unfold maxLen at h2; omega, fun _ => ⟨g, cur, (0, 0), rfl, hl g rfl, hh, by simpa using h4, .inl rfl⟩⟩

set_option maxRecDepth 20000 in
set_option maxHeartbeats 2000000 in
theorem fileBytes_any (lo nb fb hb : Nat) (l : B) (r : Nat) (w : World) (h : Fl w nb fb hb) (hM : Mf lo w hb l) (hl : l.length ≤ 4194304) (hlr : l.length ≤ r) :
    Calls Tryz.prog 53 #[Pt nb, .int .i64 (r : Int)] w fun e w' => ∃ a c, e = .returned (.tuple #[.slice a l.length c, .int .i64 0]) ∧ Dat w.heap.size w' a c l ∧ Below w.heap.size w w' := by
  have AO := aside (open_file nb fb hb w h)
  have AA := aside (mAll_any lo hb l w hM hl)
  have h1 : ¬ (r : Int) < (l.length : Int) := by omega
  clear h hM
  go_enter Tryz.func53, Tryz.ntmps53
  go_wp2_with fail
  refine AO.out.mono ?_
  rintro e w' ⟨rfl, rfl⟩
  go_wp2_with fail
  refine AA.out.mono ?_
  rintro e w1 ⟨a, c, rfl, h4, h5, h6⟩
  have A4 := aside h4
  have A5 := aside h5
  have A6 := aside h6
  clear h4 h5 h6
  go_wp2_with fail
  go_ret2
  exact ⟨a, c, rfl, Dat.of_row A4.out A5.out, A6.out⟩
set_option maxRecDepth 20000 in
set_option maxHeartbeats 2000000 in
theorem fileBytes_long (lo nb fb hb : Nat) (l : B) (r : Nat) (w : World) (h : Fl w nb fb hb) (hM : Mf lo w hb l) (hl : l.length ≤ 4194304) (hlr : r < l.length) :
    Calls Tryz.prog 53 #[Pt nb, .int .i64 (r : Int)] w fun e w' => e = .returned (.tuple #[.slice none 0 0, .int .i64 3]) ∧ Below w.heap.size w w' := by
  have AO := aside (open_file nb fb hb w h)
  have AA := aside (mAll_any lo hb l w hM hl)
  have h1 : (r : Int) < (l.length : Int) := by omega
  clear h hM
  go_enter Tryz.func53, Tryz.ntmps53
  go_wp2_with fail
  refine AO.out.mono ?_
  rintro e w' ⟨rfl, rfl⟩
  go_wp2_with fail
  refine AA.out.mono ?_
  rintro e w1 ⟨a, c, rfl, h4, h5, h6⟩
  have A6 := aside h6
  clear h4 h5 h6
  go_wp2_with fail
  go_ret2
  exact ⟨rfl, A6.out⟩

theorem bw_below (w : World) (s : ByteArray) : Below w.heap.size w (Lib.bytesWorld w 5 s) := ⟨rfl, rfl, rfl, by rw [Lib.bytesWorld_size]; omega, fun k hk => Lib.bytesWorld_at_old w 5 s k hk⟩
theorem bw_dat (w : World) (l : B) (h : l.length ≤ 1000000000) : Dat w.heap.size (Lib.bytesWorld w 5 (ba l)) (some ⟨w.heap.size, 0, none⟩) (grownCap w l.length 0 5) l := by
  have hg := grownCap_ge w l.length 0 5
  have hm := grownCap_le_maxLen w l.length 0 5 (by unfold maxLen; omega)
  have hmx := h
  refine ⟨hg, ?_, fun _ => ⟨w.heap.size, _, _, rfl, Nat.le_refl _, Lib.bytesWorld_at_new w 5 (ba l), ?_, ?_⟩⟩
  · unfold maxLen at hm; exact hm
  · unfold Lib.bytesCells
    simp [ba, bcells]
  · right
    unfold Lib.bytesCells
    simp [ba]
set_option maxRecDepth 20000 in
set_option maxHeartbeats 2000000 in
theorem linkBytes_any (nb lb : Nat) (l : B) (w : World) (h : Lk w nb lb (ba l)) (hl : l.length ≤ 1000000000) :
    Calls Tryz.prog 54 #[Pt nb] w fun e w' => ∃ a c, e = .returned (.tuple #[.slice a l.length c, .int .i64 0]) ∧ Dat w.heap.size w' a c l ∧ Below w.heap.size w w' := by
  have AO := aside (leads_link nb lb _ w h)
  have hcv := fun w => Lib.run_convert_string_bytes (P := Tryz.prog) w 9 48 5 (ba l) Tryz.underlying9 Tryz.underlying48 Tryz.underlying5
  rw [ba_size] at hcv
  have AD := fun w => aside (bw_dat w l hl)
  have AB := fun w => aside (bw_below w (ba l))
  clear h
  go_enter Tryz.func54, Tryz.ntmps54
  go_wp2_with fail
  refine AO.out.mono ?_
  rintro e w' ⟨rfl, rfl⟩
  go_wp2_with fail
  go_ret2
  exact ⟨_, _, rfl, (AD _).out, (AB _).out⟩
end Go.Proofs.YtbnaegoahdcejaaGreatDoor

namespace Go.Proofs.YtbnaegoahdcejaaGreatDoor
open Go.RowKit Go.ChangeMaps

/-- An item in memory. -/
structure Im where
  p : ByteArray
  k : Int
  x : B
  a : Option Addr
  c : Nat
def Im.cs (m : Im) : List Value := [.string m.p, .int .i8 m.k, .slice m.a m.x.length m.c]
def ims (ms : List Im) : List Value := ms.flatMap Im.cs
theorem ims_length (ms : List Im) : (ims ms).length = ms.length * 3 := by
  induction ms with
  | nil => rfl
  | cons m ms ih => simp only [ims, List.flatMap_cons, List.length_append] at ih ⊢; rw [ih]; simp [Im.cs]; omega
theorem ims_one (ms : List Im) : ∀ u ∈ ims ms, u.oneCell' = true := by
  intro u hu
  obtain ⟨m, -, hm⟩ := List.mem_flatMap.1 hu
  simp only [Im.cs, List.mem_cons, List.not_mem_nil, or_false] at hm
  rcases hm with rfl | rfl | rfl <;> rfl
theorem ims_at {ms : List Im} {i : Nat} {m : Im} (h : ms[i]? = some m) : (ims ms)[i * 3]? = some (.string m.p) ∧ (ims ms)[i * 3 + 1]? = some (.int .i8 m.k) ∧ (ims ms)[i * 3 + 2]? = some (.slice m.a m.x.length m.c) := by
  induction ms generalizing i with
  | nil => simp at h
  | cons a ms ih =>
    unfold ims
    rw [List.flatMap_cons]
    cases i with
    | zero => simp at h; subst h; simp [Im.cs]
    | succ i =>
      have := ih (by simpa using h)
      rw [show (i + 1) * 3 = i * 3 + 1 + 1 + 1 by omega]
      simpa [Im.cs, ims] using this
/-- What is told of an item: its path, its kind, its bytes. -/
abbrev It := ByteArray × Int × B
def Im.it (m : Im) : It := (m.p, m.k, m.x)
def itOf (q : Nat) (e : En) : It := (ba (pth (e.p.drop q)), (e.k : Int), e.x)

/-- What a visit answers, at the k-th node, with room for r bytes. -/
def vcode (q k : Nat) (x : En) (r : Nat) : Int := if k = 4096 then 4 else if 4096 < (pth (x.p.drop q)).length then 3 else if x.k = 0 ∧ r < x.x.length then 3 else 0
def used (x : En) : Nat := if x.k = 0 then x.x.length else 0
/-- What Items answers. -/
def icode (q : Nat) : List En → Nat → Nat → Int
  | [], _, _ => 0
  | x :: D, k, r => if vcode q k x r = 0 then icode q D (k + 1) (r - used x) else vcode q k x r

theorem infoI : (Tryz.prog.info? 51).map (fun i => (i.zero, i.size, i.bytes)) = some (some (.agg #[.string ⟨#[]⟩, .int .i8 0, .slice none 0 0]), 3, 48) := by kernel_rfl
abbrev IP : Obj → Prop := Ty [22, 3, 51]
theorem vis_IP : Vis IP := ⟨fun T hT cs f => Ty.no (by
    simp only [LT, List.mem_cons, List.not_mem_nil, or_false] at hT
    rcases hT with rfl | rfl | rfl | rfl | rfl | rfl | rfl | rfl | rfl <;> decide) cs f,
  fun cs f => Ty.no (by decide) cs f, fun es c => Ty.map es c, fun cs f => Ty.no (by decide) cs f, fun cs f => Ty.no (by decide) cs f, fun cs f => Ty.no (by decide) cs f⟩
theorem IP_u8 (cs : Array Value) (f : Nat × Nat) : ¬ IP (.cells cs 5 f) := Ty.no (by decide) cs f
/-- Items' two variables, cl and cr: the list so far, the room that is left; w0 the world at its beginning. -/
structure Jv (lo : Nat) (S : List En) (w0 : World) (cl cr : Nat) (W : World) (v : Value) (k r : Nat) (ms : List Im) : Prop where
  tr : Tr lo W S
  bel : Below w0.heap.size w0 W
  hl : W.heap[cl]? = some (.cells #[v] 22 (0, 0))
  hr : W.heap[cr]? = some (.cells #[.int .i64 (r : Int)] 3 (0, 0))
  row : W.ownsRow 0 51 3 v k (ims ms)
  rb : ∀ b, v.ownBlock = some b → w0.heap.size ≤ b
  dat : ∀ m ∈ ms, Dat w0.heap.size W m.a m.c m.x
theorem Jv.below {lo : Nat} {S : List En} {w0 : World} {cl cr : Nat} {W W' : World} {v : Value} {k r : Nat} {ms : List Im} (h : Jv lo S w0 cl cr W v k r ms) (b : Below W.heap.size W W') : Jv lo S w0 cl cr W' v k r ms :=
  ⟨h.tr.below b, h.bel.trans (b.mono h.bel.size), (b.block _ (Array.getElem?_eq_some_iff.1 h.hl).1).trans h.hl, (b.block _ (Array.getElem?_eq_some_iff.1 h.hr).1).trans h.hr, row_below h.row b, h.rb, fun m hm => (h.dat m hm).below b⟩
theorem Jv.c1 {lo : Nat} {S : List En} {w0 : World} {cl cr : Nat} {W : World} {v : Value} {k r : Nat} {ms : List Im} (h : Jv lo S w0 cl cr W v k r ms) : W.cell? ⟨cl, 0, none⟩ = some v := by rw [cell_of_row W cl 0 _ _ _ h.hl]; rfl
theorem Jv.c2 {lo : Nat} {S : List En} {w0 : World} {cl cr : Nat} {W : World} {v : Value} {k r : Nat} {ms : List Im} (h : Jv lo S w0 cl cr W v k r ms) : W.cell? ⟨cr, 0, none⟩ = some (.int .i64 (r : Int)) := by rw [cell_of_row W cr 0 _ _ _ h.hr]; rfl
theorem Jv.ne {lo : Nat} {S : List En} {w0 : World} {cl cr : Nat} {W : World} {v : Value} {k r : Nat} {ms : List Im} (h : Jv lo S w0 cl cr W v k r ms) : cl ≠ cr := fun e => by
  have h1 := h.hl
  have h2 := h.hr
  rw [e, h2] at h1
  injection h1 with h1
  injection h1 with _ h1 _
  exact absurd h1 (by decide)
theorem Jv.room {lo : Nat} {S : List En} {w0 : World} {cl cr : Nat} {W : World} {v : Value} {k r : Nat} {ms : List Im} (h : Jv lo S w0 cl cr W v k r ms) (hcr : w0.heap.size ≤ cr) (r' : Nat) : Jv lo S w0 cl cr (W.setCell ⟨cr, 0, none⟩ (.int .i64 (r' : Int))) v k r' ms ∧ Ch 0 IP W (W.setCell ⟨cr, 0, none⟩ (.int .i64 (r' : Int))) := by
  have hs := set_same (i := 0) (v := .int .i64 (r' : Int)) h.hr
  simp only [List.setIfInBounds_toArray, List.set_cons_zero] at hs
  have u : Upd (fun k => k = cr) W (W.setCell ⟨cr, 0, none⟩ (.int .i64 (r' : Int))) := Upd.setCell (F := fun k => k = cr) (p := ⟨cr, 0, none⟩) rfl _
  have c : Ch 0 IP W (W.setCell ⟨cr, 0, none⟩ (.int .i64 (r' : Int))) := Ch.of_upd u (fun k _ _ e => by
    subst e
    exact ⟨_, _, h.hr, hs, ⟨_, _, _, by simp, rfl⟩, ⟨_, _, _, by simp, rfl⟩⟩)
  have hrow : ∀ b, v.ownBlock = some b → ¬ b = cr := fun b hb e => by
    subst e
    rcases h.row.2 with ⟨rfl, -⟩ | ⟨g, cap, cur, rfl, -, hh, -⟩
    · simp [Value.ownBlock] at hb
    · simp only [Value.ownBlock, Option.some.injEq] at hb
      subst hb
      have := h.hr
      rw [hh] at this
      injection this with this
      injection this with _ this _
      exact absurd this (by decide)
  exact ⟨⟨h.tr.ch (c.lo (Nat.zero_le _)) vis_IP.saf vis_IP.dir vis_IP.map, h.bel.trans (u.below h.bel.size (fun k e => by omega)), (u.block _ (Array.getElem?_eq_some_iff.1 h.hl).1 h.ne).trans h.hl, hs, u.row h.row hrow, h.rb, fun m hm => (h.dat m hm).ch c (Nat.zero_le _) IP_u8⟩, c⟩
theorem Jv.box {lo : Nat} {S : List En} {w0 : World} {cl cr : Nat} {W : World} {v : Value} {k r : Nat} {ms : List Im} (h : Jv lo S w0 cl cr W v k r ms) {bx : Nat} {cs : Array Value} (hb : w0.heap.size ≤ bx) (hx : W.heap[bx]? = some (.cells cs 51 (0, 0))) (hn : v.ownBlock ≠ some bx) (u : Value) : Jv lo S w0 cl cr (W.setCell ⟨bx, 2, none⟩ u) v k r ms ∧ Ch 0 IP W (W.setCell ⟨bx, 2, none⟩ u) ∧ (W.setCell ⟨bx, 2, none⟩ u).heap[bx]? = some (.cells (cs.setIfInBounds 2 u) 51 (0, 0)) := by
  have hs := set_same (i := 2) (v := u) hx
  have up : Upd (fun k => k = bx) W (W.setCell ⟨bx, 2, none⟩ u) := Upd.setCell (F := fun k => k = bx) (p := ⟨bx, 2, none⟩) rfl _
  have c : Ch 0 IP W (W.setCell ⟨bx, 2, none⟩ u) := Ch.of_upd up (fun k _ _ e => by
    subst e
    exact ⟨_, _, hx, hs, ⟨_, _, _, by simp, rfl⟩, ⟨_, _, _, by simp, rfl⟩⟩)
  have n1 : ¬ cl = bx := fun e => by
    have h1 := h.hl
    rw [e, hx] at h1
    injection h1 with h1
    injection h1 with _ h1 _
    exact absurd h1 (by decide)
  have n2 : ¬ cr = bx := fun e => by
    have h1 := h.hr
    rw [e, hx] at h1
    injection h1 with h1
    injection h1 with _ h1 _
    exact absurd h1 (by decide)
  exact ⟨⟨h.tr.ch (c.lo (Nat.zero_le _)) vis_IP.saf vis_IP.dir vis_IP.map, h.bel.trans (up.below h.bel.size (fun k e => by omega)), (up.block _ (Array.getElem?_eq_some_iff.1 h.hl).1 n1).trans h.hl, (up.block _ (Array.getElem?_eq_some_iff.1 h.hr).1 n2).trans h.hr, up.row h.row (fun b hb e => hn (e ▸ hb)), h.rb, fun m hm => (h.dat m hm).ch c (Nat.zero_le _) IP_u8⟩, c, hs⟩
theorem row_ty {W : World} {e : TypeId} {s n k : Nat} {v : Value} {xs : List Value} (h : W.ownsRow 0 e s v n xs) (hk : v.ownBlock = some k) : ∃ cur, W.heap[k]? = some (.cells cur e (0, 0)) := by
  rcases h.2 with ⟨rfl, -⟩ | ⟨g, cap, cur, rfl, -, hh, -⟩
  · simp [Value.ownBlock] at hk
  · simp only [Value.ownBlock, Option.some.injEq] at hk
    subst hk
    exact ⟨cur, hh⟩
theorem Jv.app {lo : Nat} {S : List En} {w0 : World} {cl cr : Nat} {W w7 : World} {v v' : Value} {k r : Nat} {ms : List Im} {im : Im} (h : Jv lo S w0 cl cr W v k r ms) (hcl : w0.heap.size ≤ cl) (hd : Dat w0.heap.size W im.a im.c im.x) (ho : w7.ownsRow 0 51 3 v' (k + 1) (ims ms ++ im.cs)) (hg : W.grownBy w7 v.ownBlock)
    (hwh : (v'.ownBlock = v.ownBlock ∧ ∃ g, v.ownBlock = some g) ∨ (v'.ownBlock = some W.heap.size ∧ Below W.heap.size W w7)) :
    w7.cell? ⟨cl, 0, none⟩ = some v ∧ w7.frozen? ⟨cl, 0, none⟩ = false ∧ Aside (Jv lo S w0 cl cr (w7.setCell ⟨cl, 0, none⟩ v') v' (k + 1) r (ms ++ [im]) ∧ Ch 0 IP W (w7.setCell ⟨cl, 0, none⟩ v')) := by
  have u1 : Upd (fun b => v.ownBlock = some b) W w7 := Upd.of_grown hg (fun k hk => hk)
  have hncl : ¬ v.ownBlock = some cl := fun e => by
    obtain ⟨cur, hh⟩ := row_ty h.row e
    have := h.hl
    rw [hh] at this
    injection this with this
    injection this with _ this _
    exact absurd this (by decide)
  have hncr : ¬ v.ownBlock = some cr := fun e => by
    obtain ⟨cur, hh⟩ := row_ty h.row e
    have := h.hr
    rw [hh] at this
    injection this with this
    injection this with _ this _
    exact absurd this (by decide)
  have hl7 : w7.heap[cl]? = some (.cells #[v] 22 (0, 0)) := (u1.block _ (Array.getElem?_eq_some_iff.1 h.hl).1 hncl).trans h.hl
  have hr7 : w7.heap[cr]? = some (.cells #[.int .i64 (r : Int)] 3 (0, 0)) := (u1.block _ (Array.getElem?_eq_some_iff.1 h.hr).1 hncr).trans h.hr
  have hs := set_same (i := 0) (v := v') hl7
  simp only [List.setIfInBounds_toArray, List.set_cons_zero] at hs
  have u2 : Upd (fun k => k = cl) w7 (w7.setCell ⟨cl, 0, none⟩ v') := Upd.setCell (F := fun k => k = cl) (p := ⟨cl, 0, none⟩) rfl _
  have rb' : ∀ b, v'.ownBlock = some b → w0.heap.size ≤ b := fun b hb => by
    rcases hwh with ⟨e, -⟩ | ⟨e, -⟩
    · exact h.rb b (e ▸ hb)
    · rw [e] at hb; injection hb with hb; have := h.bel.size; omega
  have c1 : Ch 0 IP W w7 := by
    rcases hwh with ⟨e2, -⟩ | ⟨-, hb2⟩
    · exact Ch.of_upd u1 (fun b _ hb e => by
        obtain ⟨cur, hh⟩ := row_ty h.row e
        obtain ⟨cur2, hh2⟩ := row_ty ho (e2.trans e)
        exact ⟨_, _, hh, hh2, ⟨_, _, _, by simp, rfl⟩, ⟨_, _, _, by simp, rfl⟩⟩)
    · exact Ch.of_below hb2
  have c2 : Ch 0 IP w7 (w7.setCell ⟨cl, 0, none⟩ v') := Ch.of_upd u2 (fun k _ _ e => by
    subst e
    exact ⟨_, _, hl7, hs, ⟨_, _, _, by simp, rfl⟩, ⟨_, _, _, by simp, rfl⟩⟩)
  have c := c1.trans c2
  have hn7 : ∀ b, v'.ownBlock = some b → ¬ b = cl := fun b hb e => by
    subst e
    obtain ⟨cur, hh⟩ := row_ty ho hb
    rw [hl7] at hh
    injection hh with hh
    injection hh with _ hh _
    exact absurd hh (by decide)
  refine ⟨by rw [cell_of_row w7 cl 0 _ _ _ hl7]; rfl, frozen_of_row w7 cl 0 _ _ hl7, ⟨h.tr.ch (c.lo (Nat.zero_le _)) vis_IP.saf vis_IP.dir vis_IP.map, (h.bel.trans (u1.below h.bel.size (fun b hb => h.rb b hb))).trans (u2.below (Nat.le_trans h.bel.size u1.size) (fun k e => by omega)), hs, (u2.block _ (Array.getElem?_eq_some_iff.1 hr7).1 (fun e => h.ne e.symm)).trans hr7, ?_, rb', ?_⟩, c⟩
  · have : ims (ms ++ [im]) = ims ms ++ im.cs := by simp [ims, List.flatMap_append]
    rw [this]
    exact u2.row ho hn7
  · intro m hm
    rcases List.mem_append.1 hm with hm | hm
    · exact (h.dat m hm).ch c (Nat.zero_le _) IP_u8
    · rw [List.mem_singleton.1 hm]; exact hd.ch c (Nat.zero_le _) IP_u8
/-- Where Items stands behind k nodes. -/
structure Iv (lo : Nat) (S D : List En) (q : Nat) (w0 : World) (cl cr : Nat) (k : Nat) (W : World) : Prop where
  st : ∃ (v : Value) (r : Nat) (ms : List Im), Jv lo S w0 cl cr W v k r ms ∧ ms.map Im.it = (D.take k).map (itOf q) ∧ r ≤ 4194304 ∧ k ≤ 4096 ∧ icode q D 0 4194304 = icode q (D.drop k) k r
theorem Iv.below {lo : Nat} {S D : List En} {q : Nat} {w0 : World} {cl cr k : Nat} {W W' : World} (h : Iv lo S D q w0 cl cr k W) (b : Below W.heap.size W W') : Iv lo S D q w0 cl cr k W' := by
  obtain ⟨v, r, ms, h1, h2⟩ := h.st
  exact ⟨v, r, ms, h1.below b, h2⟩

def v_own (v : Value) (n : Nat) : Prop := ∀ b, v.ownBlock = some b → b < n
theorem im_cells (W : World) (o : Obj) (im : Im) : ∀ j u, im.cs[j]? = some u → ((W.alloc o).alloc (.cells #[.string im.p, .int .i8 im.k, .slice im.a im.x.length im.c] 51)).cell? ((⟨W.heap.size + 1, 0, none⟩ : Addr).add j) = some u := fun j u hj => by
  rw [Addr.add_lit, Nat.zero_add, cell_of_row _ _ j _ _ _ (heap_alloc2_new W _ _)]
  simpa [Im.cs] using hj
theorem im_cells1 (W : World) (im : Im) : ∀ j u, im.cs[j]? = some u → (W.alloc (.cells #[.string im.p, .int .i8 im.k, .slice im.a im.x.length im.c] 51)).cell? ((⟨W.heap.size, 0, none⟩ : Addr).add j) = some u := fun j u hj => by
  rw [Addr.add_lit, Nat.zero_add, cell_of_row _ _ j _ _ _ (heap_alloc_new W _)]
  simpa [Im.cs] using hj
theorem im_cells2 (W : World) (b : Nat) (hb : W.heap.size = b) (im : Im) : ∀ j u, im.cs[j]? = some u → (W.alloc (.cells #[.string im.p, .int .i8 im.k, .slice im.a im.x.length im.c] 51)).cell? ((⟨b, 0, none⟩ : Addr).add j) = some u := by
  subst hb; exact im_cells1 W im
theorem im_one (im : Im) : ∀ u ∈ im.cs, u.oneCell' = true := by
  intro u hm
  simp only [Im.cs, List.mem_cons, List.not_mem_nil, or_false] at hm
  rcases hm with rfl | rfl | rfl <;> rfl
set_option maxRecDepth 20000 in
set_option maxHeartbeats 4000000 in
theorem visit_any {lo : Nat} {S D : List En} {q : Nat} {w0 : World} {cl cr : Nat} (hcl : w0.heap.size ≤ cl) (hcr : w0.heap.size ≤ cr) (hDS : ∀ x ∈ D, x ∈ S) (k : Nat) (x : En) (W : World) (hD : D[k]? = some x) (h : Iv lo S D q w0 cl cr k W) :
    Calls Tryz.prog 52 (#[.string (ba (pth (x.p.drop q))), Pt x.nb] ++ #[Pt cl, Pt cr]) W fun e W' => ∃ c : Int, e = .returned (.int .i64 c) ∧ Ch 0 IP W W' ∧ ((c = 0 ∧ Iv lo S D q w0 cl cr (k + 1) W') ∨ (c ≠ 0 ∧ c = icode q D 0 4194304 ∧ Below w0.heap.size w0 W')) := by
  obtain ⟨v, r, ms, hJ, h5, h7, h8, h9⟩ := h.st
  obtain ⟨va, vc, rfl, hvc⟩ := own_slice hJ.row
  have hc1 := hJ.c1
  have hc2 := hJ.c2
  obtain ⟨P, hP⟩ : ∃ P, P = ba (pth (x.p.drop q)) := ⟨_, rfl⟩
  have hPs : P.size = (pth (x.p.drop q)).length := by rw [hP, ba_size]
  have hdr : D.drop k = x :: D.drop (k + 1) := by
    have hk := (List.getElem?_eq_some_iff.1 hD).1
    rw [List.drop_eq_getElem_cons hk]
    congr 1
    have := hD
    rw [List.getElem?_eq_getElem hk] at this
    injection this
  rw [hdr] at h9
  have hxS := hDS x (List.mem_of_getElem? hD)
  rw [← hP]
  show Calls Tryz.prog 52 #[.string P, Pt x.nb, Pt cl, Pt cr] W _
  have AJ := aside hJ
  have AHP := aside hP
  clear hP
  by_cases hk : k = 4096
  · have hv : vcode q k x r = 4 := by unfold vcode; rw [if_pos hk]
    have hic : icode q D 0 4194304 = 4 := by rw [h9]; unfold icode; rw [if_neg (by rw [hv]; decide), hv]
    have hk2 : (k : Int) = 4096 := by omega
    clear h hJ h9 hv hPs hdr
    go_enter Tryz.func52, Tryz.ntmps52
    go_wp2_with fail
    go_ret
    exact ⟨4, rfl, Ch.refl _ _ _, .inr ⟨by decide, hic.symm, AJ.out.bel⟩⟩
  · have hk2 : ((k : Int) == 4096) = false := beq_eq_false_iff_ne.2 (by omega)
    have hk3 : ¬ (k : Int) = 4096 := by omega
    by_cases hl : 4096 < P.size
    · have hv : vcode q k x r = 3 := by unfold vcode; rw [if_neg hk, if_pos (by rw [← hPs]; exact hl)]
      have hic : icode q D 0 4194304 = 3 := by rw [h9]; unfold icode; rw [if_neg (by rw [hv]; decide), hv]
      have hl2 : (4096 : Int) < (P.size : Int) := by omega
      clear h hJ h9 hv hPs hdr
      go_enter Tryz.func52, Tryz.ntmps52
      go_wp2_with fail
      go_ret
      exact ⟨3, rfl, Ch.refl _ _ _, .inr ⟨by decide, hic.symm, AJ.out.bel⟩⟩
    · have hl2 : ¬ (4096 : Int) < (P.size : Int) := by omega
      have AKd := aside (hJ.tr.kind hxS)
      have AH9 := aside h9
      have AHv : Aside (vcode q k x r = if x.k = 0 ∧ r < x.x.length then 3 else 0) := by show vcode q k x r = _; unfold vcode; rw [if_neg hk, if_neg (by rw [← hPs]; exact hl)]
      have ATk : Aside ((D.take (k + 1)).map (itOf q) = (D.take k).map (itOf q) ++ [itOf q x]) := by show _ = _; rw [List.take_add_one, hD, List.map_append]; rfl
      have AH5 := aside h5
      obtain ⟨m, hm⟩ : ∃ m, m = x.nb := ⟨_, rfl⟩
      rw [← hm] at AKd ⊢
      have AHm := aside hm
      clear h hJ h9 hPs hdr hm h5
      go_enter Tryz.func52, Tryz.ntmps52
      go_wp2_with fail
      refine AKd.out.mono ?_
      rintro e w' ⟨rfl, rfl⟩
      obtain ⟨K, hK⟩ : ∃ K : Int, K = (x.k : Int) := ⟨_, rfl⟩
      have AHK := aside hK
      rw [← hK]
      have hclw : cl < w'.heap.size := World.block_lt_of_cell? w' _ hc1
      have hcrw : cr < w'.heap.size := World.block_lt_of_cell? w' _ hc2
      have d1 : ∀ o, (w'.alloc o).cell? ⟨cl, 0, none⟩ = some (.slice va k vc) := fun o => ((below_al w' o).cell hclw).trans hc1
      have d2 : ∀ o, (w'.alloc o).cell? ⟨cr, 0, none⟩ = some (.int .i64 (r : Int)) := fun o => ((below_al w' o).cell hcrw).trans hc2
      have hJ1 : ∀ o, Jv lo S w0 cl cr (w'.alloc o) (.slice va k vc) k r ms := fun o => AJ.out.below (below_al w' o)
      have AJ1 := aside hJ1
      have H63 : Aside (k + 1 ≤ maxLen) := by show k + 1 ≤ maxLen; unfold maxLen; omega
      have hby : (k + 1) * 48 ≤ 140737488355328 := by omega
      clear hK hJ1
      by_cases hk0 : x.k = 0
      · obtain ⟨-, hxl, hLf⟩ := AJ.out.tr.lef x hxS (by omega)
        obtain ⟨fb, hb, hF, hMf⟩ : ∃ fb hb, Fl w' x.nb fb hb ∧ Mf lo w' hb x.x := by
          rcases hLf with ⟨-, fb, hb, -, h1, h2⟩ | h | h | h
          · exact ⟨fb, hb, h1, h2⟩
          · exact absurd h.1 (by omega)
          · exact absurd h.1 (by omega)
          · exact absurd h.1 (by omega)
        rw [← AHm.out] at hF
        obtain rfl : K = 0 := by rw [AHK.out, hk0]; rfl
        obtain ⟨W1, hW1⟩ : ∃ W1, W1 = w'.alloc (.cells #[.string P, .int .i8 0, .slice none 0 0] 51) := ⟨_, rfl⟩
        have hB1 : Below w'.heap.size w' W1 := by rw [hW1]; exact below_al w' _
        have hbx1 : W1.heap[w'.heap.size]? = some (.cells #[.string P, .int .i8 0, .slice none 0 0] 51 (0, 0)) := by rw [hW1]; exact heap_alloc_new w' _
        have hJ1 := AJ.out.below hB1
        have f2 := hJ1.c2
        have hrn : ¬ (Value.slice va k vc).ownBlock = some w'.heap.size := fun e => by
          have := (AJ.out.row.lt _ e).2
          omega
        have AJ1' := aside hJ1
        have AB1 := aside hB1
        have ABx1 := aside hbx1
        have hlt1 : w'.heap.size < W1.heap.size := (Array.getElem?_eq_some_iff.1 hbx1).1
        have hne1 : ¬ w'.heap.size = cr := by omega
        have hne2 : ¬ cr = w'.heap.size := by omega
        have hne3 : ¬ w'.heap.size = cl := by omega
        have hne4 : ¬ cl = w'.heap.size := by omega
        have hne5 : ¬ cl = cr := AJ.out.ne
        have hne6 : ¬ cr = cl := fun e => hne5 e.symm
        have hbw : w0.heap.size ≤ w'.heap.size := AJ.out.bel.size
        by_cases hfit : x.x.length ≤ r
        · have AFB := aside (fileBytes_any lo m fb hb x.x r W1 (hF.below hB1) (hMf.below hB1) hxl hfit)
          obtain ⟨n, hn⟩ : ∃ n, n = x.x.length := ⟨_, rfl⟩
          have AHN := aside hn
          clear hJ1 hB1 hbx1 hF hMf hLf
          rw [← hn] at AFB hfit hxl
          clear hn
          go_wp2_with fail
          rw [← hW1]
          clear hW1 d1 d2 AJ1
          refine AFB.out.mono ?_
          rintro e W2 ⟨a, c, rfl, hdat, hB2⟩
          have hbx2 : W2.heap[w'.heap.size]? = some (.cells #[.string P, .int .i8 0, .slice none 0 0] 51 (0, 0)) := (hB2.block _ hlt1).trans ABx1.out
          have hJ2 := AJ1'.out.below hB2
          have fx : W2.frozen? ⟨w'.heap.size, 2, none⟩ = false := frozen_of_row W2 _ 2 _ _ hbx2
          have fr : W2.frozen? ⟨cr, 0, none⟩ = false := frozen_of_row W2 _ 0 _ _ hJ2.hr
          have g0 : W2.cell? ⟨w'.heap.size, 0, none⟩ = some (.string P) := by rw [cell_of_row W2 _ 0 _ _ _ hbx2]; rfl
          have g1 : W2.cell? ⟨w'.heap.size, 1, none⟩ = some (.int .i8 0) := by rw [cell_of_row W2 _ 1 _ _ _ hbx2]; rfl
          have g2 : W2.cell? ⟨w'.heap.size, 2, none⟩ = some (.slice none 0 0) := by rw [cell_of_row W2 _ 2 _ _ _ hbx2]; rfl
          have g3 := hJ2.c1
          have g4 := hJ2.c2
          obtain ⟨b1, b2, b3⟩ := hJ2.box (bx := w'.heap.size) hbw hbx2 hrn (.slice a n c)
          obtain ⟨b4, b5⟩ := b1.room hcr (r - n)
          have hsub : IntKind.i64.wrap ((r : Int) - (n : Int)) = ((r - n : Nat) : Int) := by rw [wrap_small _ (by omega) (by omega)]; omega
          obtain ⟨r2, hr2⟩ : ∃ r2, r2 = r - n := ⟨_, rfl⟩
          have AHr2 := aside hr2
          rw [← hr2] at b4 b5 hsub
          have AJ4 := aside b4
          have hdat0 : Dat w0.heap.size W2 a c x.x := hdat.lo (Nat.le_trans AJ1'.out.bel.size (Nat.le_refl _))
          have AD4 : Aside (Dat w0.heap.size (((W2.setCell ⟨w'.heap.size, 2, none⟩ (.slice a n c)).setCell ⟨cr, 0, none⟩ (.int .i64 (r2 : Int))).alloc (.cells #[.string P, .int .i8 0, .slice a n c] 51)) a c x.x) := ((hdat0.ch b2 (Nat.zero_le _) IP_u8).ch b5 (Nat.zero_le _) IP_u8).below (below_al _ _)
          have ACh4 : Aside (Ch 0 IP w' ((W2.setCell ⟨w'.heap.size, 2, none⟩ (.slice a n c)).setCell ⟨cr, 0, none⟩ (.int .i64 (r2 : Int)))) := ((Ch.of_below (below_tr AB1.out hB2)).trans b2).trans b5
          have hv0 : vcode q k x r = 0 := by rw [AHv.out, if_neg (fun h => by have := h.2; rw [← AHN.out] at this; omega)]
          have hic : icode q D 0 4194304 = icode q (D.drop (k + 1)) (k + 1) r2 := by
            rw [AH9.out]
            conv => lhs; unfold icode
            rw [if_pos hv0, show used x = n by unfold used; rw [if_pos hk0, AHN.out], ← AHr2.out]
          have AIc := aside hic
          have hrle : r2 ≤ 4194304 := by omega
          clear hv0 hic b1 b2 b3 b4 b5 hdat hdat0 hB2 hJ2 hbx2 hr2 AFB
          rw [AHN.out] at *
          go_wp2_with (at_builtin; refine M.wpList_append_where _ rfl _ _ 22 rfl 51 (.agg #[.string ⟨#[]⟩, .int .i8 0, .slice none 0 0]) 3 48 Tryz.underlying22 infoI rfl (by decide) (.slice va k vc) k (ims ms) rfl (row_below AJ4.out.row (below_al _ _)) _ 1 _ (Im.cs ⟨P, 0, x.x, a, c⟩) rfl rfl (im_cells2 _ _ (by simp) ⟨P, 0, x.x, a, c⟩) (im_one _) H63.out hby (by decide) ?_; intro v' w7 ho hg hwh; obtain ⟨a', c', rfl, -⟩ := own_slice ho; obtain ⟨q1, q2, q3⟩ := (AJ4.out.below (below_al _ _)).app (im := ⟨P, 0, x.x, a, c⟩) hcl AD4.out ho hg hwh; clear ho hg hwh)
          go_ret
          refine ⟨0, rfl, (ACh4.out.trans (Ch.of_below (below_al _ _))).trans q3.out.2, .inl ⟨rfl, _, r2, _, q3.out.1, ?_, hrle, by omega, AIc.out⟩⟩
          rw [ATk.out, List.map_append, AH5.out]
          simp [Im.it, itOf, ← AHP.out, hk0]
        · have hlong : r < x.x.length := by omega
          have AFB := aside (fileBytes_long lo m fb hb x.x r W1 (hF.below hB1) (hMf.below hB1) hxl hlong)
          clear hJ1 hB1 hbx1 hF hMf hLf
          go_wp2_with fail
          rw [← hW1]
          clear hW1 d1 d2 AJ1
          refine AFB.out.mono ?_
          rintro e W2 ⟨rfl, hB2⟩
          have hbx2 : W2.heap[w'.heap.size]? = some (.cells #[.string P, .int .i8 0, .slice none 0 0] 51 (0, 0)) := (hB2.block _ hlt1).trans ABx1.out
          have hJ2 := AJ1'.out.below hB2
          have fx : W2.frozen? ⟨w'.heap.size, 2, none⟩ = false := frozen_of_row W2 _ 2 _ _ hbx2
          have fr : W2.frozen? ⟨cr, 0, none⟩ = false := frozen_of_row W2 _ 0 _ _ hJ2.hr
          have g0 : W2.cell? ⟨w'.heap.size, 0, none⟩ = some (.string P) := by rw [cell_of_row W2 _ 0 _ _ _ hbx2]; rfl
          have g1 : W2.cell? ⟨w'.heap.size, 1, none⟩ = some (.int .i8 0) := by rw [cell_of_row W2 _ 1 _ _ _ hbx2]; rfl
          have g2 : W2.cell? ⟨w'.heap.size, 2, none⟩ = some (.slice none 0 0) := by rw [cell_of_row W2 _ 2 _ _ _ hbx2]; rfl
          have g3 := hJ2.c1
          have g4 := hJ2.c2
          obtain ⟨b1, b2, b3⟩ := hJ2.box (bx := w'.heap.size) hbw hbx2 hrn (.slice none 0 0)
          obtain ⟨b4, b5⟩ := b1.room hcr r
          have hsub : IntKind.i64.wrap (r : Int) = (r : Int) := wrap_small _ (by omega) (by omega)
          have AJ4 := aside b4
          have AD4 : Aside (Dat w0.heap.size (((W2.setCell ⟨w'.heap.size, 2, none⟩ (.slice none 0 0)).setCell ⟨cr, 0, none⟩ (.int .i64 (r : Int))).alloc (.cells #[.string P, .int .i8 0, .slice none 0 0] 51)) none 0 []) := Dat.nil _ _
          have ACh4 : Aside (Ch 0 IP w' ((W2.setCell ⟨w'.heap.size, 2, none⟩ (.slice none 0 0)).setCell ⟨cr, 0, none⟩ (.int .i64 (r : Int)))) := ((Ch.of_below (below_tr AB1.out hB2)).trans b2).trans b5
          have hv : vcode q k x r = 3 := by rw [AHv.out, if_pos ⟨hk0, hlong⟩]
          have hic : icode q D 0 4194304 = 3 := by rw [AH9.out]; unfold icode; rw [if_neg (by rw [hv]; decide), hv]
          have AIc := aside hic
          clear hv hic b1 b2 b3 b4 b5 hB2 hJ2 hbx2 AFB
          go_wp2_with (at_builtin; refine M.wpList_append_where _ rfl _ _ 22 rfl 51 (.agg #[.string ⟨#[]⟩, .int .i8 0, .slice none 0 0]) 3 48 Tryz.underlying22 infoI rfl (by decide) (.slice va k vc) k (ims ms) rfl (row_below AJ4.out.row (below_al _ _)) _ 1 _ (Im.cs ⟨P, 0, [], none, 0⟩) rfl rfl (im_cells2 _ _ (by simp) ⟨P, 0, [], none, 0⟩) (im_one _) H63.out hby (by decide) ?_; intro v' w7 ho hg hwh; obtain ⟨a', c', rfl, -⟩ := own_slice ho; obtain ⟨q1, q2, q3⟩ := (AJ4.out.below (below_al _ _)).app (im := ⟨P, 0, [], none, 0⟩) hcl AD4.out ho hg hwh; clear ho hg hwh)
          go_ret
          exact ⟨3, rfl, (ACh4.out.trans (Ch.of_below (below_al _ _))).trans q3.out.2, .inr ⟨by decide, AIc.out.symm, q3.out.1.bel⟩⟩
      · by_cases hk22 : x.k = 2
        · obtain ⟨-, hxl, hLf⟩ := AJ.out.tr.lef x hxS (by omega)
          obtain ⟨lb, hF⟩ : ∃ lb, Lk w' x.nb lb (ba x.x) := by
            rcases hLf with h | ⟨-, lb, -, h1⟩ | h | h
            · exact absurd h.1 (by omega)
            · exact ⟨lb, h1⟩
            · exact absurd h.1 (by omega)
            · exact absurd h.1 (by omega)
          rw [← AHm.out] at hF
          obtain rfl : K = 2 := by rw [AHK.out, hk22]; rfl
          obtain ⟨W1, hW1⟩ : ∃ W1, W1 = w'.alloc (.cells #[.string P, .int .i8 2, .slice none 0 0] 51) := ⟨_, rfl⟩
          have hB1 : Below w'.heap.size w' W1 := by rw [hW1]; exact below_al w' _
          have hbx1 : W1.heap[w'.heap.size]? = some (.cells #[.string P, .int .i8 2, .slice none 0 0] 51 (0, 0)) := by rw [hW1]; exact heap_alloc_new w' _
          have hrn : ¬ (Value.slice va k vc).ownBlock = some w'.heap.size := fun e => by
            have := (AJ.out.row.lt _ e).2
            omega
          have AJ1' := aside (AJ.out.below hB1)
          have AB1 := aside hB1
          have ABx1 := aside hbx1
          have hlt1 : w'.heap.size < W1.heap.size := (Array.getElem?_eq_some_iff.1 hbx1).1
          have hne3 : ¬ w'.heap.size = cl := by omega
          have hne4 : ¬ cl = w'.heap.size := by omega
          have hbw : w0.heap.size ≤ w'.heap.size := AJ.out.bel.size
          have hFL : Lk W1 m lb (ba x.x) := ⟨hF.nod.below hB1, (hB1.block _ (Array.getElem?_eq_some_iff.1 hF.lnk).1).trans hF.lnk⟩
          have AFB := aside (linkBytes_any m lb x.x W1 hFL (by omega))
          clear hB1 hbx1 hF hLf hFL
          go_wp2_with fail
          rw [← hW1]
          clear hW1 d1 d2 AJ1
          refine AFB.out.mono ?_
          rintro e W2 ⟨a, c, rfl, hdat, hB2⟩
          have hbx2 : W2.heap[w'.heap.size]? = some (.cells #[.string P, .int .i8 2, .slice none 0 0] 51 (0, 0)) := (hB2.block _ hlt1).trans ABx1.out
          have hJ2 := AJ1'.out.below hB2
          have fx : W2.frozen? ⟨w'.heap.size, 2, none⟩ = false := frozen_of_row W2 _ 2 _ _ hbx2
          have g0 : W2.cell? ⟨w'.heap.size, 0, none⟩ = some (.string P) := by rw [cell_of_row W2 _ 0 _ _ _ hbx2]; rfl
          have g1 : W2.cell? ⟨w'.heap.size, 1, none⟩ = some (.int .i8 2) := by rw [cell_of_row W2 _ 1 _ _ _ hbx2]; rfl
          have g2 : W2.cell? ⟨w'.heap.size, 2, none⟩ = some (.slice none 0 0) := by rw [cell_of_row W2 _ 2 _ _ _ hbx2]; rfl
          have g3 := hJ2.c1
          obtain ⟨b1, b2, b3⟩ := hJ2.box (bx := w'.heap.size) hbw hbx2 hrn (.slice a x.x.length c)
          have AJ4 := aside b1
          have hdat0 : Dat w0.heap.size W2 a c x.x := hdat.lo AJ1'.out.bel.size
          have AD4 : Aside (Dat w0.heap.size ((W2.setCell ⟨w'.heap.size, 2, none⟩ (.slice a x.x.length c)).alloc (.cells #[.string P, .int .i8 2, .slice a x.x.length c] 51)) a c x.x) := (hdat0.ch b2 (Nat.zero_le _) IP_u8).below (below_al _ _)
          have ACh4 : Aside (Ch 0 IP w' (W2.setCell ⟨w'.heap.size, 2, none⟩ (.slice a x.x.length c))) := (Ch.of_below (below_tr AB1.out hB2)).trans b2
          have hv0 : vcode q k x r = 0 := by rw [AHv.out, if_neg (fun h => hk0 h.1)]
          have hic : icode q D 0 4194304 = icode q (D.drop (k + 1)) (k + 1) r := by
            rw [AH9.out]
            conv => lhs; unfold icode
            rw [if_pos hv0, show used x = 0 by unfold used; rw [if_neg hk0], Nat.sub_zero]
          have AIc := aside hic
          clear hv0 hic b1 b2 b3 hdat hdat0 hB2 hJ2 hbx2 AFB
          go_wp2_with (at_builtin; refine M.wpList_append_where _ rfl _ _ 22 rfl 51 (.agg #[.string ⟨#[]⟩, .int .i8 0, .slice none 0 0]) 3 48 Tryz.underlying22 infoI rfl (by decide) (.slice va k vc) k (ims ms) rfl (row_below AJ4.out.row (below_al _ _)) _ 1 _ (Im.cs ⟨P, 2, x.x, a, c⟩) rfl rfl (im_cells2 _ _ (by simp) ⟨P, 2, x.x, a, c⟩) (im_one _) H63.out hby (by decide) ?_; intro v' w7 ho hg hwh; obtain ⟨a', c', rfl, -⟩ := own_slice ho; obtain ⟨q1, q2, q3⟩ := (AJ4.out.below (below_al _ _)).app (im := ⟨P, 2, x.x, a, c⟩) hcl AD4.out ho hg hwh; clear ho hg hwh)
          go_ret
          refine ⟨0, rfl, (ACh4.out.trans (Ch.of_below (below_al _ _))).trans q3.out.2, .inl ⟨rfl, _, r, _, q3.out.1, ?_, h7, by omega, AIc.out⟩⟩
          rw [ATk.out, List.map_append, AH5.out]
          simp [Im.it, itOf, ← AHP.out, hk22]
        · have e0 : (K == 0) = false := by rw [AHK.out]; exact beq_eq_false_iff_ne.2 (by omega)
          have e2 : (K == 2) = false := by rw [AHK.out]; exact beq_eq_false_iff_ne.2 (by omega)
          have hx0 : x.x = [] := by
            by_cases h1 : x.k = 1
            · exact (AJ.out.tr.dir x hxS h1).2.2.2.1
            · obtain ⟨-, -, h | h | h | h⟩ := AJ.out.tr.lef x hxS h1
              · exact absurd h.1 hk0
              · exact absurd h.1 hk22
              · exact h.2.1
              · exact h.2.1
          have AX0 := aside hx0
          have hv0 : vcode q k x r = 0 := by rw [AHv.out, if_neg (fun h => hk0 h.1)]
          have hic : icode q D 0 4194304 = icode q (D.drop (k + 1)) (k + 1) r := by
            rw [AH9.out]
            conv => lhs; unfold icode
            rw [if_pos hv0, show used x = 0 by unfold used; rw [if_neg hk0], Nat.sub_zero]
          have AIc := aside hic
          clear hx0 hv0 hic
          have HRow : ∀ o1 o2, Aside (((w'.alloc o1).alloc o2).ownsRow 0 51 3 (.slice va k vc) k (ims ms)) := fun o1 o2 => row_below (AJ1.out o1).row (below_al _ _)
          go_wp2_with (at_builtin; refine M.wpList_append_where _ rfl _ _ 22 rfl 51 (.agg #[.string ⟨#[]⟩, .int .i8 0, .slice none 0 0]) 3 48 Tryz.underlying22 infoI rfl (by decide) (.slice va k vc) k (ims ms) rfl (HRow _ _).out _ 1 _ (Im.cs ⟨P, K, [], none, 0⟩) rfl rfl (im_cells w' _ ⟨P, K, [], none, 0⟩) (im_one _) H63.out hby (by decide) ?_; intro v' w7 ho hg hwh; obtain ⟨a', c', rfl, -⟩ := own_slice ho; obtain ⟨q1, q2, q3⟩ := ((AJ1.out _).below (below_al _ _)).app (im := ⟨P, K, [], none, 0⟩) hcl (Dat.nil _ _) ho hg hwh; clear ho hg hwh)
          go_ret
          refine ⟨0, rfl, (Ch.of_below (below_tr (below_al w' _) (below_al _ _))).trans q3.out.2, .inl ⟨rfl, _, r, _, q3.out.1, ?_, h7, by omega, AIc.out⟩⟩
          rw [ATk.out, List.map_append, AH5.out]
          simp [Im.it, itOf, ← AHP.out, ← AHK.out, AX0.out]
end Go.Proofs.YtbnaegoahdcejaaGreatDoor
