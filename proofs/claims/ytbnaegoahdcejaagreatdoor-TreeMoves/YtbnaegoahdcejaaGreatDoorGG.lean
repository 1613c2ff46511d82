/- What Make asks of an item: refusesName, refuses, grown. The directory in which a path's last name may be put: place. A growing tree: what one item more makes of it. put: one item comes to a growing tree. -/
import Derived.Test.YtbnaegoahdcejaaGreatDoorGD
import Derived.Test.YtbnaegoahdcejaaGreatDoorGE
import Derived.Test.YtbnaegoahdcejaaGreatDoorLay2
namespace Go.Proofs.YtbnaegoahdcejaaGreatDoor
open Go.RowKit Go.ChangeMaps Go.Shelf

theorem Tr.kidlen {lo : Nat} {w : World} {S : List En} (h : Tr lo w S) {p : List B} {nb db mb : Nat} {up : Value} {L : List KV} (hD : Dr w nb db mb up L) (hK : Kids S p L) : L.length = (kidU S p).length ∧ L.length ≤ 100000 := by
  obtain ⟨es, cl, -, hE⟩ := hD.map
  have h1 := kids_len hE hK h.one
  have h2 := (List.filter_sublist (p := fun e => decide (e.p ≠ [] ∧ e.p.dropLast = p)) (l := S)).length_le
  have h3 := h.few
  refine ⟨h1, ?_⟩
  rw [h1]
  unfold kidU
  omega
/-- What refusesName answers. -/
def rnc (S : List En) (p : List B) (n : B) : Int := if nameOk (ba n) = false then 190 else if (S.any fun c => decide (c.p = p ++ [n])) then 191 else 0
theorem Kids.some_iff {S : List En} {p : List B} {L : List KV} (hK : Kids S p L) (n : B) : (lk L (ba n)).isSome = (S.any fun c => decide (c.p = p ++ [n])) := by
  rw [Bool.eq_iff_iff, Option.isSome_iff_exists, List.any_eq_true]
  constructor
  · rintro ⟨v, hv⟩
    obtain ⟨c, hc, hp, -⟩ := (hK n v).1 hv
    exact ⟨c, hc, by simpa using hp⟩
  · rintro ⟨c, hc, hp⟩
    exact ⟨_, (hK n _).2 ⟨c, hc, by simpa using hp, rfl⟩⟩
set_option maxRecDepth 20000 in
set_option maxHeartbeats 1000000 in
theorem rn_any {lo : Nat} {w : World} {S : List En} (h : Tr lo w S) {d : En} (hd : d ∈ S) (hk : d.k = 1) (n : B) :
    Calls Tryz.prog 57 #[Pt d.nb, .string (ba n)] w fun e w' => e = .returned (.int .i64 (rnc S d.p n)) ∧ Below w.heap.size w w' := by
  obtain ⟨up, L, l, h1, h2, h3, h4, h5, -, -⟩ := h.way _ d rfl hd hk
  have hlen := (h.kidlen h1 h2).2
  have hdl := h.dep d hd
  obtain ⟨x, hx, hxc⟩ : ∃ x, Mk w d.nb x ∧ xcode x (d.db :: l) (hgt S d.p) = 200 := by
    rcases h3 with ⟨-, rfl⟩ | ⟨-, c, -, -, -, rfl⟩
    · exact ⟨_, Mk.free _ _ _ h1, by simp [xcode]⟩
    · exact ⟨_, Mk.held _ _ _ _ h1, by simp [xcode]⟩
  obtain ⟨c, hc⟩ : ∃ c, rcode (ba n) L x (d.db :: l) (hgt S d.p) = c := ⟨_, rfl⟩
  have hc2 := hc
  unfold rcode at hc2
  rw [hxc, h2.some_iff n] at hc2
  have h64 := h.hgt64 d.p
  have hc0 : c ≠ 0 := by rw [← hc2]; repeat' split
                         all_goals decide
  have AA := aside (add_no d.nb d.db d.mb up L l (ba n) d.nb x (hgt S d.p) c w h1 h4 (by omega) hx (h.ht 64 d hd (by omega)) (by omega) (by omega) hc hc0)
  have hr : (if c = 190 ∨ c = 191 then c else 0) = rnc S d.p n := by
    unfold rnc
    rw [← hc2]
    by_cases e1 : nameOk (ba n) = false
    · rw [if_pos e1, if_pos e1]; decide
    · rw [if_neg e1, if_neg e1]
      by_cases e2 : (S.any fun c => decide (c.p = d.p ++ [n])) = true
      · rw [if_pos e2, if_pos e2]; decide
      · rw [if_neg e2, if_neg e2]
        split <;> decide
  rw [← hr]
  obtain ⟨N, hN⟩ : ∃ N, N = ba n := ⟨_, rfl⟩
  obtain ⟨nb, hnb⟩ : ∃ nb, nb = d.nb := ⟨_, rfl⟩
  rw [← hN, ← hnb] at AA ⊢
  clear h h1 h2 h3 h4 hx hxc hc hc2 hr hlen hdl h5 h64 hN hnb
  go_enter Tryz.func57, Tryz.ntmps57
  go_wp2_with fail
  refine AA.out.mono ?_
  rintro e w' ⟨rfl, hb⟩
  have AB := aside hb
  clear hb AA
  by_cases e1 : c = 190
  · subst e1
    go_wp2_with fail
    go_ret
    exact ⟨by simp, AB.out⟩
  · by_cases e2 : c = 191
    · subst e2
      go_wp2_with fail
      go_ret
      exact ⟨by simp, AB.out⟩
    · have f1 : (c == 190) = false := beq_eq_false_iff_ne.2 e1
      have f2 : (c == 191) = false := beq_eq_false_iff_ne.2 e2
      go_wp2_with fail
      go_ret
      exact ⟨rfl, AB.out⟩

/-- A growing tree: its root's node, how many nodes, how many bytes. -/
abbrev grC (nb n b : Nat) : Obj := .cells #[Pt nb, .int .i64 (n : Int), .int .i64 (b : Int)] 65
/-- What refuses answers. -/
def rfc (byt : Nat) (i : It) : Int :=
  if 4096 < i.1.size ∨ 64 ≤ i.1.data.toList.count 47 then 3
  else if i.2.1 = 0 then (if 4194304 - byt < i.2.2.length then 3 else 0)
  else if i.2.1 = 1 then (if 0 < i.2.2.length then 2 else 0)
  else if i.2.1 = 2 then 0 else 2
theorem count_any (s : ByteArray) (W : World) : Calls Tryz.prog 91 #[.string s, .string ⟨#[47]⟩] W fun e w' => e = .returned (.int .i64 ((s.data.toList.count 47 : Nat) : Int)) ∧ w' = W := Any.strings_Count_one (ρ := lays146_ren) { lays146 with } s 47 W
set_option maxRecDepth 20000 in
set_option maxHeartbeats 2000000 in
theorem refusesT_any (tb nb nn b : Nat) (p : ByteArray) (k : Int) (a : Option Addr) (x : B) (c : Nat) (w : World) (h : w.heap[tb]? = some (.cells #[Pt nb, .int .i64 (nn : Int), .int .i64 (b : Int)] 65 (0, 0))) (hb : b ≤ 4194304) (hx : x.length ≤ 9223372036854775807) :
    Calls Tryz.prog 67 #[Pt tb, .agg #[.string p, .int .i8 k, .slice a x.length c]] w fun e w' => e = .returned (.int .i64 (rfc b (p, k, x))) ∧ Below w.heap.size w w' := by
  obtain ⟨W, hW⟩ : ∃ W, W = w.alloc (.cells #[.string p, .int .i8 k, .slice a x.length c] 51) := ⟨_, rfl⟩
  have hB : Below w.heap.size w W := by rw [hW]; exact below_al w _
  have AB := aside hB
  have ht : W.heap[tb]? = some (.cells #[Pt nb, .int .i64 (nn : Int), .int .i64 (b : Int)] 65 (0, 0)) := (hB.block _ (Array.getElem?_eq_some_iff.1 h).1).trans h
  have c2 : W.cell? ⟨tb, 2, none⟩ = some (.int .i64 (b : Int)) := by rw [cell_of_row W tb 2 _ _ _ ht]; rfl
  have hx0 : W.heap[w.heap.size]? = some (.cells #[.string p, .int .i8 k, .slice a x.length c] 51 (0, 0)) := by rw [hW]; exact heap_alloc_new w _
  have x0 : W.cell? ⟨w.heap.size, 0, none⟩ = some (.string p) := by rw [cell_of_row W _ 0 _ _ _ hx0]; rfl
  have x1 : W.cell? ⟨w.heap.size, 1, none⟩ = some (.int .i8 k) := by rw [cell_of_row W _ 1 _ _ _ hx0]; rfl
  have x2 : W.cell? ⟨w.heap.size, 2, none⟩ = some (.slice a x.length c) := by rw [cell_of_row W _ 2 _ _ _ hx0]; rfl
  have hsub : IntKind.i64.wrap ((4194304 : Int) - (b : Int)) = ((4194304 - b : Nat) : Int) := by rw [wrap_small _ (by omega) (by omega)]; omega
  obtain ⟨m, hm⟩ : ∃ m, m = 4194304 - b := ⟨_, rfl⟩
  rw [← hm] at hsub
  obtain ⟨n, hn⟩ : ∃ n, n = x.length := ⟨_, rfl⟩
  have AHn := aside hn
  have AHm := aside hm
  rw [← hn] at hx x2 hW ⊢
  clear h hB ht hx0 hn hm
  go_enter Tryz.func67, Tryz.ntmps67
  by_cases hp : 4096 < p.size
  · have hp2 : (4096 : Int) < (p.size : Int) := by omega
    go_wp2_with fail
    go_ret
    exact ⟨by unfold rfc; rw [if_pos (.inl hp)]; rfl, by rw [← hW]; exact AB.out⟩
  · have hp2 : ¬ (4096 : Int) < (p.size : Int) := by omega
    go_wp2_with fail
    rw [← hW]
    clear hW
    have AC := aside (count_any p W)
    obtain ⟨q, hq⟩ : ∃ q, q = p.data.toList.count 47 := ⟨_, rfl⟩
    rw [← hq] at AC
    have AHq := aside hq
    clear hq
    refine AC.out.mono ?_
    rintro e w' ⟨rfl, rfl⟩
    clear AC
    by_cases hc : 64 ≤ q
    · have hc2 : (64 : Int) ≤ (q : Int) := by omega
      have hc3 : ¬ (q : Int) < 64 := by omega
      go_wp2_with fail
      go_ret
      exact ⟨by unfold rfc; rw [if_pos (.inr (by have := AHq.out; simp only at *; omega))]; rfl, AB.out⟩
    · have hc2 : ¬ (64 : Int) ≤ (q : Int) := by omega
      have hc3 : (q : Int) < 64 := by omega
      have AR : Aside (∀ r : Int, (if k = 0 then (if m < n then 3 else 0) else if k = 1 then (if 0 < n then 2 else 0) else if k = 2 then 0 else 2) = r → rfc b (p, k, x) = r) := fun r hq => by
        unfold rfc
        rw [if_neg (by have := AHq.out; simp only; rintro (e | e) <;> omega), ← hq, AHm.out, AHn.out]
      by_cases k0 : k = 0
      · subst k0
        by_cases hl : m < n
        · have hl2 : (m : Int) < (n : Int) := by omega
          go_wp2_with fail
          go_region
          all_goals (go_wp2_with fail)
          all_goals go_ret
          all_goals exact ⟨by rw [AR.out 3 (by simp [hl])]; rfl, AB.out.drew⟩
        · have hl2 : ¬ (m : Int) < (n : Int) := by omega
          go_wp2_with fail
          go_region
          all_goals (go_wp2_with fail)
          all_goals go_ret
          all_goals exact ⟨by rw [AR.out 0 (by simp [hl])]; rfl, AB.out.drew⟩
      · have e0 : (k == 0) = false := beq_eq_false_iff_ne.2 k0
        by_cases k1 : k = 1
        · subst k1
          by_cases hl : 0 < n
          · have hl2 : (0 : Int) < (n : Int) := by omega
            go_wp2_with fail
            go_ret
            exact ⟨by rw [AR.out 2 (by simp [hl])]; rfl, AB.out⟩
          · have hl2 : ¬ (0 : Int) < (n : Int) := by omega
            go_wp2_with fail
            go_ret
            exact ⟨by rw [AR.out 0 (by simp [hl])]; rfl, AB.out⟩
        · have e1 : (k == 1) = false := beq_eq_false_iff_ne.2 k1
          by_cases k2 : k = 2
          · subst k2
            go_wp2_with fail
            go_ret
            exact ⟨by rw [AR.out 0 (by simp)]; rfl, AB.out⟩
          · have e2 : (k == 2) = false := beq_eq_false_iff_ne.2 k2
            go_wp2_with fail
            go_ret
            exact ⟨by rw [AR.out 2 (by simp [k0, k1, k2])]; rfl, AB.out⟩

/-- What grown answers. -/
def grc (i : It) : Int := if i.2.1 = 2 then (if i.2.2.length = 0 then 190 else if 4096 < i.2.2.length then 3 else 0) else 0
/-- A new node of an item. -/
def NewN (lo : Nat) (W : World) (k : Int) (x : B) (nb db mb : Nat) : Prop :=
  (k = 1 ∧ lo ≤ nb ∧ lo ≤ db ∧ lo ≤ mb ∧ Dr W nb db mb (.pointer none) []) ∨ (k = 2 ∧ lo ≤ nb ∧ ∃ lb, lo ≤ lb ∧ Lk W nb lb (ba x)) ∨ (k = 0 ∧ lo ≤ nb ∧ ∃ fb hb, lo ≤ fb ∧ Fl W nb fb hb ∧ Mf lo W hb x)
theorem str_of_bytes (w : World) (a : Addr) (l : B) (n c : Nat) (hn : n = l.length) (h : ∀ j v, (bcells l)[j]? = some v → w.cell? (a.add j) = some v) : (convert 48 9 (.slice (some a) n c)).run Tryz.prog w = .ok (.string (ba l)) w := by
  subst hn
  rw [run_convert_bytes_string w 48 9 5 (some a) l.length c Tryz.underlying48 Tryz.underlying5 Tryz.underlying9]
  have e : bcells l = (l.map fun b => (b.toNat : Int)).map (Value.int .u8) := by simp [bcells]
  rw [run_bytesToString w a l.length c (l.map fun b => (b.toNat : Int)) (by rw [← e]; have := run_loadCells_list (P := Tryz.prog) (w := w) a (bcells l) h; rwa [bcells_length] at this), foldl_push_byteCells, show ByteArray.empty.data = #[] from rfl, Array.empty_append]
  rfl
theorem str_all (w : World) (a : Option Addr) (l : B) (c : Nat) (h : BsAt w a l) : (convert 48 9 (.slice a l.length c)).run Tryz.prog w = .ok (.string (ba l)) w := by
  by_cases hl : l = []
  · subst hl
    cases a with
    | none =>
      show (convert 48 9 (.slice none 0 c)).run Tryz.prog w = _
      rw [run_convert_bytes_string w 48 9 5 none 0 c Tryz.underlying48 Tryz.underlying5 Tryz.underlying9]
      rfl
    | some a => exact str_of_bytes w a [] 0 c rfl (fun j v hj => by simp [bcells] at hj)
  · obtain ⟨ad, rfl, hc⟩ := h hl
    exact str_of_bytes w ad l l.length c rfl hc
/-- What grown tells. -/
def GrownP (w : World) (p : ByteArray) (k : Int) (x : B) (e : Ending) (w' : World) : Prop := Below w.heap.size w w' ∧ ((grc (p, k, x) ≠ 0 ∧ ∃ v, e = .returned (.tuple #[v, .int .i64 (grc (p, k, x))])) ∨ (grc (p, k, x) = 0 ∧ ∃ nb db mb, e = .returned (.tuple #[Pt nb, .int .i64 0]) ∧ NewN w.heap.size w' k x nb db mb))
set_option maxRecDepth 20000 in
set_option maxHeartbeats 2000000 in
theorem grown_any (p : ByteArray) (k : Int) (a : Option Addr) (x : B) (c : Nat) (w : World) (hx : x.length ≤ c) (hc : c ≤ 9223372036854775807) (hd : BsAt w a x) (hk : k = 0 ∨ k = 1 ∨ k = 2) (h0 : k = 0 → x.length ≤ 4194304) :
    Calls Tryz.prog 69 #[.agg #[.string p, .int .i8 k, .slice a x.length c]] w fun e w' => GrownP w p k x e w' := by
  obtain ⟨W, hW⟩ : ∃ W, W = w.alloc (.cells #[.string p, .int .i8 k, .slice a x.length c] 51) := ⟨_, rfl⟩
  have hB : Below w.heap.size w W := by rw [hW]; exact below_al w _
  have AB := aside hB
  have hx0 : W.heap[w.heap.size]? = some (.cells #[.string p, .int .i8 k, .slice a x.length c] 51 (0, 0)) := by rw [hW]; exact heap_alloc_new w _
  have x1 : W.cell? ⟨w.heap.size, 1, none⟩ = some (.int .i8 k) := by rw [cell_of_row W _ 1 _ _ _ hx0]; rfl
  have x2 : W.cell? ⟨w.heap.size, 2, none⟩ = some (.slice a x.length c) := by rw [cell_of_row W _ 2 _ _ _ hx0]; rfl
  have hd2 := hd.below hB
  have hcv := str_all W a x c hd2
  have Ad := aside hd2
  have hlo := hB.size
  clear hx0 hB hd hd2
  go_enter Tryz.func69, Tryz.ntmps69
  rcases hk with rfl | rfl | rfl
  · have AM := aside (memNew_any a x c W (h0 rfl) hx hc Ad.out)
    have hg : grc (p, 0, x) = 0 := rfl
    obtain ⟨n, hn⟩ : ∃ n, n = x.length := ⟨_, rfl⟩
    rw [← hn] at AM hW x2 hcv ⊢
    have AHg := aside hg
    clear hn hg
    go_wp2_with fail
    rw [← hW]
    clear hW
    refine AM.out.mono ?_
    rintro e w1 ⟨hb, rfl, hM, hb1⟩
    have A1 := aside hM
    have A2 := aside hb1
    clear hM hb1
    go_wp2_with fail
    refine (file_new hb w1).mono ?_
    rintro e w2 ⟨nb, fb, rfl, h1, h2, h3, h4⟩
    have A3 := aside h3
    have A4 := aside h4
    clear h3 h4
    go_wp2_with fail
    go_ret2
    have hs1 := A2.out.size
    refine ⟨below_tr (below_tr AB.out A2.out) A4.out, .inr ⟨AHg.out, nb, 0, 0, rfl, .inr (.inr ⟨rfl, by omega, fb, hb, by omega, A3.out, ?_⟩)⟩⟩
    have hM2 := A1.out.below A4.out
    obtain ⟨fb', m, b, lv, L, g1, g2, g3, g4, g5⟩ := hM2
    exact ⟨fb', m, b, lv, L, Nat.le_trans hlo g1, Nat.le_trans hlo g2, Nat.le_trans hlo g3, fun k hk => Nat.le_trans hlo (g4 k hk), g5⟩
  · clear hcv
    obtain ⟨n, hn⟩ : ∃ n, n = x.length := ⟨_, rfl⟩
    rw [← hn] at hW x2 ⊢
    clear hn
    go_wp2_with fail
    rw [← hW]
    clear hW
    refine (dir_new W).mono ?_
    rintro e w1 ⟨nb, db, mb, rfl, h1, h2, h3, h4, h5⟩
    have A4 := aside h4
    have A5 := aside h5
    clear h4 h5
    go_wp2_with fail
    go_ret2
    exact ⟨below_tr AB.out A5.out, .inr ⟨rfl, nb, db, mb, rfl, .inl ⟨rfl, by omega, by omega, by omega, A4.out⟩⟩⟩
  · have hsz := ba_size x
    obtain ⟨n, hn⟩ : ∃ n, n = x.length := ⟨_, rfl⟩
    have AHn := aside hn
    rw [← hn] at hW x2 hcv hsz ⊢
    clear hn
    by_cases z : n = 0
    · have hg : grc (p, 2, x) = 190 := by unfold grc; rw [if_pos rfl, if_pos (by rw [← AHn.out]; exact z)]
      have hx0 : ba x = ⟨#[]⟩ := by
        have : x = [] := List.eq_nil_of_length_eq_zero (by rw [← AHn.out]; exact z)
        rw [this]; rfl
      rw [hx0, hW] at hcv
      have AHg := aside hg
      clear hx0 hg hsz z
      go_wp2_with fail
      rw [← hW]
      clear hW
      refine (link_none W).mono ?_
      rintro e w1 ⟨rfl, rfl⟩
      go_wp2_with fail
      go_ret2
      exact ⟨AB.out, .inl ⟨by rw [AHg.out]; decide, _, by rw [AHg.out]; rfl⟩⟩
    · by_cases z2 : 4096 < n
      · have hg : grc (p, 2, x) = 3 := by unfold grc; rw [if_pos rfl, if_neg (by rw [← AHn.out]; exact z), if_pos (by rw [← AHn.out]; exact z2)]
        have AHg := aside hg
        obtain ⟨s, hs⟩ : ∃ s, s = ba x := ⟨_, rfl⟩
        rw [← hs] at hcv hsz
        rw [hW] at hcv
        have hz : 4096 < s.size := by omega
        clear hg hs hsz z2 z
        go_wp2_with fail
        rw [← hW]
        clear hW
        refine (link_long s W hz).mono ?_
        rintro e w1 ⟨rfl, rfl⟩
        go_wp2_with fail
        go_ret2
        exact ⟨AB.out, .inl ⟨by rw [AHg.out]; decide, _, by rw [AHg.out]; rfl⟩⟩
      · have hg : grc (p, 2, x) = 0 := by unfold grc; rw [if_pos rfl, if_neg (by rw [← AHn.out]; exact z), if_neg (by rw [← AHn.out]; exact z2)]
        have AHg := aside hg
        obtain ⟨s, hs⟩ : ∃ s, s = ba x := ⟨_, rfl⟩
        have AHs := aside hs
        rw [← hs] at hcv hsz
        rw [hW] at hcv
        have hz : s.size ≤ 4096 := by omega
        have hz2 : 0 < s.size := by omega
        clear hg hs hsz z2 z
        go_wp2_with fail
        rw [← hW]
        clear hW
        refine (link_new s W hz hz2).mono ?_
        rintro e w1 ⟨nb, lb, rfl, h1, h2, h3, h4⟩
        have A3 := aside h3
        have A4 := aside h4
        clear h3 h4
        go_wp2_with fail
        go_ret2
        exact ⟨below_tr AB.out A4.out, .inr ⟨AHg.out, nb, 0, 0, rfl, .inr (.inl ⟨rfl, by omega, lb, by omega, AHs.out ▸ A3.out⟩)⟩⟩
end Go.Proofs.YtbnaegoahdcejaaGreatDoor

namespace Go.Proofs.YtbnaegoahdcejaaGreatDoor
open Go.RowKit Go.ChangeMaps Go.Shelf

theorem index_hd (s : B) : Lib.index (47 :: s) [47] = 0 := by simp [Lib.index]
theorem index_tl {c : UInt8} (s : B) (h : c ≠ 47) : Lib.index (c :: s) [47] = if Lib.index s [47] == -1 then -1 else Lib.index s [47] + 1 := by
  have : (List.isPrefixOf [47] (c :: s)) = false := by simp [List.isPrefixOf]; exact fun e => h e.symm
  rw [Lib.index, this]
  rfl
theorem index_in {s : B} (h : 0 < s.count 47) : 0 ≤ Lib.index s [47] := by
  induction s with
  | nil => simp at h
  | cons c s ih =>
    by_cases hc : c = 47
    · subst hc; rw [index_hd]; decide
    · rw [index_tl s hc]
      rw [List.count_cons_of_ne hc] at h
      have := ih h
      have hn : (Lib.index s [47] == -1) = false := beq_eq_false_iff_ne.2 (by omega)
      rw [hn]
      simp only [Bool.false_eq_true, ↓reduceIte]
      omega
theorem splitK_spl (s : B) : Lib.splitK [47] 0 (s.count 47) s = spl s := by
  induction s with
  | nil => rfl
  | cons c s ih =>
    by_cases hc : c = 47
    · subst hc
      rw [List.count_cons_self]
      unfold Lib.splitK
      rw [index_hd]
      simp only [show ((0 : Int) == -1) = false from rfl, Bool.false_eq_true, ↓reduceIte]
      conv => rhs; unfold spl
      rw [if_pos rfl, ← ih]
      rfl
    · rw [List.count_cons_of_ne hc]
      conv => rhs; unfold spl
      rw [if_neg hc, ← ih]
      cases hk : s.count 47 with
      | zero => rfl
      | succ k =>
        have hi := index_in (s := s) (by omega)
        unfold Lib.splitK
        rw [index_tl s hc]
        have hn : (Lib.index s [47] == -1) = false := beq_eq_false_iff_ne.2 (by omega)
        have hn2 : (Lib.index s [47] + 1 == -1) = false := beq_eq_false_iff_ne.2 (by omega)
        rw [hn]
        simp only [Bool.false_eq_true, ↓reduceIte, hn2]
        have e : (Lib.index s [47] + 1).toNat = (Lib.index s [47]).toNat + 1 := by omega
        rw [e]
        simp only [Nat.add_zero, List.take_succ_cons, List.length_cons, List.length_nil]
        rfl
theorem splitB_spl (s : B) : Lib.splitB ⟨#[47]⟩ 0 (s.count 47) (ba s) = (spl s).map ba := by
  have h := Lib.splitB_data ⟨#[47]⟩ 0 (s.count 47) (ba s)
  rw [ba_list] at h
  have h2 : Lib.splitK (⟨#[47]⟩ : ByteArray).data.toList 0 (s.count 47) s = spl s := splitK_spl s
  rw [h2] at h
  rw [← h, List.map_map]
  have : (ba ∘ fun x : ByteArray => x.data.toList) = id := by funext x; exact ba_of x
  rw [this, List.map_id]
/-- Where the shelf looks for the greatest length of a needle. -/
def Mxl (w : World) : Prop := ∃ m : Int, w.cell? ⟨lays146_ren.g 1, 0, none⟩ = some (.int .i64 m)
theorem Mxl.lt {w : World} (h : Mxl w) : lays146_ren.g 1 < w.heap.size := by obtain ⟨m, h⟩ := h; exact World.block_lt_of_cell? w _ h
theorem Mxl.below {w w' : World} (h : Mxl w) {n : Nat} (b : Below n w w') (hn : lays146_ren.g 1 < n) : Mxl w' := by
  obtain ⟨m, h⟩ := h
  exact ⟨m, (World.cell?_of_block (b.block _ hn)).trans h⟩
theorem infoS : (Tryz.prog.info? 9).map (fun i => (i.zero, i.size, i.bytes)) = some (some (.string ByteArray.empty), 1, 16) := by kernel_rfl
theorem split_any (s : B) (w : World) (hM : Mxl w) (hs : s.length ≤ 4096) :
    Calls Tryz.prog 92 #[.string (ba s), .string ⟨#[47]⟩] w fun e w' => e = .returned (.slice (some ⟨w.heap.size, 0, none⟩) (spl s).length (spl s).length) ∧ w' = w.alloc (.cells ((spl s).map fun n => Value.string (ba n)).toArray 9) := by
  obtain ⟨m, hm⟩ := hM
  have h := Any.strings_Split (ρ := lays146_ren) lays146 infoS (ba s) ⟨#[47]⟩ m w (by rw [ba_size]; omega) hm (by decide)
  have hc : Lib.countB (ba s) ⟨#[47]⟩ = s.count 47 := by
    show Lib.count (ba s).data.toList [47] = _
    rw [ba_list]; exact Lib.count_one 47 s
  rw [hc, splitB_spl, List.map_map, ← spl_len] at h
  exact h
/-- What place answers. -/
def pcode (S : List En) (ns : List B) : Int :=
  if (ns.all fun n => nameOk (ba n)) = false then 190 else if (S.any fun e => decide (e.p = ns.dropLast)) = false then 192
  else if (S.any fun e => decide (e.p = ns.dropLast) && decide (e.k = 1)) = false then 193 else if (S.any fun c => decide (c.p = ns)) then 191 else 0
/-- What place tells. -/
def PlaceP (S : List En) (ns : List B) (w : World) (e : Ending) (w' : World) : Prop :=
  Below w.heap.size w w' ∧ ((pcode S ns ≠ 0 ∧ ∃ v u, e = .returned (.tuple #[v, u, .int .i64 (pcode S ns)])) ∨ (pcode S ns = 0 ∧ ∃ d ∈ S, ∃ n, d.k = 1 ∧ ns = d.p ++ [n] ∧ e = .returned (.tuple #[Pt d.nb, .string (ba n), .int .i64 0])))
theorem rnc_name {S : List En} {p : List B} {n : B} : (rnc S p n == 190) = !(nameOk (ba n)) := by
  unfold rnc
  cases h : nameOk (ba n)
  · simp
  · simp only [Bool.true_eq_false, ↓reduceIte, Bool.not_true]
    split <;> rfl
set_option maxRecDepth 20000 in
set_option maxHeartbeats 4000000 in
theorem place_any {lo : Nat} {w : World} {S : List En} (h : Tr lo w S) {r : En} (hr : r ∈ S) (hrp : r.p = []) (hrk : r.k = 1) {tb nn bb : Nat} (ht : w.heap[tb]? = some (.cells #[Pt r.nb, .int .i64 (nn : Int), .int .i64 (bb : Int)] 65 (0, 0))) (s : B) (hM : Mxl w) (hs : s.length ≤ 4096) :
    Calls Tryz.prog 68 #[Pt tb, .string (ba s)] w fun e w' => PlaceP S (spl s) w e w' := by
  have AS := aside (split_any s w hM hs)
  obtain ⟨ns, hns⟩ : ∃ ns, ns = spl s := ⟨_, rfl⟩
  have hne : ns ≠ [] := by rw [hns]; exact spl_ne s
  have hnl : ns.length ≤ 4097 := by
    rw [hns, spl_len]
    have := List.count_le_length (a := (47 : UInt8)) (l := s)
    omega
  obtain ⟨n, hn⟩ : ∃ n, n = ns.length := ⟨_, rfl⟩
  have hn0 : 0 < n := by rw [hn]; exact List.length_pos_iff.2 hne
  have hn1 : n ≤ 4097 := by omega
  rw [← hns, ← hn] at AS
  rw [← hns]
  obtain ⟨W1, hW1⟩ : ∃ W1, W1 = w.alloc (.cells (ns.map fun n => Value.string (ba n)).toArray 9) := ⟨_, rfl⟩
  rw [← hW1] at AS
  have hB : Below w.heap.size w W1 := by rw [hW1]; exact below_al w _
  have hrow : W1.heap[w.heap.size]? = some (.cells (ns.map fun n => Value.string (ba n)).toArray 9 (0, 0)) := by rw [hW1]; exact heap_alloc_new w _
  have hcell : ∀ W, Below W1.heap.size W1 W → ∀ i x, ns[i]? = some x → W.cell? ⟨w.heap.size, i, none⟩ = some (.string (ba x)) := fun W hW i x hx => by
    rw [hW.cell (p := ⟨w.heap.size, i, none⟩) (Array.getElem?_eq_some_iff.1 hrow).1, cell_of_row W1 _ i _ _ _ hrow]
    simp [hx]
  have hroot : ∀ W, Below W1.heap.size W1 W → W.cell? ⟨tb, 0, none⟩ = some (Pt r.nb) := fun W hW => by
    have h1 := (Array.getElem?_eq_some_iff.1 ht).1
    rw [hW.cell (p := ⟨tb, 0, none⟩) (Nat.lt_of_lt_of_le h1 hB.size), hB.cell (p := ⟨tb, 0, none⟩) h1, cell_of_row w tb 0 _ _ _ ht]
    rfl
  have hTr : ∀ W, Below W1.heap.size W1 W → Tr lo W S := fun W hW => (h.below hB).below hW
  have AB := aside hB
  have AC := aside hcell
  have AR := aside hroot
  have AT := aside hTr
  have AN := aside hn
  have AW := aside hrow
  obtain ⟨rb, hrb⟩ : ∃ rb, rb = r.nb := ⟨_, rfl⟩
  have ARb := aside hrb
  clear hB hcell hroot hTr hns hW1 hM h ht hn hnl hrow hrb hs
  go_enter Tryz.func68, Tryz.ntmps68
  go_wp2_with fail
  refine AS.out.mono ?_
  rintro e w1 ⟨rfl, rfl⟩
  clear AS
  go_wp2_with fail
  go_loopg [9, 20] n (fun g _ s20 wx => ∃ i : Nat, i + g = n ∧ s20 = .int .i64 (i : Int) ∧ Below w1.heap.size w1 wx ∧ ∀ j x, j < i → ns[j]? = some x → nameOk (ba x) = true)
  case atStart => exact ⟨0, by omega, rfl, Below.refl _ _, fun j x hj => by omega⟩
  case round =>
    obtain ⟨i, hig, rfl, hbl, hok⟩ := hrel
    have ABl := aside hbl
    have AOk := aside hok
    clear hbl hok
    cases gk with
    | zero =>
      obtain rfl : i = n := by omega
      rename World => V
      have hi : ¬ ((i : Nat) : Int) < (i : Int) := by omega
      have hall : (ns.all fun n => nameOk (ba n)) = true := List.all_eq_true.2 fun x hx => by
        obtain ⟨j, hj, e⟩ := List.getElem_of_mem hx
        exact AOk.out j x (by rw [AN.out]; exact hj) (by rw [List.getElem?_eq_getElem hj, e])
      have AAll := aside hall
      have hc0 : V.cell? ⟨tb, 0, none⟩ = some (Pt rb) := by rw [ARb.out]; exact AR.out V ABl.out
      have hsub : IntKind.i64.wrap ((i : Int) - 1) = ((i - 1 : Nat) : Int) := by rw [wrap_small _ (by omega) (by omega)]; omega
      obtain ⟨m, hm⟩ : ∃ m, m = i - 1 := ⟨_, rfl⟩
      rw [← hm] at hsub
      have hmi : m ≤ i := by omega
      have hmi2 : (m : Int) ≤ (i : Int) := by omega
      have hm1 : m + 1 = i := by omega
      have Am1 := aside hm1
      clear hall hm hm1
      go_wp2_with fail
      go_loopg [11, 13, 14, 15, 43] m (fun g s11 _ _ _ s43 wx => ∃ (j : Nat) (d : En), j + g = m ∧ s43 = .int .i64 (j : Int) ∧ wx = V ∧ d ∈ S ∧ d.p = ns.take j ∧ s11 = Pt d.nb)
      case atStart => exact ⟨0, r, by omega, rfl, rfl, hr, by rw [hrp]; rfl, by rw [ARb.out]⟩
      case round =>
        obtain ⟨j, d, hjg, rfl, rfl, hd, hdp, rfl⟩ := hrel
        have hTw := AT.out wr ABl.out
        cases gk with
        | zero =>
          obtain rfl : j = m := by omega
          have hj : ¬ ((j : Nat) : Int) < (j : Int) := by omega
          have hdl : ns.dropLast = d.p := by rw [hdp, List.dropLast_eq_take, ← AN.out, ← Am1.out]; rfl
          have hex : (S.any fun e => decide (e.p = ns.dropLast)) = true := List.any_eq_true.2 ⟨d, hd, by simp [hdl]⟩
          have AK := aside (hTw.kind hd)
          obtain ⟨K, hK⟩ : ∃ K : Int, K = (d.k : Int) := ⟨_, rfl⟩
          rw [← hK] at AK
          have AHK := aside hK
          have Ahd := aside hd
          have Adl := aside hdl
          have Aex := aside hex
          have ATw := aside hTw
          obtain ⟨nb, hnb⟩ : ∃ nb, nb = d.nb := ⟨_, rfl⟩
          have AHn := aside hnb
          rw [← hnb] at AK
          rw [← hnb]
          clear hK hd hdp hdl hex hTw hnb
          go_wp2_with fail
          refine AK.out.mono ?_
          rintro e w2 ⟨rfl, rfl⟩
          by_cases hk1 : d.k = 1
          · obtain rfl : K = 1 := by rw [AHK.out, hk1]; rfl
            have hdir : (S.any fun e => decide (e.p = ns.dropLast) && decide (e.k = 1)) = true := List.any_eq_true.2 ⟨d, Ahd.out, by simp [Adl.out, hk1]⟩
            obtain ⟨x, hx⟩ : ∃ x, ns[j]? = some x := ⟨_, List.getElem?_eq_getElem (by have := Am1.out; have := AN.out; omega)⟩
            have hsp : ns = d.p ++ [x] := by
              rw [← Adl.out]
              have h1 : ns.getLast? = some x := by rw [List.getLast?_eq_getElem?, ← AN.out, ← Am1.out]; exact hx
              obtain ⟨l, hl⟩ := List.getLast?_eq_some_iff.1 h1
              rw [hl, List.dropLast_concat]
            have hpc : pcode S ns = if (S.any fun c => decide (c.p = ns)) then 191 else 0 := by
              unfold pcode
              rw [if_neg (by rw [AAll.out]; decide), if_neg (by rw [Aex.out]; decide), if_neg (by rw [hdir]; decide)]
            have hrn : rnc S d.p x = pcode S ns := by
              rw [hpc]
              unfold rnc
              have : nameOk (ba x) = true := AOk.out j x (by have := Am1.out; omega) hx
              rw [if_neg (by rw [this]; decide), ← hsp]
            have ARn := aside (fun dd os => rn_any (ATw.out.below (below_ext w2 dd os)) Ahd.out hk1 x)
            rw [hrn, ← AHn.out] at ARn
            have hc1 := fun dd os => ext_cell (AC.out w2 ABl.out j x hx) dd os
            obtain ⟨X, hX⟩ : ∃ X, X = ba x := ⟨_, rfl⟩
            rw [← hX] at hc1 ARn
            have AX := aside hX
            have Asp := aside hsp
            obtain ⟨pc, hpcd⟩ : ∃ pc, pc = pcode S ns := ⟨_, rfl⟩
            rw [← hpcd] at ARn
            have APc := aside hpcd
            have hji : (j : Int) < (i : Int) := by have := Am1.out; omega
            have hj0 : (0 : Int) ≤ (j : Int) := by omega
            clear hdir hX hx hsp hpc hrn hpcd AC
            go_wp2_with fail
            refine region_ext (by kernel_rfl) (by kernel_rfl) ?_
            repeat (any_goals (first | go_big_quiet_step ((with_reducible exact calls_ext (ARn.out _ _))) | quiet_step ((with_reducible exact calls_ext (ARn.out _ _)))))
            refine wpQuiet_nil ?_
            intro w5 hw5
            go_wp2_with fail
            go_ret3
            refine ⟨below_tr (below_tr AB.out ABl.out) hw5, ?_⟩
            by_cases hz : pcode S ns = 0
            · exact .inr ⟨hz, d, Ahd.out, x, hk1, Asp.out, by rw [← AHn.out, ← AX.out, ← hz, ← APc.out]; rfl⟩
            · exact .inl ⟨hz, _, _, by rw [← APc.out]; rfl⟩
          · have hK1 : (K == 1) = false := by rw [AHK.out]; exact beq_eq_false_iff_ne.2 (by omega)
            have hpc : pcode S ns = 193 := by
              unfold pcode
              rw [if_neg (by rw [AAll.out]; decide), if_neg (by rw [Aex.out]; decide), if_pos]
              refine List.any_eq_false.2 fun e he hc => ?_
              simp only [Bool.and_eq_true, decide_eq_true_eq] at hc
              exact hk1 (one_p ATw.out.one he Ahd.out (hc.1.trans Adl.out) ▸ hc.2)
            have AP := aside hpc
            clear hpc
            go_wp2_with fail
            go_ret3
            exact ⟨below_tr AB.out ABl.out, .inl ⟨by rw [AP.out]; decide, _, _, by rw [AP.out]; rfl⟩⟩
        | succ gk =>
          have hj : ((j : Nat) : Int) < (m : Int) := by omega
          obtain ⟨x, hx⟩ : ∃ x, ns[j]? = some x := ⟨_, List.getElem?_eq_getElem (by rw [← AN.out]; omega)⟩
          have hc1 := AC.out _ ABl.out j x hx
          have htk : ns.take (j + 1) = d.p ++ [x] := by rw [List.take_add_one, hx, hdp]; rfl
          have hwj : IntKind.i64.wrap ((j : Int) + 1) = ((j + 1 : Nat) : Int) := by rw [wrap_small _ (by omega) (by omega)]; simp
          by_cases hyes : d.k = 1 ∧ ∃ c ∈ S, c.p = d.p ++ [x]
          · obtain ⟨hk1, c, hc, hcp⟩ := hyes
            have AG := aside (hTw.get_yes hd hk1 hc hcp)
            have Ahc := aside hc
            have Acp : Aside (c.p = ns.take (j + 1)) := by show _; rw [htk]; exact hcp
            obtain ⟨X, hX⟩ : ∃ X, X = ba x := ⟨_, rfl⟩
            obtain ⟨nb, hnb⟩ : ∃ nb, nb = d.nb := ⟨_, rfl⟩
            obtain ⟨cn, hcn⟩ : ∃ cn, cn = c.nb := ⟨_, rfl⟩
            rw [← hX] at AG hc1
            rw [← hnb, ← hcn] at AG
            rw [← hnb]
            have Acn := aside hcn
            clear hX hnb hcn hc hcp htk hd hdp hTw hx
            go_wp2_with fail
            refine AG.out.mono ?_
            rintro e w2 ⟨rfl, rfl⟩
            go_wp2_with fail
            go_roundg gk
            case measure => omega
            case rel => exact ⟨j + 1, c, by omega, by first | rfl | simp, rfl, Ahc.out, Acp.out, by rw [Acn.out]⟩
          · have hpc : pcode S ns = 192 := by
              unfold pcode
              rw [if_neg (by rw [AAll.out]; decide), if_pos]
              refine List.any_eq_false.2 fun e he hc => hyes ?_
              simp only [decide_eq_true_eq] at hc
              have hel : e.p.length = m := by rw [hc, List.length_dropLast, ← AN.out, ← Am1.out]; rfl
              have hpre : ns.take (j + 1) <+: e.p := by
                rw [hc, List.dropLast_eq_take, ← AN.out, ← Am1.out, Nat.add_sub_cancel]
                exact List.take_prefix_take_left (by omega)
              obtain ⟨c, hc2, hcp, -⟩ := hTw.anc (p := ns.take (j + 1)) (m - (j + 1)) e he (by have := Am1.out; have := AN.out; rw [hel, List.length_take]; omega) hpre
              have hpre2 : ns.take j <+: e.p := by
                rw [hc, List.dropLast_eq_take, ← AN.out, ← Am1.out, Nat.add_sub_cancel]
                exact List.take_prefix_take_left (by omega)
              obtain ⟨c2, hc22, hcp2, hck2⟩ := hTw.anc (p := ns.take j) (m - j) e he (by have := Am1.out; have := AN.out; rw [hel, List.length_take]; omega) hpre2
              have : c2 = d := one_p hTw.one hc22 hd (by rw [hcp2, hdp])
              exact ⟨this ▸ hck2 (by omega), c, hc2, by rw [hcp, htk]⟩
            obtain ⟨q, hq, AG⟩ : ∃ q : Int, q ≠ 0 ∧ Aside (Calls Tryz.prog 28 #[Pt d.nb, .string (ba x)] wr fun r w' => r = .returned (.tuple #[.pointer none, .int .i64 q]) ∧ w' = wr) := by
              by_cases hk1 : d.k = 1
              · exact ⟨192, by decide, hTw.get_no hd hk1 (fun c hc hcp => hyes ⟨hk1, c, hc, hcp⟩)⟩
              · exact ⟨193, by decide, hTw.get_leaf hd hk1 _⟩
            have hq0 : (q == 0) = false := beq_eq_false_iff_ne.2 hq
            have AP := aside hpc
            obtain ⟨X, hX⟩ : ∃ X, X = ba x := ⟨_, rfl⟩
            obtain ⟨nb, hnb⟩ : ∃ nb, nb = d.nb := ⟨_, rfl⟩
            rw [← hX] at AG hc1
            rw [← hnb] at AG
            rw [← hnb]
            clear hX hnb htk hd hdp hTw hx hpc hyes
            go_wp2_with fail
            refine AG.out.mono ?_
            rintro e w2 ⟨rfl, rfl⟩
            go_wp2_with fail
            go_ret3
            exact ⟨below_tr AB.out ABl.out, .inl ⟨by rw [AP.out]; decide, _, _, by rw [AP.out]; rfl⟩⟩
    | succ gk =>
      have hi : (i : Int) < (n : Int) := by omega
      obtain ⟨x, hx⟩ : ∃ x, ns[i]? = some x := ⟨_, List.getElem?_eq_getElem (by rw [← AN.out]; omega)⟩
      have hc1 := AC.out _ ABl.out i x hx
      have hc0 : wr.cell? ⟨tb, 0, none⟩ = some (Pt rb) := by rw [ARb.out]; exact AR.out wr ABl.out
      have ARn := aside (rn_any (AT.out wr ABl.out) hr hrk x)
      have hrn := rnc_name (S := S) (p := r.p) (n := x)
      obtain ⟨q, hq⟩ : ∃ q, q = rnc S r.p x := ⟨_, rfl⟩
      rw [← hq] at hrn ARn
      have hwi : IntKind.i64.wrap ((i : Int) + 1) = ((i + 1 : Nat) : Int) := by rw [wrap_small _ (by omega) (by omega)]; simp
      have Ax := aside hx
      obtain ⟨X, hX⟩ : ∃ X, X = ba x := ⟨_, rfl⟩
      rw [← hX] at ARn hc1
      rw [← ARb.out] at ARn
      have AX := aside hX
      clear hq hx hX
      cases hok : nameOk (ba x)
      · rw [hok] at hrn
        have hpc : pcode S ns = 190 := by
          unfold pcode
          rw [if_pos]
          exact List.all_eq_false.2 ⟨x, List.mem_of_getElem? Ax.out, by rw [hok]; decide⟩
        have AP := aside hpc
        simp only [Bool.not_false] at hrn
        clear hpc hok
        go_wp2_with fail
        refine ARn.out.mono ?_
        rintro e w2 ⟨rfl, hb2⟩
        have AB2 := aside hb2
        clear hb2
        go_wp2_with fail
        go_ret3
        exact ⟨below_tr (below_tr AB.out ABl.out) AB2.out, .inl ⟨by rw [AP.out]; decide, _, _, by rw [AP.out]; rfl⟩⟩
      · rw [hok] at hrn
        have AO := aside hok
        simp only [Bool.not_true] at hrn
        clear hok
        go_wp2_with fail
        refine ARn.out.mono ?_
        rintro e w2 ⟨rfl, hb2⟩
        have AB2 := aside hb2
        clear hb2
        go_wp2_with fail
        go_roundg gk
        case measure => omega
        case rel =>
          refine ⟨i + 1, by omega, by first | rfl | simp, below_tr ABl.out AB2.out, fun j y hj hy => ?_⟩
          by_cases hji : j = i
          · subst hji
            rw [Ax.out] at hy
            injection hy with hy
            rw [← hy]; exact AO.out
          · exact AOk.out j y (by omega) hy
end Go.Proofs.YtbnaegoahdcejaaGreatDoor

namespace Go.Proofs.YtbnaegoahdcejaaGreatDoor
open Go.RowKit Go.ChangeMaps

theorem NewN.ch {lo : Nat} {P : Obj → Prop} {W W' : World} {k : Int} {x : B} {nb db mb : Nat} (h : NewN lo W k x nb db mb) (c : Ch 0 P W W') (hP : Saf P) (hD : ∀ cs f, ¬ P (.cells cs 95 f)) (hM : ∀ es c, ¬ P (.map es c)) : NewN lo W' k x nb db mb := by
  rcases h with ⟨h1, h2, h3, h4, h5⟩ | ⟨h1, h2, lb, h3, h4⟩ | ⟨h1, h2, fb, hb, h3, h4, h5⟩
  · obtain ⟨es, cl, m1, m2⟩ := h5.map
    exact .inl ⟨h1, h2, h3, h4, h5.nod.ch c (Nat.zero_le _) hP, c.keep (Nat.zero_le _) h5.dir (hD _ _), es, cl, c.keep (Nat.zero_le _) m1 (hM _ _), m2⟩
  · exact .inr (.inl ⟨h1, h2, lb, h3, h4.nod.ch c (Nat.zero_le _) hP, c.keep (Nat.zero_le _) h4.lnk (hP _ (by simp [LT]) _ _)⟩)
  · exact .inr (.inr ⟨h1, h2, fb, hb, h3, ⟨h4.nod.ch c (Nat.zero_le _) hP, c.keep (Nat.zero_le _) h4.fil (hP _ (by simp [LT]) _ _)⟩, h5.ch (c.lo (Nat.zero_le _)) hP⟩)
theorem Tr.ndlt {lo : Nat} {w : World} {S : List En} (h : Tr lo w S) {c : En} (hc : c ∈ S) : c.nb < w.heap.size := by
  obtain ⟨t, k, h1⟩ := h.nd hc
  exact h1.lt
/-- One entry more, by what Add has left. -/
theorem Tr.put {lo : Nat} {U W' : World} {S : List En} (h : Tr lo U S) {d e : En} {n : B} {up : Value} {L : List KV} (hd : d ∈ S) (hk : d.k = 1) (he : e.p = d.p ++ [n]) (hn : nameOk (ba n) = true) (hdep : e.p.length ≤ 64) (hfew : S.length + 1 ≤ 100000)
    (hnew : ∀ c ∈ S, c.p ≠ e.p) (hnb : ∀ c ∈ S, c.nb ≠ e.nb) (hdb : e.k = 1 → ∀ c ∈ S, c.k = 1 → c.db ≠ e.db ∧ c.mb ≠ e.mb) (hD : Dr U d.nb d.db d.mb up L) (hK : Kids S d.p L) (hU : UpOf S d up) (hD' : Dr W' d.nb d.db d.mb up (L ++ [(ba n, Pt e.nb)]))
    (u : Upd (fun k => k = d.mb ∨ (e.k = 1 ∧ k = e.db)) U W') (hDe : e.k = 1 → (∃ cs, U.heap[e.db]? = some (.cells cs 95 (0, 0))) ∧ lo ≤ e.nb ∧ lo ≤ e.db ∧ lo ≤ e.mb ∧ e.x = [] ∧ Dr W' e.nb e.db e.mb (Pt d.db) []) (hL : e.k ≠ 1 → Lf lo W' e) : Tr lo W' (S ++ [e]) := by
  have c : Ch 0 Tob U W' := Ch.of_upd u (fun k _ _ e1 => by
    rcases e1 with rfl | ⟨h1, rfl⟩
    · obtain ⟨es, cl, m1, -⟩ := hD.map
      obtain ⟨es2, cl2, m2, -⟩ := hD'.map
      exact ⟨_, _, m1, m2, .inl ⟨_, _, rfl⟩, .inl ⟨_, _, rfl⟩⟩
    · obtain ⟨⟨cs, m1⟩, -, -, -, -, m2⟩ := hDe h1
      exact ⟨_, _, m1, m2.dir, .inr ⟨_, _, _, by simp, rfl⟩, .inr ⟨_, _, _, by simp, rfl⟩⟩)
  refine h.add hd hk he hn hdep hfew hnew hnb hdb hL (fun h1 => (hDe h1).2) ⟨up, L, hK, hU, hD'⟩ (fun x hx xk hxd up' L' hDx => ?_) (fun x hx xk => (h.lef x hx xk).ch (c.lo (Nat.zero_le _)) saf_tob)
  obtain ⟨es, cl, m1, -⟩ := hD.map
  have hmb : ∀ cs T f, U.heap[d.mb]? ≠ some (.cells cs T f) := fun cs T f e1 => by rw [m1] at e1; cases e1
  refine hDx.upd u ?_ ?_ ?_
  · rintro (e1 | ⟨h1, e1⟩)
    · have := hDx.nod
      unfold Nd at this
      rw [e1] at this
      exact hmb _ _ _ this
    · obtain ⟨⟨cs, m2⟩, -⟩ := hDe h1
      have := hDx.nod
      unfold Nd at this
      rw [e1, m2] at this
      injection this with this
      injection this with _ this _
      exact absurd this (by decide)
  · rintro (e1 | ⟨h1, e1⟩)
    · exact hmb _ _ _ (e1 ▸ hDx.dir)
    · exact (hdb h1 x hx xk).1 e1
  · rintro (e1 | ⟨h1, e1⟩)
    · exact hxd (h.dbs x hx d hd xk hk (.inr e1))
    · obtain ⟨⟨cs, m2⟩, -⟩ := hDe h1
      obtain ⟨es3, cl3, m3, -⟩ := hDx.map
      rw [e1, m2] at m3
      cases m3
def byt (S : List En) : Nat := (S.map used).sum
/-- What put answers. -/
def mcode (S : List En) (i : It) : Int :=
  if rfc (byt S) i ≠ 0 then rfc (byt S) i else if pcode S (spl i.1.data.toList) ≠ 0 then pcode S (spl i.1.data.toList) else if S.length = 4097 then 4 else grc i
/-- A growing tree: w0 the world at the beginning, tb its block, r its root. -/
structure Gw (w0 W : World) (tb : Nat) (r : En) (S : List En) : Prop where
  bel : Below w0.heap.size w0 W
  tr : Tr w0.heap.size W S
  tlo : w0.heap.size ≤ tb
  rin : r ∈ S
  rp : r.p = []
  rk : r.k = 1
  cel : W.heap[tb]? = some (.cells #[Pt r.nb, .int .i64 ((S.length - 1 : Nat) : Int), .int .i64 (byt S : Int)] 65 (0, 0))
  bok : byt S ≤ 4194304
  few : S.length ≤ 4097
theorem Gw.below {w0 W W' : World} {tb : Nat} {r : En} {S : List En} (h : Gw w0 W tb r S) (b : Below W.heap.size W W') : Gw w0 W' tb r S :=
  ⟨h.bel.trans (b.mono h.bel.size), h.tr.below b, h.tlo, h.rin, h.rp, h.rk, (b.block _ (Array.getElem?_eq_some_iff.1 h.cel).1).trans h.cel, h.bok, h.few⟩
theorem byt_app (S : List En) (e : En) : byt (S ++ [e]) = byt S + used e := by simp [byt]
abbrev GP : Obj → Prop := Ty [65]
theorem saf_GP : Saf GP := fun T hT cs f => Ty.no (by
  simp only [LT, List.mem_cons, List.not_mem_nil, or_false] at hT
  rcases hT with rfl | rfl | rfl | rfl | rfl | rfl | rfl | rfl | rfl <;> decide) cs f
/-- The cells of a growing tree are written. -/
theorem set_GP {W : World} {tb i : Nat} {cs : Array Value} {v : Value} (h : W.heap[tb]? = some (.cells cs 65 (0, 0))) : Ch 0 GP W (W.setCell ⟨tb, i, none⟩ v) ∧ Upd (fun k => k = tb) W (W.setCell ⟨tb, i, none⟩ v) ∧ (W.setCell ⟨tb, i, none⟩ v).heap[tb]? = some (.cells (cs.setIfInBounds i v) 65 (0, 0)) := by
  have u : Upd (fun k => k = tb) W (W.setCell ⟨tb, i, none⟩ v) := Upd.setCell (F := fun k => k = tb) (p := ⟨tb, i, none⟩) rfl _
  have hs := set_same (i := i) (v := v) h
  exact ⟨Ch.of_upd u (fun k _ _ e => by subst e; exact ⟨_, _, h, hs, ⟨_, _, _, by simp, rfl⟩, ⟨_, _, _, by simp, rfl⟩⟩), u, hs⟩
/-- An item as an entry. -/
def enOf (i : It) (nb db mb : Nat) : En := ⟨spl i.1.data.toList, i.2.1.toNat, i.2.2, nb, db, mb⟩
/-- Add of a new node. -/
theorem Tr.adds {lo lo1 : Nat} {U W0 : World} {S : List En} (h : Tr lo U S) {d : En} {n : B} {i : It} {nb db mb : Nat} (hd : d ∈ S) (hk : d.k = 1) (he : spl i.1.data.toList = d.p ++ [n]) (hall : ∀ m ∈ spl i.1.data.toList, nameOk (ba m) = true) (hdep : (spl i.1.data.toList).length ≤ 64) (hfew : S.length ≤ 4096)
    (hnew : ∀ c ∈ S, c.p ≠ spl i.1.data.toList) (hN : NewN lo1 U i.2.1 i.2.2 nb db mb) (hT0 : Tr lo W0 S) (hW0 : W0.heap.size ≤ lo1) (hlo : lo ≤ lo1) (hx : i.2.2.length ≤ 4194304) (hx1 : i.2.1 = 1 → i.2.2 = []) :
    Calls Tryz.prog 47 #[Pt d.nb, .string (ba n), Pt nb] U fun e W' => e = .returned (.int .i64 0) ∧ Tr lo W' (S ++ [enOf i nb db mb]) ∧ Ch 0 Tob U W' ∧ Upd (fun k => lo ≤ k) U W' := by
  obtain ⟨up, L, l, h1, h2, h3, h4, h5, h6, -⟩ := h.way _ d rfl hd hk
  have hkl := h.kidlen h1 h2
  have hn : nameOk (ba n) = true := hall n (by rw [he]; simp)
  have hlk : lk L (ba n) = none := by
    cases e1 : lk L (ba n) with
    | none => rfl
    | some v => obtain ⟨c, hc, hcp, -⟩ := (h2 n v).1 e1; exact absurd (hcp.trans he.symm) (hnew c hc)
  have hll : L.length < 4096 := by
    rw [hkl.1]
    obtain ⟨r, hr, hrp, -⟩ := h.root
    have : (kidU S d.p).length < S.length := by
      unfold kidU
      rw [List.length_filter_lt_length_iff_exists]
      exact ⟨r, hr, by simp [hrp]⟩
    omega
  have hdl : d.p.length + 1 ≤ 64 := by rw [he] at hdep; simpa using hdep
  have hnbs : ∀ c ∈ S, c.nb ≠ nb := fun c hc e1 => by
    have := hT0.ndlt hc
    rcases hN with ⟨-, g, -⟩ | ⟨-, g, -⟩ | ⟨-, g, -⟩ <;> omega
  have hr0 : ∀ x, xcode x (d.db :: l) 0 = tcode l.length 0 → rcode (ba n) L x (d.db :: l) 0 = 0 := fun x hxc => by
    unfold rcode
    rw [if_neg (by rw [hn]; decide), if_neg (by rw [hlk]; decide), if_neg (by omega), hxc]
    unfold tcode
    rw [if_neg (by omega)]
  have hlo1 := (h.dir d hd hk).2.2.1
  rcases hN with ⟨g0, g1, g2, g3, g4⟩ | ⟨g0, g1, lb, g2, g3⟩ | ⟨g0, g1, fb, hb, g2, g3, g4⟩
  · have hdbs : ∀ c ∈ S, c.k = 1 → c.db ≠ db ∧ c.mb ≠ mb := fun c hc ck => by
      obtain ⟨-, -, -, -, up', L', k5, -⟩ := hT0.dir c hc ck
      have := k5.ld
      have := k5.lm
      exact ⟨by omega, by omega⟩
    have hdin : db ∉ d.db :: l := fun hm => by
      rcases List.mem_cons.1 hm with e1 | hm
      · exact (hdbs d hd hk).1 e1.symm
      · obtain ⟨c, hc, ck, e1, -⟩ := h6 db hm
        exact (hdbs c hc ck).1 e1.symm
    refine (add_dir d.nb d.db d.mb up L l (ba n) nb db mb [] 0 U h1 h4 (by omega) g4 (ht_dir nb db mb _ [] (fun _ => 0) U g4 (fun p hp => by simp at hp)) (by omega) (by omega) (fun e1 => (hdbs d hd hk).2 e1.symm) (hr0 _ (by unfold xcode; simp only; rw [if_neg hdin]; rfl))).mono ?_
    rintro e W' ⟨rfl, k1, k2, k3⟩
    refine ⟨rfl, h.put (e := enOf i nb db mb) hd hk he hn hdep (by omega) hnew hnbs (fun _ => hdbs) h1 h2 h3 k1 (k3.mono fun j _ hj => hj.imp id (fun e1 => ⟨by simp [enOf, g0], e1⟩)) (fun _ => ⟨⟨_, g4.dir⟩, Nat.le_trans hlo g1, Nat.le_trans hlo g2, Nat.le_trans hlo g3, hx1 g0, k2⟩) (fun hne => absurd (by simp [enOf, g0]) hne), ?_, ?_⟩
    · refine Ch.of_upd k3 (fun j _ _ e1 => ?_)
      rcases e1 with rfl | rfl
      · obtain ⟨es, cl, m1, -⟩ := h1.map
        obtain ⟨es2, cl2, m2, -⟩ := k1.map
        exact ⟨_, _, m1, m2, .inl ⟨_, _, rfl⟩, .inl ⟨_, _, rfl⟩⟩
      · exact ⟨_, _, g4.dir, k2.dir, .inr ⟨_, _, _, by simp, rfl⟩, .inr ⟨_, _, _, by simp, rfl⟩⟩
    · exact k3.mono fun j _ hj => by
        rcases hj with rfl | rfl
        · exact hlo1
        · exact Nat.le_trans hlo g2
  · refine (add_other d.nb d.db d.mb up L l (ba n) nb lb 110 U h1 h4 (by omega) g3.nod (.inr (.inr (.inr rfl))) (by omega) (hr0 none rfl)).mono ?_
    rintro e W' ⟨rfl, k1, k3⟩
    have c : Ch 0 Tob U W' := Ch.of_upd k3 (fun j _ _ e1 => by
      subst e1
      obtain ⟨es, cl, m1, -⟩ := h1.map
      obtain ⟨es2, cl2, m2, -⟩ := k1.map
      exact ⟨_, _, m1, m2, .inl ⟨_, _, rfl⟩, .inl ⟨_, _, rfl⟩⟩)
    have hkn : (enOf i nb db mb).k ≠ 1 := by simp [enOf, g0]
    refine ⟨rfl, h.put (e := enOf i nb db mb) hd hk he hn hdep (by omega) hnew hnbs (fun hne => absurd hne hkn) h1 h2 h3 k1 (k3.mono fun j _ hj => .inl hj) (fun hne => absurd hne hkn) (fun _ => ⟨Nat.le_trans hlo g1, hx, .inr (.inl ⟨by simp [enOf, g0], lb, Nat.le_trans hlo g2, g3.nod.ch c (Nat.zero_le _) saf_tob, c.keep (Nat.zero_le _) g3.lnk (saf_tob _ (by simp [LT]) _ _)⟩)⟩), c, k3.mono fun j _ hj => by subst hj; exact hlo1⟩
  · refine (add_other d.nb d.db d.mb up L l (ba n) nb fb 109 U h1 h4 (by omega) g3.nod (.inl rfl) (by omega) (hr0 none rfl)).mono ?_
    rintro e W' ⟨rfl, k1, k3⟩
    have c : Ch 0 Tob U W' := Ch.of_upd k3 (fun j _ _ e1 => by
      subst e1
      obtain ⟨es, cl, m1, -⟩ := h1.map
      obtain ⟨es2, cl2, m2, -⟩ := k1.map
      exact ⟨_, _, m1, m2, .inl ⟨_, _, rfl⟩, .inl ⟨_, _, rfl⟩⟩)
    have hkn : (enOf i nb db mb).k ≠ 1 := by simp [enOf, g0]
    have hM : Mf lo W' hb i.2.2 := by
      have := g4.ch (c.lo (Nat.zero_le _)) saf_tob
      obtain ⟨fb', m, b, lv, L, q1, q2, q3, q4, q5⟩ := this
      exact ⟨fb', m, b, lv, L, Nat.le_trans hlo q1, Nat.le_trans hlo q2, Nat.le_trans hlo q3, fun k hk => Nat.le_trans hlo (q4 k hk), q5⟩
    refine ⟨rfl, h.put (e := enOf i nb db mb) hd hk he hn hdep (by omega) hnew hnbs (fun hne => absurd hne hkn) h1 h2 h3 k1 (k3.mono fun j _ hj => .inl hj) (fun hne => absurd hne hkn) (fun _ => ⟨Nat.le_trans hlo g1, hx, .inl ⟨by simp [enOf, g0], fb, hb, Nat.le_trans hlo g2, ⟨g3.nod.ch c (Nat.zero_le _) saf_tob, c.keep (Nat.zero_le _) g3.fil (saf_tob _ (by simp [LT]) _ _)⟩, hM⟩⟩), c, k3.mono fun j _ hj => by subst hj; exact hlo1⟩
end Go.Proofs.YtbnaegoahdcejaaGreatDoor

namespace Go.Proofs.YtbnaegoahdcejaaGreatDoor
open Go.RowKit Go.ChangeMaps

/-- What put tells. -/
def PutP (w0 : World) (tb : Nat) (r : En) (S : List En) (i : It) (e : Ending) (w' : World) : Prop :=
  e = .returned (.int .i64 (mcode S i)) ∧ ((mcode S i ≠ 0 ∧ Below w0.heap.size w0 w') ∨ (mcode S i = 0 ∧ ∃ nb db mb, Gw w0 w' tb r (S ++ [enOf i nb db mb])))
theorem pcode_zero {S : List En} {ns : List B} (h : pcode S ns = 0) : (∀ m ∈ ns, nameOk (ba m) = true) ∧ ∀ c ∈ S, c.p ≠ ns := by
  unfold pcode at h
  by_cases h1 : (ns.all fun n => nameOk (ba n)) = false
  · rw [if_pos h1] at h; cases h
  · rw [if_neg h1] at h
    by_cases h2 : (S.any fun e => decide (e.p = ns.dropLast)) = false
    · rw [if_pos h2] at h; cases h
    · rw [if_neg h2] at h
      by_cases h3 : (S.any fun e => decide (e.p = ns.dropLast) && decide (e.k = 1)) = false
      · rw [if_pos h3] at h; cases h
      · rw [if_neg h3] at h
        by_cases h4 : (S.any fun c => decide (c.p = ns)) = true
        · rw [if_pos h4] at h; cases h
        · exact ⟨fun m hm => List.all_eq_true.1 (by simpa using h1) m hm, fun c hc e => h4 (List.any_eq_true.2 ⟨c, hc, by simp [e]⟩)⟩
theorem rfc_zero {b : Nat} {i : It} (h : rfc b i = 0) : i.1.size ≤ 4096 ∧ i.1.data.toList.count 47 < 64 ∧ (i.2.1 = 0 ∨ i.2.1 = 1 ∨ i.2.1 = 2) ∧ (i.2.1 = 0 → i.2.2.length ≤ 4194304 - b) ∧ (i.2.1 = 1 → i.2.2 = []) := by
  unfold rfc at h
  by_cases h1 : 4096 < i.1.size ∨ 64 ≤ i.1.data.toList.count 47
  · rw [if_pos h1] at h; cases h
  · rw [if_neg h1] at h
    refine ⟨by omega, by omega, ?_⟩
    by_cases k0 : i.2.1 = 0
    · rw [if_pos k0] at h
      refine ⟨.inl k0, fun _ => ?_, fun h1 => by omega⟩
      by_cases h2 : 4194304 - b < i.2.2.length
      · rw [if_pos h2] at h; cases h
      · omega
    · rw [if_neg k0] at h
      by_cases k1 : i.2.1 = 1
      · rw [if_pos k1] at h
        refine ⟨.inr (.inl k1), fun h0 => absurd h0 k0, fun _ => ?_⟩
        by_cases h2 : 0 < i.2.2.length
        · rw [if_pos h2] at h; cases h
        · exact List.eq_nil_of_length_eq_zero (by omega)
      · rw [if_neg k1] at h
        by_cases k2 : i.2.1 = 2
        · exact ⟨.inr (.inr k2), fun h0 => absurd h0 k0, fun h0 => absurd h0 k1⟩
        · rw [if_neg k2] at h; cases h
set_option maxRecDepth 20000 in
set_option maxHeartbeats 4000000 in
theorem put_any {w0 W : World} {tb : Nat} {r : En} {S : List En} (h : Gw w0 W tb r S) (hM : Mxl w0) (p : ByteArray) (k : Int) (a : Option Addr) (x : B) (c : Nat) (hx : x.length ≤ c) (hc : c ≤ 9223372036854775807) (hd : BsAt W a x) :
    Calls Tryz.prog 32 #[Pt tb, .agg #[.string p, .int .i8 k, .slice a x.length c]] W fun e w' => PutP w0 tb r S (p, k, x) e w' := by
  obtain ⟨W1, hW1⟩ : ∃ W1, W1 = W.alloc (.cells #[.string p, .int .i8 k, .slice a x.length c] 51) := ⟨_, rfl⟩
  have hB1 : Below W.heap.size W W1 := by rw [hW1]; exact below_al W _
  have hbx : W1.heap[W.heap.size]? = some (.cells #[.string p, .int .i8 k, .slice a x.length c] 51 (0, 0)) := by rw [hW1]; exact heap_alloc_new W _
  have hG1 := h.below hB1
  have hbC : ∀ V, Below W1.heap.size W1 V → V.cell? ⟨W.heap.size, 0, none⟩ = some (.string p) ∧ V.cell? ⟨W.heap.size, 1, none⟩ = some (.int .i8 k) ∧ V.cell? ⟨W.heap.size, 2, none⟩ = some (.slice a x.length c) := fun V hV => by
    have hx := (hV.block _ (Array.getElem?_eq_some_iff.1 hbx).1).trans hbx
    exact ⟨by rw [cell_of_row V _ 0 _ _ _ hx]; rfl, by rw [cell_of_row V _ 1 _ _ _ hx]; rfl, by rw [cell_of_row V _ 2 _ _ _ hx]; rfl⟩
  obtain ⟨b0, b1, b2⟩ := hbC W1 (Below.refl _ _)
  have AR := aside (refusesT_any tb r.nb (S.length - 1) (byt S) p k a x c W1 hG1.cel h.bok (by omega))
  have AG := aside hG1
  have AC := aside hbC
  have AD : Aside (BsAt W1 a x) := hd.below hB1
  have hW1s : W.heap.size < W1.heap.size := (Array.getElem?_eq_some_iff.1 hbx).1
  have htbs : tb < W.heap.size := (Array.getElem?_eq_some_iff.1 h.cel).1
  obtain ⟨n, hn⟩ : ∃ n, n = x.length := ⟨_, rfl⟩
  have AHn := aside hn
  rw [← hn] at AR b2 hW1 hx ⊢
  obtain ⟨rc, hrc⟩ : ∃ rc, rc = rfc (byt S) (p, k, x) := ⟨_, rfl⟩
  rw [← hrc] at AR
  have AHr := aside hrc
  clear h hB1 hbx hG1 hbC hd hn hrc
  go_enter Tryz.func32, Tryz.ntmps32
  go_wp2_with fail
  rw [← hW1]
  clear hW1
  refine AR.out.mono ?_
  rintro e w2 ⟨rfl, hb2⟩
  have AB2 := aside hb2
  clear hb2 AR b0 b1 b2
  by_cases hr0 : rc = 0
  · subst hr0
    obtain ⟨z1, z2, z3, z4, z5⟩ := rfc_zero AHr.out.symm
    simp only at z1 z2 z3 z4 z5
    obtain ⟨b0, b1, b2⟩ := AC.out w2 AB2.out
    rw [← AHn.out] at b2
    have hG2 := AG.out.below AB2.out
    have hpl := place_any hG2.tr hG2.rin hG2.rp hG2.rk hG2.cel p.data.toList (hM.below hG2.bel hM.lt) (by have := Lib.size_eq p; omega)
    rw [ba_of] at hpl
    have AP := aside hpl
    have AG2 := aside hG2
    obtain ⟨pc, hpc⟩ : ∃ pc, pc = pcode S (spl p.data.toList) := ⟨_, rfl⟩
    have APc := aside hpc
    have Az : Aside (p.data.toList.count 47 < 64) := z2
    have Az4 := aside z4
    have Az5 := aside z5
    clear hG2 hpl hpc z2 z4 z5
    go_wp2_with fail
    refine AP.out.mono ?_
    rintro e w3 ⟨hb3, hP⟩
    have AB3 := aside hb3
    have AB13 : Aside (Below W1.heap.size W1 w3) := below_tr AB2.out AB3.out
    clear AP hb3 b0 b1 b2
    rw [← APc.out] at hP
    rcases hP with ⟨hp0, v, u, rfl⟩ | ⟨hp0, d, hdS, nm, hdk, hsp, rfl⟩
    · have hp1 : (pc == 0) = false := beq_eq_false_iff_ne.2 hp0
      have hmc : mcode S (p, k, x) = pc := by
        unfold mcode
        rw [if_neg (by rw [← AHr.out]; exact fun e => e rfl), if_pos (by rw [← APc.out]; exact hp0), ← APc.out]
      have AM := aside hmc
      clear hmc
      go_wp2_with fail
      go_ret
      exact ⟨by rw [AM.out]; rfl, .inl ⟨by rw [AM.out]; exact hp0, ((AG2.out.below AB3.out)).bel⟩⟩
    · subst hp0
      obtain ⟨hall, hnew⟩ := pcode_zero APc.out.symm
      have hG3 := AG2.out.below AB3.out
      have c1 : w3.cell? ⟨tb, 1, none⟩ = some (.int .i64 ((S.length - 1 : Nat) : Int)) := by rw [cell_of_row w3 tb 1 _ _ _ hG3.cel]; rfl
      obtain ⟨b0, b1, b2⟩ := AC.out w3 AB13.out
      rw [← AHn.out] at b2
      have AG3 := aside hG3
      have AAll := aside hall
      have ANew := aside hnew
      have Asp := aside hsp
      obtain ⟨N, hN⟩ : ∃ N, N = ba nm := ⟨_, rfl⟩
      rw [← hN]
      have AN := aside hN
      obtain ⟨dn, hdn⟩ : ∃ dn, dn = d.nb := ⟨_, rfl⟩
      rw [← hdn]
      have Adn := aside hdn
      have hfw := hG3.few
      have hpos : 0 < S.length := List.length_pos_of_mem hdS
      obtain ⟨sn, hsn⟩ : ∃ sn, sn = S.length - 1 := ⟨_, rfl⟩
      rw [← hsn] at c1
      have Asn := aside hsn
      have hsn2 : sn ≤ 4096 := by omega
      have hsn3 : sn + 1 = S.length := by omega
      have Asn3 := aside hsn3
      clear hG3 hall hnew hsp hN hdn hfw hpos hsn hsn3
      by_cases hf : sn = 4096
      · have hmc : mcode S (p, k, x) = 4 := by
          unfold mcode
          rw [if_neg (by rw [← AHr.out]; exact fun e => e rfl), if_neg (by rw [← APc.out]; exact fun e => e rfl), if_pos (by rw [← Asn3.out]; omega)]
        have AM := aside hmc
        have hf2 : (sn : Int) = 4096 := by omega
        clear hmc
        go_wp2_with fail
        go_ret
        exact ⟨by rw [AM.out]; rfl, .inl ⟨by rw [AM.out]; decide, AG3.out.bel⟩⟩
      · have hf2 : ((sn : Int) == 4096) = false := beq_eq_false_iff_ne.2 (by omega)
        have hmc : mcode S (p, k, x) = grc (p, k, x) := by
          unfold mcode
          rw [if_neg (by rw [← AHr.out]; exact fun e => e rfl), if_neg (by rw [← APc.out]; exact fun e => e rfl), if_neg (by rw [← Asn3.out]; omega)]
        have AM := aside hmc
        have hgr := grown_any p k a x c w3 (by rw [← AHn.out]; exact hx) hc (AD.out.below AB13.out) z3 (fun h0 => by have := Az4.out h0; omega)
        rw [← AHn.out] at hgr
        have AGr := aside hgr
        clear hgr hmc
        go_wp2_with fail
        refine AGr.out.mono ?_
        rintro e w4 ⟨hb4, hN4⟩
        have AB4 := aside hb4
        clear hb4 AGr b0 b1 b2
        rcases hN4 with ⟨hg0, v, rfl⟩ | ⟨hg0, nb, db, mb, rfl, hN4⟩
        · obtain ⟨gc, hgc⟩ : ∃ gc, gc = grc (p, k, x) := ⟨_, rfl⟩
          rw [← hgc] at hg0
          rw [← hgc]
          have Agc := aside hgc
          have hg1 : (gc == 0) = false := beq_eq_false_iff_ne.2 hg0
          clear hgc
          go_wp2_with fail
          go_ret
          exact ⟨by rw [AM.out, ← Agc.out]; rfl, .inl ⟨by rw [AM.out, ← Agc.out]; exact hg0, (AG3.out.below AB4.out).bel⟩⟩
        · have hG4 := AG3.out.below AB4.out
          have hcel := hG4.cel
          rw [← Asn.out] at hcel
          have c1' : w4.cell? ⟨tb, 1, none⟩ = some (.int .i64 (sn : Int)) := by rw [cell_of_row w4 tb 1 _ _ _ hcel]; rfl
          have f1 : w4.frozen? ⟨tb, 1, none⟩ = false := frozen_of_row w4 tb 1 _ _ hcel
          obtain ⟨z, hz⟩ : ∃ z, z = sn + 1 := ⟨_, rfl⟩
          have hw1 : IntKind.i64.wrap ((sn : Int) + 1) = (z : Int) := by rw [wrap_small _ (by omega) (by omega), hz]; simp
          have Az9 := aside hz
          clear hz
          obtain ⟨g1, g2, g3⟩ := set_GP (i := 1) (v := .int .i64 (z : Int)) hcel
          obtain ⟨U1, hU1⟩ : ∃ U1, U1 = w4.setCell ⟨tb, 1, none⟩ (.int .i64 (z : Int)) := ⟨_, rfl⟩
          rw [← hU1] at g1 g2 g3
          have AB14 : Aside (Below W1.heap.size W1 w4) := below_tr AB13.out AB4.out
          have hne : ¬ W.heap.size = tb := by omega
          have hbx : U1.cell? ⟨W.heap.size, 1, none⟩ = some (.int .i8 k) ∧ U1.cell? ⟨W.heap.size, 2, none⟩ = some (.slice a n c) := by
            obtain ⟨-, e1, e2⟩ := AC.out w4 AB14.out
            rw [← AHn.out] at e2
            have hs4 : W.heap.size < w4.heap.size := World.block_lt_of_cell? w4 _ e1
            have hk := g2.block W.heap.size hs4 hne
            exact ⟨(World.cell?_of_block hk).trans e1, (World.cell?_of_block hk).trans e2⟩
          obtain ⟨b1, b2⟩ := hbx
          have c2' : U1.cell? ⟨tb, 2, none⟩ = some (.int .i64 (byt S : Int)) := by rw [cell_of_row U1 tb 2 _ _ _ g3]; rfl
          have f2 : U1.frozen? ⟨tb, 2, none⟩ = false := frozen_of_row U1 tb 2 _ _ g3
          have hst1 := (0 : Nat)
          have hbs := AG3.out.bok
          have AN4 := aside hN4
          have AG4 := aside hG4
          have Ag1 := aside g1
          have Ag2 := aside g2
          have Ag3 := aside g3
          have Ac2 := aside c2'
          have Af2 := aside f2
          have Ab1 := aside b1
          have Ab2 := aside b2
          have hlo3 : w0.heap.size ≤ w3.heap.size := AG3.out.bel.size
          have ATr1 : Aside (Tr w0.heap.size U1 S) := AG4.out.tr.ch (Ag1.out.lo (Nat.zero_le _)) saf_GP (fun cs f => Ty.no (by decide) cs f) (fun es c => Ty.map es c)
          have AN1 : Aside (NewN w3.heap.size U1 k x nb db mb) := AN4.out.ch Ag1.out saf_GP (fun cs f => Ty.no (by decide) cs f) (fun es c => Ty.map es c)
          have hdep : (spl p.data.toList).length ≤ 64 := by rw [spl_len]; have := Az.out; omega
          have Adep := aside hdep
          have AU04 : Aside (Upd (fun j => w0.heap.size ≤ j) w4 U1) := Ag2.out.mono fun j _ hj => by subst hj; exact AG4.out.tlo
          have hxl : Aside (x.length ≤ 4194304) := by
            show x.length ≤ 4194304
            rcases z3 with h0 | h1 | h2
            · have := Az4.out h0; omega
            · rw [Az5.out h1]; simp
            · have := hg0
              unfold grc at this
              rw [if_pos h2] at this
              simp only at this
              by_cases q1 : x.length = 0
              · omega
              · rw [if_neg q1] at this
                by_cases q2 : 4096 < x.length
                · rw [if_pos q2] at this; cases this
                · omega
          have Ag0 := aside hg0
          clear hG4 hcel g1 g2 g3 c2' f2 b1 b2 hst1 hN4 hdep hg0
          by_cases k0 : k = 0
          · subst k0
            have hle : n ≤ 4194304 - byt S := by rw [AHn.out]; exact Az4.out rfl
            obtain ⟨bb, hbb⟩ : ∃ bb, bb = byt S := ⟨_, rfl⟩
            have Abb := aside hbb
            rw [← hbb] at hle hbs
            obtain ⟨y, hy⟩ : ∃ y, y = bb + n := ⟨_, rfl⟩
            have hw2 : IntKind.i64.wrap ((bb : Int) + (n : Int)) = (y : Int) := by rw [wrap_small _ (by omega) (by omega), hy]; simp
            have Ay := aside hy
            clear hy
            have e2 : U1.cell? ⟨tb, 2, none⟩ = some (.int .i64 (bb : Int)) := by rw [hbb]; exact Ac2.out
            have b1 := Ab1.out
            have b2 := Ab2.out
            have f2 := Af2.out
            clear hbb
            rw [hU1] at b1
            go_wp2_with fail
            rw [← hU1]
            clear hU1 b1
            have hneW : ¬ tb = W.heap.size := by omega
            obtain ⟨U2, hU2⟩ : ∃ U2, U2 = (U1.setCell ⟨tb, 2, none⟩ (.int .i64 (y : Int))).drew := ⟨_, rfl⟩
            have hg3d : U1.heap[tb]? = some (.cells #[Pt r.nb, .int .i64 (z : Int), .int .i64 (byt S : Int)] 65 (0, 0)) := Ag3.out
            obtain ⟨g1, g2, g3⟩ := set_GP (i := 2) (v := .int .i64 (y : Int)) hg3d
            have g1' : Ch 0 GP U1 U2 := by rw [hU2]; exact g1.trans (Ch.of_below (below_dr _))
            have g3' : U2.heap[tb]? = some (.cells #[Pt r.nb, .int .i64 (z : Int), .int .i64 (y : Int)] 65 (0, 0)) := by rw [hU2]; exact g3
            have ATr2 : Aside (Tr w0.heap.size U2 S) := ATr1.out.ch (g1'.lo (Nat.zero_le _)) saf_GP (fun cs f => Ty.no (by decide) cs f) (fun es c => Ty.map es c)
            have AN2 : Aside (NewN w3.heap.size U2 0 x nb db mb) := AN1.out.ch g1' saf_GP (fun cs f => Ty.no (by decide) cs f) (fun es c => Ty.map es c)
            have AU2 : Aside (Upd (fun j => w0.heap.size ≤ j) U1 U2) := by rw [hU2]; exact (g2.mono fun j _ hj => by subst hj; exact AG4.out.tlo).trans (Upd.of_below (F := fun j => w0.heap.size ≤ j) (below_dr _)) (fun _ _ h => h)
            have Ag5 := aside g3'
            have hadd := ATr2.out.adds (i := (p, 0, x)) hdS hdk Asp.out AAll.out Adep.out (by have := Asn3.out; omega) ANew.out AN2.out AG3.out.tr (Nat.le_refl _) hlo3 hxl.out Az5.out
            rw [← AN.out, ← Adn.out] at hadd
            have AAd := aside hadd
            clear hadd g1 g2 g3 g1' g3' hg3d
            go_region
            clear b2 f2 e2
            go_wp2_with fail
            rw [← hU2]
            clear hU2
            refine AAd.out.mono ?_
            rintro e W' ⟨rfl, hT, hCh, hUp⟩
            have AT' := aside hT
            have ACh := aside hCh
            have AUp := aside hUp
            clear hT hCh hUp
            go_wp2_with fail
            go_ret
            have hu : used (enOf (p, 0, x) nb db mb) = n := by rw [AHn.out]; rfl
            refine ⟨by rw [AM.out, Ag0.out]; rfl, .inr ⟨by rw [AM.out]; exact Ag0.out, nb, db, mb, ⟨?_, AT'.out, AG3.out.tlo, by simp [AG3.out.rin], AG3.out.rp, AG3.out.rk, ?_, ?_, ?_⟩⟩⟩
            · exact ((AG4.out.bel.trans (AU04.out.below AG4.out.bel.size (fun _ h => h))).trans (AU2.out.below (Nat.le_trans AG4.out.bel.size AU04.out.size) (fun _ h => h))).trans (AUp.out.below (Nat.le_trans (Nat.le_trans AG4.out.bel.size AU04.out.size) AU2.out.size) (fun _ h => h))
            · have := ACh.out.keep (Nat.zero_le _) Ag5.out (Tob.no (by decide) _ _)
              rw [this]
              have hl : (S ++ [enOf (p, 0, x) nb db mb]).length - 1 = z := by rw [List.length_append, Az9.out, ← Asn3.out]; simp
              rw [byt_app, hu, hl, ← Abb.out, ← Ay.out]
            · rw [byt_app, hu, ← Abb.out]
              omega
            · rw [List.length_append, ← Asn3.out]
              simp
              omega
          · have k1 : (k == 0) = false := beq_eq_false_iff_ne.2 k0
            have b1 := Ab1.out
            rw [hU1] at b1
            have hadd := ATr1.out.adds (i := (p, k, x)) hdS hdk Asp.out AAll.out Adep.out (by have := Asn3.out; omega) ANew.out AN1.out AG3.out.tr (Nat.le_refl _) hlo3 hxl.out Az5.out
            rw [← AN.out, ← Adn.out] at hadd
            have AAd := aside hadd
            clear hadd
            go_wp2_with fail
            rw [← hU1]
            clear hU1 b1
            refine AAd.out.mono ?_
            rintro e W' ⟨rfl, hT, hCh, hUp⟩
            have AT' := aside hT
            have ACh := aside hCh
            have AUp := aside hUp
            clear hT hCh hUp
            go_wp2_with fail
            go_ret
            refine ⟨by rw [AM.out, Ag0.out]; rfl, .inr ⟨by rw [AM.out]; exact Ag0.out, nb, db, mb, ⟨?_, AT'.out, AG3.out.tlo, by simp [AG3.out.rin], AG3.out.rp, AG3.out.rk, ?_, ?_, ?_⟩⟩⟩
            · exact (AG4.out.bel.trans (AU04.out.below AG4.out.bel.size (fun _ h => h))).trans (AUp.out.below (Nat.le_trans AG4.out.bel.size AU04.out.size) (fun _ h => h))
            · have := ACh.out.keep (Nat.zero_le _) Ag3.out (Tob.no (by decide) _ _)
              rw [this]
              have hu : used (enOf (p, k, x) nb db mb) = 0 := by
                unfold used enOf
                rw [if_neg]
                simp only
                omega
              have hl : (S ++ [enOf (p, k, x) nb db mb]).length - 1 = z := by rw [List.length_append, Az9.out, ← Asn3.out]; simp
              rw [byt_app, hu, hl]
              rfl
            · have hu : used (enOf (p, k, x) nb db mb) = 0 := by
                unfold used enOf
                rw [if_neg]
                simp only
                omega
              rw [byt_app, hu]
              exact hbs
            · rw [List.length_append, ← Asn3.out]
              simp
              omega
  · have hr1 : (rc == 0) = false := beq_eq_false_iff_ne.2 hr0
    have hmc : mcode S (p, k, x) = rc := by
      unfold mcode
      rw [if_pos (by rw [← AHr.out]; exact hr0), ← AHr.out]
    have AM := aside hmc
    clear hmc
    go_wp2_with fail
    go_ret
    exact ⟨by rw [AM.out]; rfl, .inl ⟨by rw [AM.out]; exact hr0, (AG.out.below AB2.out).bel⟩⟩
end Go.Proofs.YtbnaegoahdcejaaGreatDoor
