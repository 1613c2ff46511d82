/- slices.Clone of bytes and span.fit: where the new rows stand and what they hold. -/
import Derived.Test.YtleenkdlnmoepaaGet
namespace Go.Proofs.Ytleenkdlnmoepaa
open Go.RowKit
attribute [local simp] lcells_nil readB_length bcells_length
/-- append onto a row that is known whole: the row goes on in its own block, or stands in the next new one. -/
theorem run_append_where {P : Program} (w : World) (t ty e : TypeId) (z : Value) (size bytes : Nat) (ht : P.underlying t = some (.slice e)) (hinfo : (P.info? e).map (fun i => (i.zero, i.size, i.bytes)) = some (some z, size, bytes))
    (hzs : z.cells.size = size) (hsz : 0 < size) (v : Value) (n : Nat) (xs : List Value) (hown : w.ownsRow 0 e size v n xs)
    (a : Addr) (m c : Nat) (news : List Value) (hl : news.length = m * size) (hnews : ∀ j u, news[j]? = some u → w.cell? (a.add j) = some u) (h1 : ∀ u ∈ news, u.oneCell' = true)
    (h63 : n + m ≤ maxLen) (hbytes : (n + m) * bytes ≤ 140737488355328) (hm : 0 < m) :
    ∃ v' w', (Builtin.append_ #[t, t] ty #[v, .slice (some a) m c]).run P w = .ok v' w' ∧ w'.ownsRow 0 e size v' (n + m) (xs ++ news) ∧ w.grownBy w' v.ownBlock ∧
      (v'.ownBlock = v.ownBlock ∧ (∃ g, v.ownBlock = some g) ∨ v'.ownBlock = some w.heap.size ∧ Below w.heap.size w w') := by
  obtain ⟨i, hi, hz, hs, hb⟩ := info_parts hinfo
  obtain ⟨v', w', hr, h2, h3, h4⟩ := run_append_own (P := P) w 0 t ty e i z size bytes ht hi hz hs hb hzs hsz v n xs hown a m c news hl hnews h1 h63 hbytes (Nat.zero_le _)
  refine ⟨v', w', hr, h2, h3, ?_⟩
  rcases hown.2 with ⟨rfl, rfl⟩ | ⟨g, cap, cur, rfl, -, hg, hnc, hcm, hcs, htake⟩
  · right
    have hx := run_append_nil (P := P) w t ty e i z ht hi hz a m c news (by rw [hs]; exact hl) hnews (by omega) (by have h := h63; unfold maxLen at h; omega) (by rw [hb]; have h := hbytes; simp only [Nat.zero_add] at h; omega)
    rw [hr] at hx
    injection hx with e1 e2
    subst e1; subst e2
    exact ⟨rfl, below_tr (below_dr w) (below_al w.drew _)⟩
  · by_cases hroom : n + m ≤ cap
    · left
      obtain ⟨w2, hx, -, -⟩ := run_append_fits (P := P) w 0 t ty e i size ht hi hs g n cap xs hown a m c news hl hnews h1 hroom
      rw [hr] at hx
      injection hx with e1 e2
      subst e1
      exact ⟨rfl, g, rfl⟩
    · right
      have hx := run_append_grow (P := P) w t ty e i z ht hi hz ⟨g, 0, none⟩ n cap xs (by rw [hs]; exact hown.1) (hown.cells (g := g) rfl) a m c news (by rw [hs]; exact hl) hnews (by omega) (by have h := h63; unfold maxLen at h; omega) (by rw [hb]; exact growslice_fits (by omega) hbytes)
      rw [hr] at hx
      injection hx with e1 e2
      subst e1; subst e2
      exact ⟨rfl, below_tr (below_dr w) (below_al w.drew _)⟩

theorem wpList_append_where {P : Program} (w : World) {ops : Array Oper} {rest : List Oper} {o : Oper} {a : Act} {Q : Exit → Act → World → Prop} (hgd : o.guard = none) (s x : Operand) (t : TypeId)
    (ho : o.op = .call { callee := .builtin .append, args := #[s, x], argTypes := #[t, t] }) (e : TypeId) (z : Value) (size bytes : Nat) (ht : P.underlying t = some (.slice e)) (hinfo : (P.info? e).map (fun i => (i.zero, i.size, i.bytes)) = some (some z, size, bytes))
    (hzs : z.cells.size = size) (hsz : 0 < size) (v : Value) (n : Nat) (xs : List Value) (hs : a.eval s = v) (hown : w.ownsRow 0 e size v n xs)
    (ad : Addr) (m c : Nat) (news : List Value) (hx : a.eval x = .slice (some ad) m c) (hl : news.length = m * size) (hnews : ∀ j u, news[j]? = some u → w.cell? (ad.add j) = some u) (h1 : ∀ u ∈ news, u.oneCell' = true)
    (h63 : n + m ≤ maxLen) (hbytes : (n + m) * bytes ≤ 140737488355328) (hm : 0 < m)
    (h : ∀ v' w', w'.ownsRow 0 e size v' (n + m) (xs ++ news) → w.grownBy w' v.ownBlock → (v'.ownBlock = v.ownBlock ∧ (∃ g, v.ownBlock = some g) ∨ v'.ownBlock = some w.heap.size ∧ Below w.heap.size w w') → wpList P ops Q rest (a.put o.dst v') w') : wpList P ops Q (o :: rest) a w := by
  obtain ⟨v', w', hr, h2, h3, h4⟩ := run_append_where (P := P) w t o.type e z size bytes ht hinfo hzs hsz v n xs hown ad m c news hl hnews h1 h63 hbytes hm
  refine wpList_plain hgd fun K hK => ?_
  unfold Oper.wp execOp
  simp only [ho, resolve, invoke, builtin, Sem.run_bind, Sem.run_pure, Result.andThen_ok, List.map_toArray, List.map_cons, List.map_nil, hs, hx, hr]
  exact hK _ _ (h v' w' h2 h3 h4)

set_option maxHeartbeats 400000 in
theorem clone_any (src : Addr) (l : List UInt8) (c : Nat) (w : World) (h0 : 0 < l.length) (hlen : l.length ≤ 4294967296) (hsrc : ∀ j v, (bcells l)[j]? = some v → w.cell? (src.add j) = some v) :
    Calls Try.prog 51 #[.slice (some src) l.length c] w fun e w' => ∃ g cap, e = .returned (.slice (some ⟨g, 0, none⟩) l.length cap) ∧ w.heap.size ≤ g ∧ w'.ownsRow 0 5 1 (.slice (some ⟨g, 0, none⟩) l.length cap) l.length (bcells l) ∧ Below w.heap.size w w' := by
  have hnil : ∀ w, (binOp .eql 41 (.slice (some src) l.length c) (.slice none 0 0)).run Try.prog w = .ok (.bool false) w := fun w => Lib.run_eql_slice_nil w 41 5 (some src) l.length c 0 0 Try.underlying41
  have hB : Below w.heap.size w (w.alloc (.cells #[] 5)) := below_al w _
  have hown : (w.alloc (.cells #[] 5)).ownsRow 0 5 1 (.slice (some ⟨w.heap.size, 0, none⟩) 0 0) 0 [] := World.ownsRow_made w #[] 0 (Nat.zero_le _) (by decide) (by simp)
  have hs2 : ∀ j v, (bcells l)[j]? = some v → (w.alloc (.cells #[] 5)).cell? (src.add j) = some v := fun j v h => (hB.cell (World.block_lt_of_cell? w _ (hsrc j v h))).trans (hsrc j v h)
  have h63 : 0 + l.length ≤ maxLen := by unfold maxLen; omega
  have hby : (0 + l.length) * 1 ≤ 140737488355328 := by omega
  have hll : (bcells l).length = l.length * 1 := by simp
  have HO := aside hown
  have HS := aside hs2
  have HB := aside hB
  have H63 := aside h63
  have HLL := aside hll
  clear hs2 hsrc hown hB h63 hll
  go_enter Try.func51, Try.ntmps51
  go_wp2_with (at_builtin; refine wpList_append_where _ rfl _ _ 41 rfl 5 (.int .u8 0) 1 1 Try.underlying41 info5 rfl (by decide) (.slice (some ⟨w.heap.size, 0, none⟩) 0 0) 0 [] rfl HO.out _ l.length _ (bcells l) rfl HLL.out HS.out (bcells_one _) H63.out hby h0 ?_; intro v' w' ho hg hwh)
  go_ret
  simp only [Nat.zero_add, List.nil_append] at ho
  rcases ho.2 with ⟨-, hz⟩ | ⟨g, cap, cur, rfl, r⟩
  · omega
  · refine ⟨g, cap, rfl, ?_, ho, ?_⟩
    · rcases hwh with ⟨e1, -⟩ | ⟨e1, -⟩
      · simp only [Value.ownBlock, Option.some.injEq] at e1; omega
      · simp only [Value.ownBlock, Option.some.injEq, World.size_alloc] at e1; omega
    · exact (HB.out).grown hg (by simp) (fun k hk => by simp only [Value.ownBlock, Option.some.injEq] at hk; omega)

set_option maxHeartbeats 400000 in
theorem fit55_any (v : Value) (n : Nat) (xs : List Value) (w : World) (hown : w.ownsRow 0 179 2 v n xs) (hn : n ≤ 4294967296) (h1 : ∀ u ∈ xs, u.oneCell' = true) :
    Calls Try.prog 56 #[v] w fun e w' => ∃ v', e = .returned v' ∧ w'.ownsRow 0 179 2 v' n xs ∧ Below w.heap.size w w' ∧ (v' = v ∨ ∃ g, v'.ownBlock = some g ∧ w.heap.size ≤ g) := by
  rcases hown.2 with ⟨rfl, rfl⟩ | ⟨g, cap, cur, rfl, -, hg, hnc, hcm, hcs, htake⟩
  · have HO := aside hown
    clear hown
    go_enter Try.func56, Try.ntmps56
    go_wp2
    go_ret
    exact ⟨_, rfl, HO.out, Below.refl _ _, .inl rfl⟩
  · have HO := aside hown
    have hcell := aside (hown.cells (g := g) rfl)
    have hlx := aside hown.1
    clear hown htake hg hcs cur
    unfold maxLen at hcm
    by_cases hc : (cap : Int) / 4 ≤ (n : Int)
    · go_enter Try.func56, Try.ntmps56
      go_wp2
      go_ret
      exact ⟨_, rfl, HO.out, Below.refl _ _, .inl rfl⟩
    · obtain ⟨i, hi, hz, hs, hb⟩ := info_parts info56
      have H1 := aside h1
      have Hi := aside hi
      have Hz := aside hz
      have Hs := aside hs
      have Hb := aside hb
      have h63 : 0 + n ≤ maxLen := by unfold maxLen; omega
      have H63 := aside h63
      have hby : (0 + n) * 32 ≤ 140737488355328 := by omega
      have hb2 : i.bytes * n ≤ 281474976710656 := by rw [hb]; omega
      clear h63 h1 hi hz hs hb
      go_enter Try.func56, Try.ntmps56
      go_wp2_with (first
        | (at_make; refine wpList_make_own _ rfl _ _ 113 rfl w.heap.size 179 i (.agg #[.int .i64 0, .slice none 0 0]) 2 Try.underlying113 Hi.out Hz.out Hs.out .i64 .i64 (n : Int) n rfl rfl rfl hb2 (by have := H63.out; omega) (Nat.le_refl _) ?_; intro w1 ho1 hg1)
        | (at_builtin; refine wpList_append_own _ rfl _ _ 113 rfl w.heap.size 179 i (.agg #[.int .i64 0, .slice none 0 0]) 2 32 Try.underlying113 Hi.out Hz.out Hs.out Hb.out rfl (by decide) (.slice (some ⟨w.heap.size, 0, none⟩) 0 n) 0 [] rfl ho1 ⟨g, 0, none⟩ n cap xs rfl hlx.out (fun j u hj => hg1.cell (hcell.out j u hj) (by simp)) H1.out H63.out hby hg1.size ?_; intro v' w2 ho2 hg2 hv2))
      go_ret
      simp only [Nat.zero_add, List.nil_append] at ho2
      have hB1 : Below w.heap.size w w1 := (Below.refl _ w).grown hg1 (Nat.le_refl _) (fun k hk => by simp at hk)
      have hB2 : Below w.heap.size w w2 := hB1.grown hg2 hg1.size (fun k hk => by simp only [Value.ownBlock, Option.some.injEq] at hk; omega)
      rcases ho2.2 with ⟨rfl, hz0⟩ | ⟨g2, cap2, cur2, rfl, hb3, r⟩
      · exact absurd (hv2.1 rfl).1 (by simp)
      · exact ⟨_, rfl, ⟨ho2.1, .inr ⟨g2, cap2, cur2, rfl, Nat.zero_le _, r⟩⟩, hB2, .inr ⟨g2, rfl, hb3⟩⟩

set_option maxHeartbeats 400000 in
theorem fit50_any (v : Value) (n : Nat) (xs : List Value) (w : World) (hown : w.ownsRow 0 5 1 v n xs) (hn : n ≤ 4294967296) (h1 : ∀ u ∈ xs, u.oneCell' = true) :
    Calls Try.prog 89 #[v] w fun e w' => ∃ v', e = .returned v' ∧ w'.ownsRow 0 5 1 v' n xs ∧ Below w.heap.size w w' ∧ (v' = v ∨ ∃ g, v'.ownBlock = some g ∧ w.heap.size ≤ g) := by
  rcases hown.2 with ⟨rfl, rfl⟩ | ⟨g, cap, cur, rfl, -, hg, hnc, hcm, hcs, htake⟩
  · have HO := aside hown
    clear hown
    go_enter Try.func89, Try.ntmps89
    go_wp2
    go_ret
    exact ⟨_, rfl, HO.out, Below.refl _ _, .inl rfl⟩
  · have HO := aside hown
    have hcell := aside (hown.cells (g := g) rfl)
    have hlx := aside hown.1
    clear hown htake hg hcs cur
    unfold maxLen at hcm
    by_cases hc : (cap : Int) / 4 ≤ (n : Int)
    · go_enter Try.func89, Try.ntmps89
      go_wp2
      go_ret
      exact ⟨_, rfl, HO.out, Below.refl _ _, .inl rfl⟩
    · obtain ⟨i, hi, hz, hs, hb⟩ := info_parts info5
      have H1 := aside h1
      have Hi := aside hi
      have Hz := aside hz
      have Hs := aside hs
      have Hb := aside hb
      have h63 : 0 + n ≤ maxLen := by unfold maxLen; omega
      have H63 := aside h63
      have hby : (0 + n) * 1 ≤ 140737488355328 := by omega
      have hb2 : i.bytes * n ≤ 281474976710656 := by rw [hb]; omega
      clear h63 h1 hi hz hs hb
      go_enter Try.func89, Try.ntmps89
      go_wp2_with (first
        | (at_make; refine wpList_make_own _ rfl _ _ 41 rfl w.heap.size 5 i (.int .u8 0) 1 Try.underlying41 Hi.out Hz.out Hs.out .i64 .i64 (n : Int) n rfl rfl rfl hb2 (by have := H63.out; omega) (Nat.le_refl _) ?_; intro w1 ho1 hg1)
        | (at_builtin; refine wpList_append_own _ rfl _ _ 41 rfl w.heap.size 5 i (.int .u8 0) 1 1 Try.underlying41 Hi.out Hz.out Hs.out Hb.out rfl (by decide) (.slice (some ⟨w.heap.size, 0, none⟩) 0 n) 0 [] rfl ho1 ⟨g, 0, none⟩ n cap xs rfl hlx.out (fun j u hj => hg1.cell (hcell.out j u hj) (by simp)) H1.out H63.out hby hg1.size ?_; intro v' w2 ho2 hg2 hv2))
      go_ret
      simp only [Nat.zero_add, List.nil_append] at ho2
      have hB1 : Below w.heap.size w w1 := (Below.refl _ w).grown hg1 (Nat.le_refl _) (fun k hk => by simp at hk)
      have hB2 : Below w.heap.size w w2 := hB1.grown hg2 hg1.size (fun k hk => by simp only [Value.ownBlock, Option.some.injEq] at hk; omega)
      rcases ho2.2 with ⟨rfl, hz0⟩ | ⟨g2, cap2, cur2, rfl, hb3, r⟩
      · exact absurd (hv2.1 rfl).1 (by simp)
      · exact ⟨_, rfl, ⟨ho2.1, .inr ⟨g2, cap2, cur2, rfl, Nat.zero_le _, r⟩⟩, hB2, .inr ⟨g2, rfl, hb3⟩⟩
end Go.Proofs.Ytleenkdlnmoepaa
