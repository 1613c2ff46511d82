/- Files of memory, as far as the statements ask: New of any bytes tells a handle. -/
import Derived.Test.YtbofeednhihniaaOf
import Derived.Lib.SlBytesConst
import Derived.Lib.ConvBytes
namespace Go.Proofs.Ytbofeednhihniaa
open Go.RowKit
attribute [local simp] lcells_nil readB_length bcells_length

/-- What memory.New answers: a handle, in new memory. -/
def MemR (w w' : World) (e : Ending) : Prop := ∃ h, e = .returned (.tuple #[.pointer (some ⟨h, 0, none⟩), .int .i64 0]) ∧ Below w.heap.size w w'

set_option maxHeartbeats 1000000 in
theorem putNone0 (b : Nat) (a : Option Addr) (c : Nat) (w : World) : Calls Try.prog 22 #[.pointer (some ⟨b, 0, none⟩), .int .i64 0, .slice a 0 c] w fun e w' => e = .returned (.int .i64 0) ∧ w' = w := by
  go_enter Try.func22, Try.ntmps22
  go_wp2
  go_ret
  exact ⟨rfl, rfl⟩

set_option maxHeartbeats 1000000 in
theorem newNone_any (a : Option Addr) (c : Nat) (w : World) (hc : c ≤ 9223372036854775807) :
    Calls Try.prog 18 #[.slice a 0 c] w fun e w' => e = .returned (.pointer (some ⟨w.heap.size, 0, none⟩)) ∧ Below w.heap.size w w' := by
  have hcc : (0 : Int) ≤ (c : Int) := by omega
  go_enter Try.func18, Try.ntmps18
  go_wp2_with ((with_reducible refine wpList_min2 _ rfl _ _ _ rfl (0 : Int) 4194304 (0 : Int) ?_ ?_ (by decide) ?_); rfl; rfl)
  refine (putNone0 _ _ _ _).mono ?_
  rintro e w' ⟨rfl, rfl⟩
  go_wp2
  go_ret
  exact ⟨rfl, below_al w _⟩

set_option maxHeartbeats 1000000 in
theorem newW_any (src : Addr) (l : List UInt8) (c : Nat) (w : World) (h0 : 0 < l.length) (hlc : l.length ≤ c) (hc : c ≤ 9223372036854775807) (hsrc : ∀ j v, (bcells l)[j]? = some v → w.cell? (src.add j) = some v) :
    Calls Try.prog 18 #[.slice (some src) l.length c] w fun e w' => e = .returned (.pointer (some ⟨w.heap.size, 0, none⟩)) ∧ ∃ lv g cap, Rep w' w.heap.size (l.take 4194304).length lv [⟨0, g, cap, l.take 4194304⟩] ∧ Below w.heap.size w w' ∧ ∀ k, Foot w.heap.size lv [⟨0, g, cap, l.take 4194304⟩] k → w.heap.size ≤ k := by
  obtain ⟨m, hm⟩ : ∃ m, m = (l.take 4194304).length := ⟨_, rfl⟩
  have hm2 : m = min l.length 4194304 := by rw [hm, List.length_take]; omega
  have hmn : min (l.length : Int) 4194304 = (m : Int) := by omega
  have hA := below_al w (.cells #[.int .i64 0, .int .i64 0, .slice none 0 0] 66)
  have P1 := putEnd_any w.heap.size 0 (.slice none 0 0) [] 0 src (l.take 4194304) c (w.alloc (.cells #[.int .i64 0, .int .i64 0, .slice none 0 0] 66)) (rep_new w) (by simp) (by omega) (by omega) (by simp [heldOf]; omega)
    (fun j v hj => by
      have h2 : (bcells l)[j]? = some v := by
        have e : bcells (l.take 4194304) = (bcells l).take 4194304 := by simp [bcells, List.map_take]
        rw [e, List.getElem?_take] at hj
        split at hj
        · exact hj
        · cases hj
      exact (hA.cell (World.block_lt_of_cell? w _ (hsrc j v h2))).trans (hsrc j v h2))
  rw [← hm] at P1 ⊢
  have HP := aside P1
  have HMN := aside hmn
  have HA := aside hA
  have hmc : m ≤ c := by omega
  have hmi : (m : Int) ≤ (c : Int) := by omega
  clear P1 hmn hA hsrc hm hm2
  go_enter Try.func18, Try.ntmps18
  go_wp2_with ((with_reducible refine wpList_min2 _ rfl _ _ _ rfl (l.length : Int) 4194304 (m : Int) ?_ ?_ HMN.out ?_); rfl; rfl)
  refine HP.out.mono ?_
  rintro e w1 ⟨rfl, lv, g, cap, hR, hu, hg, hk⟩
  go_wp2
  go_ret
  refine ⟨rfl, lv, g, cap, ?_, ?_, ?_⟩
  · simpa using hR
  · refine HA.out.trans (hu.below (by simp) (fun k hk => ?_))
    rcases hk with e | e | ⟨d, hd, -⟩
    · omega
    · simp [Value.ownBlock] at e
    · simp at hd
  · intro k hk
    rw [World.size_alloc] at hg
    rcases hk with e | e | ⟨d, hd, e⟩
    · omega
    · rcases ‹lv.ownBlock = _ ∨ _› with e1 | ⟨j, e1, hj⟩
      · rw [e1] at e; simp [Value.ownBlock] at e
      · rw [e1] at e; injection e with e; rw [World.size_alloc] at hj; omega
    · rw [List.mem_singleton.1 hd] at e; simp only at e; omega

theorem spanNew_any (a : Option Addr) (l : List UInt8) (c : Nat) (w : World) (hlc : l.length ≤ c) (hc : c ≤ 9223372036854775807) (h : l ≠ [] → ∃ src, a = some src ∧ ∀ j v, (bcells l)[j]? = some v → w.cell? (src.add j) = some v) :
    Calls Try.prog 18 #[.slice a l.length c] w fun e w' => e = .returned (.pointer (some ⟨w.heap.size, 0, none⟩)) ∧ Below w.heap.size w w' := by
  by_cases hn : l = []
  · subst hn
    exact newNone_any a c w hc
  · obtain ⟨ad, rfl, hs⟩ := h hn
    refine (newW_any ad l c w (List.length_pos_iff.2 hn) hlc hc hs).mono ?_
    rintro e w' ⟨rfl, lv, g, cap, hR, hb, hf⟩
    exact ⟨rfl, hb⟩

set_option maxHeartbeats 1000000 in
theorem memNew0 (v : Value) (w : World) (hv : ∃ a n c, v = .slice a n c ∧ n ≤ 1000) (hs : Calls Try.prog 18 #[v] w fun e w' => e = .returned (.pointer (some ⟨w.heap.size, 0, none⟩)) ∧ Below w.heap.size w w') :
    Calls Try.prog 9 #[v, .int .u8 0] w fun e w' => MemR w w' e := by
  obtain ⟨a, n, c, rfl, hn⟩ := hv
  have hn2 : ¬ (4194304 < (n : Int)) := by omega
  have HS := aside hs
  clear hs
  go_enter Try.func9, Try.ntmps9
  go_wp2_with fail
  refine HS.out.mono ?_
  rintro e w1 ⟨rfl, hb1⟩
  have HB := aside hb1
  clear hb1
  go_wp2_with fail
  refine (of_none w.heap.size w1).mono ?_
  rintro e w2 ⟨hb, fb, m, rfl, -, -, -, -, -, hb2⟩
  have HB2 := aside hb2
  clear hb2
  go_wp2_with fail
  go_ret2
  exact ⟨hb, rfl, below_tr HB.out HB2.out⟩

set_option maxHeartbeats 1000000 in
theorem memNew15 (v : Value) (w : World) (hv : ∃ a n c, v = .slice a n c ∧ n ≤ 1000) (hs : Calls Try.prog 18 #[v] w fun e w' => e = .returned (.pointer (some ⟨w.heap.size, 0, none⟩)) ∧ Below w.heap.size w w') :
    Calls Try.prog 9 #[v, .int .u8 15] w fun e w' => MemR w w' e := by
  obtain ⟨a, n, c, rfl, hn⟩ := hv
  have hn2 : ¬ (4194304 < (n : Int)) := by omega
  have HS := aside hs
  clear hs
  go_enter Try.func9, Try.ntmps9
  go_wp2_with fail
  refine HS.out.mono ?_
  rintro e w1 ⟨rfl, hb1⟩
  have HB := aside hb1
  clear hb1
  go_wp2_with fail
  refine (of_all w.heap.size w1).mono ?_
  rintro e w2 ⟨hb, fb, m, rfl, -, -, -, -, -, hb2⟩
  have HB2 := aside hb2
  clear hb2
  go_wp2_with fail
  go_ret2
  exact ⟨hb, rfl, below_tr HB.out HB2.out⟩

theorem cells_lit {w : World} {src : Nat} {cs : List Value} {ty : TypeId} {fr : Nat × Nat} (h : w.heap[src]? = some (.cells cs.toArray ty fr)) : ∀ j v, cs[j]? = some v → w.cell? (Addr.add ⟨src, 0, none⟩ j) = some v := fun j v hj => by
  rw [Addr.add_lit, Nat.zero_add, cell_of_row w src j _ _ _ h]
  simpa using hj
/-- New of a row of bytes that is known whole. -/
theorem memRow0 (src : Nat) (l : List UInt8) (c : Nat) (fr : Nat × Nat) (w : World) (hl : l.length ≤ 1000) (hlc : l.length ≤ c) (hc : c ≤ 9223372036854775807) (h : w.heap[src]? = some (.cells (bcells l).toArray 5 fr)) :
    Calls Try.prog 9 #[.slice (some ⟨src, 0, none⟩) l.length c, .int .u8 0] w fun e w' => MemR w w' e :=
  memNew0 _ w ⟨_, _, _, rfl, hl⟩ (spanNew_any _ l c w hlc hc fun _ => ⟨_, rfl, cells_lit (cs := bcells l) h⟩)
theorem memNil0 (w : World) : Calls Try.prog 9 #[.slice none 0 0, .int .u8 0] w fun e w' => MemR w w' e :=
  memNew0 _ w ⟨_, _, _, rfl, by decide⟩ (newNone_any none 0 w (by decide))
/-- New of a string's bytes. -/
theorem memStr15 (s : ByteArray) (w : World) (h : s.size ≤ 1000) :
    Calls Try.prog 9 #[.slice (some ⟨w.heap.size, 0, none⟩) s.size (grownCap w s.size 0 5), .int .u8 15] (Lib.bytesWorld w 5 s) fun e w' => MemR w w' e := by
  have hl : s.data.toList.length = s.size := by simp
  have hg := grownCap_ge w s.size 0 5
  have hm := grownCap_le_maxLen w s.size 0 5 (by unfold maxLen; omega)
  have hB : Below w.heap.size w (Lib.bytesWorld w 5 s) := ⟨rfl, rfl, rfl, by rw [Lib.bytesWorld_size]; omega, fun k hk => Lib.bytesWorld_at_old w 5 s k hk⟩
  have := spanNew_any (some ⟨w.heap.size, 0, none⟩) s.data.toList (grownCap w s.size 0 5) (Lib.bytesWorld w 5 s) (by rw [hl]; exact hg) hm fun _ => ⟨_, rfl, fun j v hj => by
    have hj2 : j < s.size := by
      have := (List.getElem?_eq_some_iff.1 hj).1
      rw [bcells_length, hl] at this
      exact this
    rw [Addr.add_lit, Nat.zero_add, Lib.bytesWorld_cell w 5 s j hj2]
    rw [← hj]
    simp [bcells, List.getD, hj2]⟩
  rw [hl] at this
  refine (memNew15 _ _ ⟨_, _, _, rfl, h⟩ this).mono ?_
  rintro e w' ⟨x, rfl, hb⟩
  exact ⟨x, rfl, below_tr hB hb⟩
end Go.Proofs.Ytbofeednhihniaa
