/- New nodes of either side. -/
import Derived.Test.YtknjclekfmmfeabGreatDoorQLwa
import Derived.Test.YtknjclekfmmfeabGreatDoorGH
import Derived.Test.YtknjclekfmmfeabGreatDoorGC
import Derived.Test.YtknjclekfmmfeabGreatDoorQPwo
import Derived.Lib.ConvBytes
namespace Go.Proofs.YtknjclekfmmfeabGreatDoor
open Go.RowKit Go.ChangeMaps

set_option maxRecDepth 20000 in
theorem rLink_none (w : World) : Calls Tryz.prog 50 #[.string ⟨#[]⟩] w fun e w' => e = .returned (.tuple #[.pointer none, .int .i64 190]) ∧ w' = w := by
  go_enter Tryz.func50, Tryz.ntmps50
  go_wp2_with fail
  go_ret2
  exact ⟨rfl, rfl⟩
set_option maxRecDepth 20000 in
theorem rLink_long (s : ByteArray) (w : World) (h : 4096 < s.size) : Calls Tryz.prog 50 #[.string s] w fun e w' => e = .returned (.tuple #[.pointer none, .int .i64 3]) ∧ w' = w := by
  have h0 : (s.toList == ([] : List UInt8)) = false := by
    rw [Lib.toList_data]
    cases e : s.data.toList with
    | nil => have := Lib.size_eq s; rw [e, List.length_nil] at this; omega
    | cons _ _ => rfl
  have h0b : s.toList.isEmpty = false := by
    rw [Lib.toList_data]
    cases e : s.data.toList with
    | nil => have := Lib.size_eq s; rw [e, List.length_nil] at this; omega
    | cons _ _ => rfl
  have h1 : (4096 : Int) < (s.size : Int) := by omega
  go_enter Tryz.func50, Tryz.ntmps50
  go_wp2_with fail
  go_ret2
  exact ⟨rfl, rfl⟩
set_option maxRecDepth 20000 in
theorem rMount_dir {w : World} {nb : Nat} {f : Value} {to : ByteArray} {m : Value} {L : List RK} {up : Value} (h : Rc w nb 1 f to m L up) : Calls Tryz.prog 52 #[Pt nb] w fun e w' => e = .returned (.tuple #[Pt w.heap.size, .int .i64 0]) ∧ Rc w' w.heap.size 3 (.pointer none) ⟨#[]⟩ (Pt nb) [] (.pointer none) ∧ Below w.heap.size w w' := by
  obtain ⟨a, c, h1, -⟩ := h.cel
  have hc : w.cell? ⟨nb, 0, none⟩ = some (.int .i8 1) := by rw [cell_of_row w nb 0 _ _ _ h1]; rfl
  clear h h1
  go_enter Tryz.func52, Tryz.ntmps52
  go_wp2_with fail
  go_ret2
  exact ⟨rfl, ⟨none, 0, heap_alloc_new w _, Nat.le_refl _, fun h => absurd rfl h⟩, below_al w _⟩
set_option maxRecDepth 20000 in
theorem rWhite_any (w : World) : Calls Tryz.prog 54 #[] w fun e w' => e = .returned (Pt w.heap.size) ∧ Rc w' w.heap.size 4 (.pointer none) ⟨#[]⟩ (.pointer none) [] (.pointer none) ∧ Below w.heap.size w w' := by
  go_enter Tryz.func54, Tryz.ntmps54
  go_wp2_with fail
  go_ret
  exact ⟨rfl, ⟨none, 0, heap_alloc_new w _, Nat.le_refl _, fun h => absurd rfl h⟩, below_al w _⟩
set_option maxRecDepth 20000 in
set_option maxHeartbeats 1000000 in
theorem r4New_any (a : Option Addr) (l : List UInt8) (c : Nat) (w : World) (hs : BsAt w a l) (hl : l.length ≤ 4194304) : Calls Tryz.prog 47 #[.slice a l.length c, .int .u8 15] w fun e w' => ∃ b, e = .returned (.tuple #[Pt b, .int .i64 0]) ∧ Below w.heap.size w w' := by
  have hn : ¬ (4194304 : Int) < (l.length : Int) := by omega
  have AN := aside (new1_any a l c w hs hl)
  obtain ⟨n, hnn⟩ : ∃ n, n = l.length := ⟨_, rfl⟩
  rw [← hnn] at hn AN ⊢
  clear hs hnn
  go_enter Tryz.func47, Tryz.ntmps47
  go_wp2_with fail
  refine AN.out.mono ?_
  rintro e w1 ⟨b, rfl, -, -, hb⟩
  go_wp2_with fail
  go_ret2
  exact ⟨w1.heap.size, rfl, below_tr hb (below_al _ _)⟩
theorem bw_below (w : World) (s : ByteArray) : Below w.heap.size w (Lib.bytesWorld w 5 s) := by
  exact ⟨rfl, rfl, rfl, by rw [Lib.bytesWorld_size]; omega, fun k hk => Lib.bytesWorld_at_old w 5 s k hk⟩
theorem bw_bs (w : World) (l : B) : BsAt (Lib.bytesWorld w 5 (ba l)) (some ⟨w.heap.size, 0, none⟩) l := fun _ => by
  refine ⟨_, rfl, fun j v hj => ?_⟩
  have h := Lib.bytesWorld_at_new w 5 (ba l)
  rw [Addr.add_lit, Nat.zero_add, cell_of_row _ _ j _ _ _ h]
  have hlt : j < l.length := by have := (List.getElem?_eq_some_iff.1 hj).1; rwa [bcells_length] at this
  unfold Lib.bytesCells
  rw [Array.getElem?_append_left (by simp [ba]; exact hlt)]
  simpa [ba, bcells] using hj
theorem GX.umax {lo : Nat} {w : World} {S : List Ne} (h : GX lo w S) : ∀ (i : Nat) (d : Ne), S[i]? = some d → d.k = 3 → d.u < S.length := fun i d hd hk => by
  obtain ⟨-, -, -, -, hn⟩ := h.nod i d hd
  rcases hn with ⟨hk2, -⟩ | ⟨hk2, -⟩ | ⟨hk2, -⟩ | ⟨-, d', hd', -⟩ | ⟨hk2, -⟩
  · omega
  · omega
  · omega
  · exact mem_len hd'
  · omega
/-- A new node of either side, behind the records. -/
def Fresh (lo : Nat) (w : World) (S : List Ne) (k : Int) (e : Ne) : Prop := e.L = [] ∧ e.par = none ∧ e.k = k ∧ GX lo w (S ++ [e]) ∧ RX lo w (S ++ [e])
theorem fresh_dir {lo : Nat} {w w1 w2 : World} {S : List Ne} (h : GX lo w S) (hR : RX lo w S) (hlo : lo ≤ w.heap.size) {nb db mb : Nat} (h1 : w.heap.size ≤ nb) (h2 : w.heap.size ≤ db) (h3 : w.heap.size ≤ mb) (hD : Dr w1 nb db mb (.pointer none) []) (b1 : Below w.heap.size w w1) (hr : Rc w2 w1.heap.size 1 (.pointer none) ⟨#[]⟩ (.pointer none) [] (.pointer none)) (b2 : Below w1.heap.size w1 w2) : Fresh lo w2 S 1 ⟨1, [], [], 0, none, nb, db, mb, w1.heap.size⟩ :=
  ⟨rfl, rfl, rfl, (dir_push h hlo h1 h2 h3 hD b1 _).below b2, hR.push h (below_tr b1 b2) (by show lo ≤ w1.heap.size; have := b1.size; omega) hr rfl rfl (fun hk => absurd hk (by show ¬ (1 : Int) = 3; decide)) h.umax b1.size⟩
theorem fresh_link {lo : Nat} {w w1 w2 : World} {S : List Ne} (h : GX lo w S) (hR : RX lo w S) (hlo : lo ≤ w.heap.size) {nb lb : Nat} {to : B} (h0 : to ≠ []) (h4 : to.length ≤ 4096) (h1 : w.heap.size ≤ nb) (h2 : w.heap.size ≤ lb) (hK : Lk w1 nb lb (ba to)) (b1 : Below w.heap.size w w1) (hr : Rc w2 w1.heap.size 2 (.pointer none) (ba to) (.pointer none) [] (.pointer none)) (b2 : Below w1.heap.size w1 w2) : Fresh lo w2 S 2 ⟨2, [], to, 0, none, nb, lb, lb, w1.heap.size⟩ :=
  ⟨rfl, rfl, rfl, (link_push h hlo h0 h4 h1 h2 hK b1 _).below b2, hR.push h (below_tr b1 b2) (by show lo ≤ w1.heap.size; have := b1.size; omega) hr rfl rfl (fun hk => absurd hk (by show ¬ (2 : Int) = 3; decide)) h.umax b1.size⟩
theorem fresh_file {lo : Nat} {w w1 w2 : World} {S : List Ne} (h : GX lo w S) (hR : RX lo w S) (hlo : lo ≤ w.heap.size) {nb fb : Nat} {f : Value} (h1 : w.heap.size ≤ nb) (h2 : w.heap.size ≤ fb) (hN : Nd w1 nb 83 fb) (b1 : Below w.heap.size w w1) (hr : Rc w2 w1.heap.size 0 f ⟨#[]⟩ (.pointer none) [] (.pointer none)) (b2 : Below w1.heap.size w1 w2) : Fresh lo w2 S 0 ⟨0, [], [], 0, none, nb, fb, fb, w1.heap.size⟩ :=
  ⟨rfl, rfl, rfl, (h.push (e := ⟨0, [], [], 0, none, nb, fb, fb, w1.heap.size⟩) b1 ⟨by show lo ≤ nb; omega, by show lo ≤ fb; omega, by show lo ≤ fb; omega, fun _ => ⟨rfl, rfl⟩, .inl ⟨rfl, hN⟩⟩ rfl rfl (fun hk => absurd hk (by show ¬ (0 : Int) = 1; decide))).below b2,
    hR.push h (below_tr b1 b2) (by show lo ≤ w1.heap.size; have := b1.size; omega) hr rfl rfl (fun hk => absurd hk (by show ¬ (0 : Int) = 3; decide)) h.umax b1.size⟩
theorem fresh_white {lo : Nat} {w w1 w2 : World} {S : List Ne} (h : GX lo w S) (hR : RX lo w S) (hlo : lo ≤ w.heap.size) {nb kb : Nat} (h1 : w.heap.size ≤ nb) (hN : Nd w1 nb 88 kb) (hkb : lo ≤ kb) (b1 : Below w.heap.size w w1) (hr : Rc w2 w1.heap.size 4 (.pointer none) ⟨#[]⟩ (.pointer none) [] (.pointer none)) (b2 : Below w1.heap.size w1 w2) : Fresh lo w2 S 4 ⟨4, [], [], 0, none, nb, kb, kb, w1.heap.size⟩ :=
  ⟨rfl, rfl, rfl, (h.push (e := ⟨4, [], [], 0, none, nb, kb, kb, w1.heap.size⟩) b1 ⟨by show lo ≤ nb; omega, by show lo ≤ kb; omega, by show lo ≤ kb; omega, fun _ => ⟨rfl, rfl⟩, .inr (.inr (.inr (.inr ⟨rfl, hN⟩)))⟩ rfl rfl (fun hk => absurd hk (by show ¬ (4 : Int) = 1; decide))).below b2,
    hR.push h (below_tr b1 b2) (by show lo ≤ w1.heap.size; have := b1.size; omega) hr rfl rfl (fun hk => absurd hk (by show ¬ (4 : Int) = 3; decide)) h.umax b1.size⟩
theorem fresh_mount {lo : Nat} {w w1 w2 : World} {S : List Ne} (h : GX lo w S) (hR : RX lo w S) (hlo : lo ≤ w.heap.size) {nb kb q : Nat} {d : Ne} (hq : S[q]? = some d) (hdk : d.k = 1) (h1 : w.heap.size ≤ nb) (h2 : w.heap.size ≤ kb) (hM : Mt w1 nb kb d.db) (b1 : Below w.heap.size w w1) (hr : Rc w2 w1.heap.size 3 (.pointer none) ⟨#[]⟩ (Pt d.rb) [] (.pointer none)) (b2 : Below w1.heap.size w1 w2) : Fresh lo w2 S 3 ⟨3, [], [], q, none, nb, kb, kb, w1.heap.size⟩ :=
  ⟨rfl, rfl, rfl, (h.push (e := ⟨3, [], [], q, none, nb, kb, kb, w1.heap.size⟩) b1 ⟨by show lo ≤ nb; omega, by show lo ≤ kb; omega, by show lo ≤ kb; omega, fun _ => ⟨rfl, rfl⟩, .inr (.inr (.inr (.inl ⟨rfl, d, by rw [app_old (mem_len hq)]; exact hq, hdk, hM⟩)))⟩ rfl rfl (fun hk => absurd hk (by show ¬ (3 : Int) = 1; decide))).below b2,
    hR.push h (below_tr b1 b2) (by show lo ≤ w1.heap.size; have := b1.size; omega) hr rfl rfl (fun _ => by show Pt d.rb = Pt (rbr (S ++ [_]) q); unfold rbr; rw [app_old (mem_len hq), hq]; rfl) h.umax b1.size⟩
end Go.Proofs.YtknjclekfmmfeabGreatDoor
